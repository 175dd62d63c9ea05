/- Contracts of induce.ends and induce.emptyRow; what the buckets' beginnings and ends are. -/
import Derived.Test.YtabgbioocfdjiaaIndFold
import Derived.Test.YtabgbioocfdjiaaBktStarts
import Derived.Test.YtabgbioocfdjiaaBktCounts
namespace Go.Proofs.Ytabgbioocfdjiaa
set_option linter.unusedVariables false
set_option linter.unusedSimpArgs false
open Go.RowKit

theorem cntsI_K {s : List Int} {K q : Nat} (f : Fits s K) (h : q < K) : (cntsI s K).getD q 0 = cntK s.length (keyN s) q := by
  rw [cntsI_at s h]
  have := cntI_pick (ps := List.range s.length) (key := keyN s) (zs := s) (fun j hj => by
    rw [List.length_range] at hj
    rw [rangeN_at hj]
    exact f.num j hj) q s.length (by rw [List.length_range]; exact Nat.le_refl _)
  rw [this]
  unfold cntK
  congr 2
  rw [List.take_of_length_le (by rw [List.length_range]; exact Nat.le_refl _)]
theorem sum_offK {s : List Int} {K : Nat} (f : Fits s K) : ∀ q, q ≤ K → sumI (natL (cntsI s K)) q = (offK s.length (keyN s) q : Int) := sum_offs fun q hq => cntsI_K f hq
theorem starts_beg {s : List Int} {K : Nat} (f : Fits s K) : startsI (natL (cntsI s K)) = natL (begN s K) := by
  refine getD_ext (by rw [startsI_len, natL_len, natL_len, cntsI_len]; simp [begN]) fun q hq => ?_
  rw [startsI_len, natL_len, cntsI_len] at hq
  rw [startsI_at _ (by rw [natL_len, cntsI_len]; exact hq), sum_offK f q (by omega), natL_at]
  unfold begN
  rw [mapI_at _ _ hq]
theorem sum_bound {s : List Int} {K : Nat} (f : Fits s K) (hn : s.length ≤ 1000000) : ∀ i, i ≤ (natL (cntsI s K)).length → -4611686018427387904 ≤ sumI (natL (cntsI s K)) i ∧ sumI (natL (cntsI s K)) i ≤ 4611686018427387904 := fun i hi => by
  rw [natL_len, cntsI_len] at hi
  rw [sum_offK f i hi]
  have h3 := offK_mono s.length (keyN s) hi
  rw [offK_all f.lt] at h3
  omega
theorem begN_len (s : List Int) (K : Nat) : (begN s K).length = K := by simp [begN]
theorem endN_len (s : List Int) (K : Nat) : (endN s K).length = K := by simp [endN]
theorem begN_at (s : List Int) {K q : Nat} (h : q < K) : (begN s K).getD q 0 = offK s.length (keyN s) q := mapI_at _ _ h
theorem endN_at (s : List Int) {K q : Nat} (h : q < K) : (endN s K).getD q 0 = offK s.length (keyN s) q + cntK s.length (keyN s) q := by
  rw [← offK_succ]
  exact mapI_at _ _ h
/-- The first q are ends, the others beginnings yet. -/
def mixN (s : List Int) (K q : Nat) : List Nat := (endN s K).take q ++ (begN s K).drop q
theorem mixN_len (s : List Int) {K q : Nat} (h : q ≤ K) : (mixN s K q).length = K := by
  unfold mixN
  rw [List.length_append, List.length_take, List.length_drop, endN_len, begN_len]
  omega
theorem mixN_zero (s : List Int) (K : Nat) : mixN s K 0 = begN s K := by simp [mixN]
theorem mixN_all (s : List Int) (K : Nat) : mixN s K K = endN s K := by
  unfold mixN
  rw [List.take_of_length_le (by rw [endN_len]; exact Nat.le_refl _), List.drop_of_length_le (by rw [begN_len]; exact Nat.le_refl _), List.append_nil]
theorem mixN_at (s : List Int) {K q : Nat} (h : q < K) : (mixN s K q).getD q 0 = (begN s K).getD q 0 := by
  unfold mixN
  simp only [List.getD_eq_getElem?_getD]
  rw [List.getElem?_append_right (by rw [List.length_take, endN_len]; omega), List.length_take, endN_len, List.getElem?_drop, show q + (q - min q K) = q by omega]
theorem mixN_next (s : List Int) {K q : Nat} (h : q < K) : (mixN s K q).set q ((mixN s K q).getD q 0 + cntK s.length (keyN s) q) = mixN s K (q + 1) := by
  rw [mixN_at s h, begN_at s h, ← endN_at s h]
  unfold mixN
  rw [takeN_succ (by rw [endN_len]; exact h), List.set_append_right _ _ (by rw [List.length_take, endN_len]; omega), List.length_take, endN_len, show q - min q K = 0 by omega, dropN_cons (by rw [begN_len]; exact h)]
  simp

set_option maxHeartbeats 1000000 in
theorem ends_any (v : Value) (s : List Int) (K : Nat) (w : World) (f : Fits s K) (hv : Sl .i64 w v (natL (cntsI s K))) (hK : K ≤ 1048576) (hn : s.length ≤ 1000000) :
    Calls Try.prog 28 #[v] w fun e w' => ∃ u, e = .returned u ∧ Own .i64 3 w.heap.size w' u (natL (endN s K)) ∧ Ext w w' := by
  have HV := hide' hv
  have C := hide' (starts_any _ _ w hv (by rw [natL_len, cntsI_len]; omega) (sum_bound f hn))
  rw [starts_beg f] at C
  obtain ⟨a, c, rfl, _⟩ := hv
  obtain ⟨_, _, _, hcv⟩ := HV.out.nat
  have CV := hide' hcv
  have HLC : Hid ((natL (cntsI s K)).length = K) := by show _ = _; rw [natL_len, cntsI_len]
  have HCK : Hid (∀ q, q < K → (cntsI s K).getD q 0 = cntK s.length (keyN s) q ∧ (mixN s K q).getD q 0 + cntK s.length (keyN s) q ≤ 1000000) := fun q hq => by
    refine ⟨cntsI_K f hq, ?_⟩
    rw [mixN_at s hq, begN_at s hq, ← offK_succ]
    have h3 := offK_mono s.length (keyN s) (show q + 1 ≤ K from hq)
    rw [offK_all f.lt] at h3
    omega
  have HNX : Hid (∀ q, q < K → (mixN s K q).set q ((mixN s K q).getD q 0 + cntK s.length (keyN s) q) = mixN s K (q + 1)) := fun q hq => mixN_next s hq
  have HML : Hid (∀ q, q ≤ K → (mixN s K q).length = K) := fun q hq => mixN_len s hq
  have HM0 := hide' (mixN_zero s K)
  have HMA := hide' (mixN_all s K)
  rw [HLC.out] at C CV HV ⊢
  clear hcv HLC hn f
  go_enter Try.func28, Try.ntmps28
  go_wp2_with fail
  refine C.out.mono ?_
  rintro e w1 ⟨s1, rfl, ho, he⟩
  have HO := hide' ho
  have HE := hide' he
  have HSH : Hid (0 < K → ∃ g cap, s1 = .slice (some ⟨g, 0, none⟩) K cap ∧ w.heap.size ≤ g) := fun hK => by
    have hl : (natL (begN s K)).length = K := by rw [natL_len, begN_len]
    obtain ⟨g, cap, h3, h4, _⟩ := HO.out.shape (fun e => by rw [e] at hl; simp at hl; omega)
    rw [hl] at h3
    exact ⟨g, cap, h3, h4⟩
  clear ho he C
  go_wp2
  go_loopw [10] (fun vi wr => ∃ (i : Nat), i ≤ K ∧ vi = .int .i64 i ∧ Hid (Own .i64 3 w.heap.size wr s1 (natL (mixN s K i))) ∧ Hid (Ext w wr)) (fun vi _ => K - (intOf vi).toNat)
  case atStart => exact ⟨0, Nat.zero_le _, rfl, (show Own _ _ _ _ _ _ by rw [HM0.out]; exact HO.out), HE⟩
  case round =>
    clear HO HE
    obtain ⟨i, hi, rfl, HO, HE⟩ := hrel
    by_cases hlt : i < K
    · have hlt' : (i : Int) < K := by omega
      obtain ⟨g1, o1, rfl, k1⟩ := CV.out (by omega)
      have c1 := HE.out.cellOf (k1 i hlt)
      clear k1
      obtain ⟨hc1, hc2⟩ := HCK.out i hlt
      have HN1 := hide' (HNX.out i hlt)
      rw [hc1] at c1
      clear hc1
      obtain ⟨g, cap, rfl, hg⟩ := HSH.out (by omega)
      have c2 := HO.out.intCell (HML.out i hi) i hlt
      have z2 := HO.out.frozen (by rw [natL_len]; exact HML.out i hi) i
      obtain ⟨x, HX⟩ : ∃ x, Hid ((mixN s K i).getD i 0 = x) := ⟨_, rfl⟩
      obtain ⟨y, HY⟩ : ∃ x, Hid (cntK s.length (keyN s) i = x) := ⟨_, rfl⟩
      rw [HX.out] at c2 hc2 HN1
      rw [HY.out] at c1 hc2 HN1
      have HO2 := hide' (HO.out.storeN (HML.out i hi) i (x + y))
      rw [HN1.out] at HO2
      have HE2 : Hid (Ext w (wr.setCell ⟨g, i, none⟩ (.int .i64 ((x + y : Nat) : Int)))) := Ext.but HE.out hg (but_set _ _ _ _)
      go_wp2
      go_roundw
      case rel => exact ⟨i + 1, by omega, by go_num, HO2, HE2⟩
      case measure => simp [intOf]; omega
    · have hlt' : decide ((i : Int) < K) = false := by simp; omega
      have hin : i = K := by omega
      subst hin
      go_wp2
      go_ret
      exact ⟨_, rfl, by rw [← HMA.out]; exact HO.out, HE.out⟩

set_option maxHeartbeats 400000 in
theorem emptyRow_any (n : Nat) (w : World) (hn : n ≤ 1000000) :
    Calls Try.prog 26 #[.int .i64 n] w fun e w' => e = .returned (.slice (some ⟨w.heap.size, 0, none⟩) n n) ∧ Own .i64 3 w.heap.size w' (.slice (some ⟨w.heap.size, 0, none⟩) n n) (List.replicate n (-1)) ∧ Ext w w' := by
  obtain ⟨w1, hmk, ho, he⟩ := make_intsB w n (by omega)
  have HO := hide' ho
  have HE := hide' he
  clear ho he
  go_enter Try.func26, Try.ntmps26
  go_wp2
  clear hmk
  go_loopw [9] (fun vi wr => ∃ (i : Nat) (bs : List Int), i ≤ n ∧ vi = .int .i64 i ∧ Hid (bs.length = n) ∧ Hid (∀ j, j < i → bs.getD j 0 = -1) ∧
    Hid (Own .i64 3 w.heap.size wr (.slice (some ⟨w.heap.size, 0, none⟩) n n) bs) ∧ Hid (Ext w wr)) (fun vi _ => n - (intOf vi).toNat)
  case atStart => exact ⟨0, List.replicate n 0, Nat.zero_le _, rfl, List.length_replicate, (fun j hj => by omega), HO, HE⟩
  case round =>
    clear HO HE
    obtain ⟨i, bs, hi, rfl, HL, HB, HO, HE⟩ := hrel
    by_cases hlt : i < n
    · have hlt' : (i : Int) < n := by omega
      have hfz := HO.out.frozen HL.out i
      have hci := HO.out.cell HL.out i hlt
      have HO2 := hide' (HO.out.store HL.out i (-1))
      go_wp2
      go_roundw
      case rel =>
        refine ⟨i + 1, bs.set i (-1), by omega, by go_num, (show _ = _ by rw [List.length_set]; exact HL.out), fun j hj => ?_, HO2, Ext.but HE.out (Nat.le_refl _) (but_set _ _ _ _)⟩
        by_cases hji : j = i
        · subst hji; rw [setI_same (by rw [HL.out]; exact hlt)]
        · rw [setI_other (by omega), HB.out j (by omega)]
      case measure => simp [intOf]; omega
    · have hlt' : decide ((i : Int) < n) = false := by simp; omega
      have hin : i = n := by omega
      subst hin
      have HQ : Hid (bs = List.replicate i (-1)) := getD_ext (by rw [HL.out, List.length_replicate]) fun j hj => by
        rw [HL.out] at hj
        rw [HB.out j hj]
        simp [List.getD, hj]
      go_wp2
      go_ret
      exact ⟨rfl, by rw [← HQ.out]; exact HO.out, HE.out⟩
end Go.Proofs.Ytabgbioocfdjiaa
