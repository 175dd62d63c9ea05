/- Contract of omega.sorted: by counting. -/
import Derived.Test.YtifemkgkgghapaaOmThru
import Derived.Test.YtifemkgkgghapaaKripTail
import Derived.Lib.MinMax
namespace Go.Proofs.Ytifemkgkgghapaa
set_option linter.unusedVariables false
set_option linter.unusedSimpArgs false
open Go.RowKit

theorem Own.keep {k : IntKind} {e : TypeId} {B b g n c : Nat} {w w' : World} {zs : List Int} (h : Own k e B w (.slice (some ⟨g, 0, none⟩) n c) zs) (hne : g ≠ b) (hB : But b w w') : Own k e B w' (.slice (some ⟨g, 0, none⟩) n c) zs :=
  World.ownsRow.kept (row := some b) h hB (.inr (by simp [Value.ownBlock]; exact hne))

theorem but_set (w : World) (b j : Nat) (v : Value) : But b w (w.setCell ⟨b, j, none⟩ v) := (But.refl _ _).setCell _ _

theorem cntN_le (ks : List Nat) (i k : Nat) : cntN ks i k ≤ i := by
  unfold cntN pick
  have := List.length_filter_le (fun p => (fun p => ks.getD p 0) p == k) (List.range i)
  rw [List.length_range] at this
  exact this

set_option maxHeartbeats 2000000 in
theorem sorted_any (v u : Value) (ps ks : List Nat) (n : Nat) (w : World) (hv : Sl .i64 w v (natL ps)) (hu : Sl .i64 w u (natL ks)) (hp : ps.Perm (List.range n)) (hk : ks.length = n) (hK : ∀ p, p < n → ks.getD p 0 < max 256 n) (hlen : n ≤ 100000) :
    Calls Try.prog 27 #[v, u] w fun e w' => ∃ s, e = .returned s ∧ Own .i64 3 w.heap.size w' s (natL (csort (max 256 n) ps fun p => ks.getD p 0)) ∧ Ext w w' := by
  have HV := hide' hv
  have HU := hide' hu
  have hl : ps.length = n := by rw [hp.length_eq, List.length_range]
  obtain ⟨a, c, rfl, _⟩ := hv
  obtain ⟨a', c', rfl, _⟩ := hu
  rw [natL_len] at HV HU ⊢
  rw [natL_len]
  obtain ⟨_, hc1, hc2, hcv⟩ := HV.out.nat
  obtain ⟨_, hc3, hc4, hcu⟩ := HU.out.nat
  unfold maxLen at hc2 hc4
  rw [hl] at hcv hc1 ⊢
  rw [hk] at hcu hc3 ⊢
  have CV := hide' hcv
  have CU := hide' hcu
  have HP := hide' hp
  have HKK := hide' hk
  have HLL := hide' hl
  have HIN : Hid (∀ i, i < n → ps.getD i 0 < n) := fun i hi => List.mem_range.1 (HP.out.mem_iff.1 (getN_mem (by rw [HLL.out]; exact hi)))
  have HKB := hide' hK
  have HKM : Hid (∀ p ∈ ps, ks.getD p 0 < max 256 n) := fun p hp => HKB.out p (List.mem_range.1 (HP.out.mem_iff.1 hp))
  have hmax : max (256 : Int) (n : Int) = ((max 256 n : Nat) : Int) := by omega
  have hKn : max 256 n ≤ 100256 := by omega
  have hK0 : 256 ≤ max 256 n := by omega
  generalize max 256 n = K at *
  clear hcv hcu hp hk hl hK HV HU
  obtain ⟨w1, hmk, ho, he⟩ := make_nats w (K + 1) (by omega)
  have HO := hide' ho
  have HE := hide' he
  clear ho he
  have hmk' : (Instr.makeSlice 39 (.int .i64 ((K : Int) + 1)) (.int .i64 ((K : Int) + 1))).run Try.prog w = .ok (.slice (some ⟨w.heap.size, 0, none⟩) (K + 1) (K + 1)) w1 := hmk
  clear hmk
  go_enter Try.func27, Try.ntmps27
  go_wp2
  clear hmk'
  go_loopw [20] (fun vi wr => ∃ (i : Nat) (bs : List Nat), i ≤ n ∧ vi = .int .i64 i ∧ Hid (bs.length = K + 1) ∧ Hid (bs.getD 0 0 = 0) ∧ Hid (∀ k, k < K → bs.getD (k + 1) 0 = cntN ks i k) ∧
    Hid (Own .i64 3 w.heap.size wr (.slice (some ⟨w.heap.size, 0, none⟩) (K + 1) (K + 1)) (natL bs)) ∧ Hid (Ext w wr)) (fun vi _ => n - (intOf vi).toNat)
  case atStart =>
    refine ⟨0, List.replicate (K + 1) 0, Nat.zero_le _, rfl, List.length_replicate, ?_, fun k hk => ?_, HO, HE⟩
    · show _ = _
      simp [List.getD]
    · rw [cntN_zero]; simp [List.getD, hk]
  case round =>
    obtain ⟨i, bs, hi, rfl, HL, HB0, HB, HO, HE⟩ := hrel
    by_cases hlt : i < n
    · have hlt' : (i : Int) < n := by omega
      obtain ⟨g2, o2, rfl, k2⟩ := CU.out (by omega)
      have c2 := HE.out.cellOf (k2 i hlt)
      clear k2
      have hkk := HKB.out i hlt
      obtain ⟨q, HQ⟩ : ∃ q, Hid (ks.getD i 0 = q) := ⟨_, rfl⟩
      rw [HQ.out] at c2 hkk
      have hq : (q : Int) + 1 < (K : Int) + 1 := by omega
      have hq2 : q + 1 < K + 1 := by omega
      have hfz := HO.out.frozen (by rw [natL_len]; exact HL.out) (q + 1)
      have hci := HO.out.intCell HL.out (q + 1) (by omega)
      rw [HB.out q hkk] at hci
      have hcn := cntN_le ks i q
      obtain ⟨t, HT⟩ : ∃ t, Hid (cntN ks i q = t) := ⟨_, rfl⟩
      rw [HT.out] at hci hcn
      have HO2 := hide' (HO.out.storeN HL.out (q + 1) (t + 1))
      go_wp2
      go_roundw
      case rel =>
        refine ⟨i + 1, bs.set (q + 1) (t + 1), by omega, by go_num, (show _ = _ by rw [List.length_set]; exact HL.out), (show _ = _ by rw [set_other (by omega)]; exact HB0.out), fun k hk => ?_, HO2, Ext.but HE.out (Nat.le_refl _) (but_set _ _ _ _)⟩
        by_cases hkq : k = q
        · subst hkq; rw [set_same (by rw [HL.out]; omega), cntN_same HQ.out, HT.out]
        · rw [set_other (by omega), HB.out k hk, cntN_other (by rw [HQ.out]; omega)]
      case measure => simp [intOf]; omega
    · have hlt' : decide ((i : Int) < n) = false := by simp; omega
      have hin : i = n := by omega
      subst hin
      have HB1 : Hid (∀ k, k < K → bs.getD (k + 1) 0 = (pick ps (fun p => ks.getD p 0) k).length) := fun k hk => by rw [HB.out k hk, cntN_all HP.out]
      have OM : Hid (∀ k, k ≤ K → offs ps (fun p => ks.getD p 0) k ≤ i) := fun k hk => by
        have := offs_mono ps (fun p => ks.getD p 0) hk
        rw [csort_len HKM.out, HLL.out] at this
        exact this
      clear HB
      go_wp2
      go_loopw [8] (fun vk wr => ∃ (k : Nat) (bs : List Nat), k < K + 1 ∧ vk = .int .i64 ((k : Int) + 1) ∧ Hid (bs.length = K + 1) ∧ Hid (∀ j, j ≤ k → bs.getD j 0 = offs ps (fun p => ks.getD p 0) j) ∧ Hid (∀ j, k ≤ j → j < K → bs.getD (j + 1) 0 = (pick ps (fun p => ks.getD p 0) j).length) ∧
        Hid (Own .i64 3 w.heap.size wr (.slice (some ⟨w.heap.size, 0, none⟩) (K + 1) (K + 1)) (natL bs)) ∧ Hid (Ext w wr)) (fun vk _ => K + 1 - (intOf vk).toNat)
      case atStart =>
        refine ⟨0, bs, by omega, rfl, HL, (fun j hj => ?_), (fun j _ hj => HB1.out j hj), HO, HE⟩
        have : j = 0 := by omega
        subst this
        rw [HB0.out]; rfl
      case round =>
        clear HB1 HB0 HO HE HL hi hlt hlt'
        obtain ⟨k, bs, hk, rfl, HL, HB1, HB2, HO, HE⟩ := hrel
        by_cases hkK : k < K
        · have d1 : (k : Int) + 1 < (K : Int) + 1 := by omega
          have d2 : k + 1 < K + 1 := by omega
          have c1 := HO.out.intCell HL.out (k + 1) (by omega)
          have c2 := HO.out.intCell HL.out k (by omega)
          have hfz := HO.out.frozen (by rw [natL_len]; exact HL.out) (k + 1)
          rw [HB2.out k (Nat.le_refl _) hkK] at c1
          rw [HB1.out k (Nat.le_refl _)] at c2
          have hsum := OM.out (k + 1) (by omega)
          rw [offs_succ] at hsum
          obtain ⟨p, HPP⟩ : ∃ p, Hid ((pick ps (fun p => ks.getD p 0) k).length = p) := ⟨_, rfl⟩
          obtain ⟨q, HQ⟩ : ∃ q, Hid (offs ps (fun p => ks.getD p 0) k = q) := ⟨_, rfl⟩
          rw [HPP.out] at c1 hsum
          rw [HQ.out] at c2 hsum
          have HO2 := hide' (HO.out.storeN HL.out (k + 1) (p + q))
          have e1 : (k : Int) + 1 - 1 = (k : Int) := by omega
          have e2 : (k : Int) < (K : Int) + 1 := by omega
          have e3 : k < K + 1 := by omega
          go_wp2_with fail
          refine wp_region_kt (fun _ _ _ _ => True) 11 (by kernel_rfl) (by kernel_rfl) (by kernel_rfl) ?_
          have hne := later_some wr
          have l1 := later_cell c1
          have l2 := later_cell c2
          simp only [List.take_succ_cons, List.take_zero, List.drop_succ_cons, List.drop_zero]
          refine lexK_take 11 (by kernel_rfl) ?_
          simp only [List.take_succ_cons, List.take_zero, List.drop_succ_cons, List.drop_zero]
          repeat (go_big_quiet_step (fail))
          refine wpQuiet_nil ?_
          refine lexK_nil ?_
          intro w3 he3 _
          have HO3 := hide' (HO.out.ext he3)
          have HE3 := hide' (HE.out.trans he3)
          have hfz3 := HO3.out.frozen (by rw [natL_len]; exact HL.out) (k + 1)
          have hc3 := HO3.out.intCell HL.out (k + 1) (by omega)
          have HO4 := hide' (HO3.out.storeN HL.out (k + 1) (p + q))
          clear l1 l2 hne c1 c2 hfz HO2 he3
          go_wp2
          go_roundw
          case rel =>
            refine ⟨k + 1, bs.set (k + 1) (p + q), by omega, by go_num, (show _ = _ by rw [List.length_set]; exact HL.out), fun j hj => ?_, fun j hj1 hj2 => ?_, HO4, Ext.but HE3.out (Nat.le_refl _) (but_set _ _ _ _)⟩
            · by_cases hjk : j = k + 1
              · subst hjk; rw [set_same (by rw [HL.out]; omega), offs_succ, HPP.out, HQ.out, Nat.add_comm]
              · rw [set_other (by omega), HB1.out j (by omega)]
            · rw [set_other (by omega), HB2.out j (by omega) hj2]
          case measure => simp [intOf]; omega
        · have d1 : decide ((k : Int) + 1 < (K : Int) + 1) = false := by simp; omega
          have hkk : k = K := by omega
          subst hkk
          clear HB2
          obtain ⟨w2, hmk, ho, he⟩ := make_nats wr i (by omega)
          have HO' := hide' ho
          have HO1 := hide' (HO.out.ext he)
          have HE' := hide' (HE.out.trans he)
          have hgg : w.heap.size < wr.heap.size := (World.ownsRow.lt HO.out _ rfl).2
          have HF : Hid (Fill ps (fun p => ks.getD p 0) k 0 bs (List.replicate i 0)) := Fill.start fun j hj => HB1.out j (by omega)
          clear ho he HB1 HO HE
          go_wp2
          clear hmk
          generalize hg2 : wr.heap.size = G at *
          generalize hg1 : w.heap.size = g at *
          have hG : g ≠ G := by omega
          go_loopw [54] (fun vi wq => ∃ (t : Nat) (fr row : List Nat), t ≤ i ∧ vi = .int .i64 t ∧ Hid (fr.length = k + 1) ∧ Hid (row.length = i) ∧ Hid (Fill ps (fun p => ks.getD p 0) k t fr row) ∧
            Hid (Own .i64 3 g wq (.slice (some ⟨g, 0, none⟩) (k + 1) (k + 1)) (natL fr)) ∧ Hid (Own .i64 3 G wq (.slice (some ⟨G, 0, none⟩) i i) (natL row)) ∧ Hid (Ext w wq)) (fun vi _ => i - (intOf vi).toNat)
          case atStart => exact ⟨0, bs, List.replicate i 0, Nat.zero_le _, rfl, HL, List.length_replicate, HF, HO1, HO', HE'⟩
          case round =>
            clear HF HO1 HO' HE' HL
            obtain ⟨t, fr, row, ht, rfl, HL1, HL2, HF, HO1, HO2, HE⟩ := hrel
            by_cases hlt : t < i
            · have hlt' : (t : Int) < i := by omega
              obtain ⟨g1, o1, rfl, k1⟩ := CV.out (by omega)
              obtain ⟨g2, o2, rfl, k2⟩ := CU.out (by omega)
              have hp := HIN.out t hlt
              have c1 := HE.out.cellOf (k1 t hlt)
              have c2 := HE.out.cellOf (k2 _ hp)
              clear k1 k2
              have hkp := HKB.out _ hp
              have hfa := HF.out.at HKM.out (by rw [HLL.out]; exact hlt)
              have HF2 := hide' (HF.out.next HKM.out (by rw [HLL.out]; exact hlt) (by rw [HL2.out, HLL.out]) (by rw [HL1.out]; omega))
              rw [HLL.out] at hfa
              obtain ⟨p, HPP⟩ : ∃ p, Hid (ps.getD t 0 = p) := ⟨_, rfl⟩
              rw [HPP.out] at c1 c2 hp hkp hfa HF2
              obtain ⟨q, HQ⟩ : ∃ q, Hid (ks.getD p 0 = q) := ⟨_, rfl⟩
              rw [HQ.out] at c2 hkp hfa HF2
              have c3 := HO1.out.intCell HL1.out q (by omega)
              obtain ⟨f, HFF⟩ : ∃ f, Hid (fr.getD q 0 = f) := ⟨_, rfl⟩
              rw [HFF.out] at c3 hfa HF2
              have z2 := HO2.out.frozen (by rw [natL_len]; exact HL2.out) f
              have c4 := HO2.out.intCell HL2.out f hfa
              have P2 := hide' (HO2.out.storeN HL2.out f p)
              have P1 := hide' (HO1.out.keep hG (but_set wr G f (.int .i64 (p : Int))))
              have z1 := P1.out.frozen (by rw [natL_len]; exact HL1.out) q
              have c5 := P1.out.intCell HL1.out q (by omega)
              rw [HFF.out] at c5
              have R1 := hide' (P1.out.storeN HL1.out q (f + 1))
              have R2 := hide' (P2.out.keep (Ne.symm hG) (but_set (wr.setCell ⟨G, f, none⟩ (.int .i64 (p : Int))) g q (.int .i64 ((f + 1 : Nat) : Int))))
              have b1 : (p : Int) < i := by omega
              have b2 : (q : Int) < (k : Int) + 1 := by omega
              have b3 : q < k + 1 := by omega
              have b4 : (f : Int) < i := by omega
              have XE : Hid (Ext w ((wr.setCell ⟨G, f, none⟩ (.int .i64 (p : Int))).setCell ⟨g, q, none⟩ (.int .i64 ((f + 1 : Nat) : Int)))) := by
                refine Ext.but (Ext.but HE.out (by omega) (but_set wr G f (.int .i64 (p : Int)))) (by omega) (but_set _ g q _)
              go_wp2
              go_roundw
              case rel => exact ⟨t + 1, _, _, by omega, by go_num, (show _ = _ by rw [List.length_set]; exact HL1.out), (show _ = _ by rw [List.length_set]; exact HL2.out), HF2, R1, R2, XE⟩
              case measure => simp [intOf]; omega
            · have hlt' : decide ((t : Int) < i) = false := by simp; omega
              have hti : t = i := by omega
              subst hti
              have HQ : Hid (row = csort k ps fun p => ks.getD p 0) := by
                have := HF.out
                rw [← HLL.out] at this
                exact this.done HKM.out (by rw [HL2.out, HLL.out])
              go_wp2
              go_ret
              exact ⟨_, rfl, by rw [← HQ.out]; exact HO2.out.low (by omega), HE.out⟩
end Go.Proofs.Ytifemkgkgghapaa
