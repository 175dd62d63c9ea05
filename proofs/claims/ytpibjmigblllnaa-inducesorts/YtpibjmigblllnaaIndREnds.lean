/- Contract of the document's own ends: whorlref12.ends. -/
import Derived.Test.YtpibjmigblllnaaIndEnds
import Derived.Test.YtpibjmigblllnaaBktRStarts
import Derived.BigRegion
namespace Go.Proofs.Ytpibjmigblllnaa
set_option linter.unusedVariables false
set_option linter.unusedSimpArgs false
open Go.RowKit

set_option maxHeartbeats 1000000 in
theorem rends_any (v : Value) (s : List Int) (K : Nat) (w : World) (f : Fits s K) (hv : Sl .i64 w v (natL (cntsI s K))) (hK : K ≤ 1000000) (hn : s.length ≤ 1000000) :
    Calls Try.prog 29 #[v] w fun e w' => ∃ u, e = .returned u ∧ Own .i64 3 w.heap.size w' u (natL (endN s K)) ∧ Ext w w' := by
  have HV := hide' hv
  have C := hide' (rstarts_any _ _ w hv (by rw [natL_len, cntsI_len]; omega) (sum_bound f hn))
  rw [starts_beg f] at C
  obtain ⟨a, c, rfl, _⟩ := hv
  obtain ⟨_, _, _, hcv⟩ := HV.out.nat
  have CV := hide' hcv
  have HLC : Hid ((natL (cntsI s K)).length = K) := by show _ = _; rw [natL_len, cntsI_len]
  have HCK : Hid (∀ q, q < K → (cntsI s K).getD q 0 = cntK s.length (keyN s) q ∧ (mixN s K q).getD q 0 + cntK s.length (keyN s) q ≤ 1000000) := fun q hq => by
    refine ⟨cntsI_K f hq, ?_⟩
    rw [mixN_at s hq, begN_at s hq, ← offK_succ]
    have h3 := offK_mono s.length (keyN s) (show q + 1 ≤ K from hq)
    rw [offK_all f.lt] at h3
    omega
  have HNX : Hid (∀ q, q < K → (mixN s K q).set q ((mixN s K q).getD q 0 + cntK s.length (keyN s) q) = mixN s K (q + 1)) := fun q hq => mixN_next s hq
  have HML : Hid (∀ q, q ≤ K → (mixN s K q).length = K) := fun q hq => mixN_len s hq
  have HM0 := hide' (mixN_zero s K)
  have HMA := hide' (mixN_all s K)
  have HBL : Hid ((natL (begN s K)).length = K) := by show _ = _; rw [natL_len, begN_len]
  rw [HLC.out] at C CV HV ⊢
  clear hcv HLC hn f
  go_enter Try.func29, Try.ntmps29
  go_wp2_with fail
  refine C.out.mono ?_
  rintro e w1 ⟨s1, rfl, ho, he⟩
  have HO := hide' ho
  have HE := hide' he
  have HSH : Hid (0 < K → ∃ g cap, s1 = .slice (some ⟨g, 0, none⟩) K cap ∧ w.heap.size ≤ g) := fun hK => by
    obtain ⟨g, cap, h3, h4, _⟩ := HO.out.shape (fun e => by have := HBL.out; rw [e] at this; simp at this; omega)
    rw [HBL.out] at h3
    exact ⟨g, cap, h3, h4⟩
  clear ho he C
  obtain ⟨sa, sc, hsv, _⟩ := HO.out.sl
  rw [HBL.out] at hsv
  subst hsv
  go_wp2
  go_loopw [4] (fun vi wr => ∃ (i : Nat), i ≤ K ∧ vi = .int .i64 i ∧ Hid (Own .i64 3 w.heap.size wr (.slice sa K sc) (natL (mixN s K i))) ∧ Hid (Ext w wr)) (fun vi _ => K - (intOf vi).toNat)
  case atStart => exact ⟨0, Nat.zero_le _, rfl, (show Own _ _ _ _ _ _ by rw [HM0.out]; exact HO.out), HE⟩
  case round =>
    clear HO HE
    obtain ⟨i, hi, rfl, HO, HE⟩ := hrel
    by_cases hlt : i < K
    · have hlt' : (i : Int) < K := by omega
      obtain ⟨g1, o1, rfl, k1⟩ := CV.out (by omega)
      have c1 := HE.out.cellOf (k1 i hlt)
      clear k1
      obtain ⟨hc1, hc2⟩ := HCK.out i hlt
      have HN1 := hide' (HNX.out i hlt)
      rw [hc1] at c1
      clear hc1
      obtain ⟨g, cap, hsv, hg⟩ := HSH.out (by omega)
      simp only [Value.slice.injEq, true_and] at hsv
      obtain ⟨rfl, rfl⟩ := hsv
      have c2 := HO.out.intCell (HML.out i hi) i hlt
      have z2 := HO.out.frozen (by rw [natL_len]; exact HML.out i hi) i
      obtain ⟨x, HX⟩ : ∃ x, Hid ((mixN s K i).getD i 0 = x) := ⟨_, rfl⟩
      obtain ⟨y, HY⟩ : ∃ x, Hid (cntK s.length (keyN s) i = x) := ⟨_, rfl⟩
      rw [HX.out] at c2 hc2 HN1
      rw [HY.out] at c1 hc2 HN1
      have HO2 := hide' (HO.out.storeN (HML.out i hi) i (x + y))
      rw [HN1.out] at HO2
      have HE2 : Hid (Ext w (wr.setCell ⟨g, i, none⟩ (.int .i64 ((x + y : Nat) : Int)))) := Ext.but HE.out hg (but_set _ _ _ _)
      have hxy : IntKind.i64.wrap ((x : Int) + (y : Int)) = ((x + y : Nat) : Int) := by rw [IntKind.wrap_i64]; omega
      go_wp2_with fail
      go_big_region
      have HO3 := hide' (HO2.out.ext (Ext.drewN _ 1))
      have HE3 := hide' (HE2.out.trans (Ext.drewN _ 1))
      clear HO2 HE2 c1 c2 z2 HO HE
      go_wp2
      go_roundw
      case rel => exact ⟨i + 1, by omega, by go_num, HO3, HE3⟩
      case measure => simp [intOf]; omega
    · have hlt' : decide ((i : Int) < K) = false := by simp; omega
      have hin : i = K := by omega
      subst hin
      go_wp2
      go_ret
      exact ⟨_, rfl, by rw [← HMA.out]; exact HO.out, HE.out⟩
end Go.Proofs.Ytpibjmigblllnaa
