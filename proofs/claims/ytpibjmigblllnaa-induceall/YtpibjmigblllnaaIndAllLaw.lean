/- InduceAll: the walk. -/
import Derived.Test.YtpibjmigblllnaaIndKnown
import Derived.Test.YtpibjmigblllnaaIndFacts
import Derived.Test.YtpibjmigblllnaaIndTurned
import Derived.Test.YtpibjmigblllnaaRefInv
import Derived.Test.YtpibjmigblllnaaKinRFirst
namespace Go.Proofs.Ytpibjmigblllnaa
set_option linter.unusedVariables false
set_option linter.unusedSimpArgs false
open Go.RowKit

set_option maxHeartbeats 1000000 in
theorem lawAll (v u : Value) (s ys : List Int) (k : Int) (w : World) (hv : Sl .i64 w v s) (hu : Sl .i64 w u ys) :
    Calls Try.prog 4 #[v, .int .i64 k, u] w fun e w' => e = .returned (.bool true) ∧ Ext w w' := by
  have HV := hide' hv
  have HU := hide' hu
  obtain ⟨a, c, rfl, _⟩ := hv
  obtain ⟨a', c', rfl, _⟩ := hu
  by_cases hm : mayB s k = true
  rotate_left
  · have HM : Hid (mayB s k = false) := Bool.eq_false_iff.2 hm
    clear hm
    go_enter Try.func4, Try.ntmps4
    go_wp2_with fail
    refine (may_any _ s k w HV.out).mono ?_
    rw [HM.out]
    rintro e _ ⟨rfl, hw⟩
    rw [hw]
    clear hw
    go_wp2
    go_ret
    exact ⟨rfl, Ext.refl _⟩
  · have HM := hide' hm
    by_cases h1 : (100 : Int) < (ys.length : Int)
    · clear hm
      go_enter Try.func4, Try.ntmps4
      go_wp2_with fail
      refine (may_any _ s k w HV.out).mono ?_
      rw [HM.out]
      rintro e _ ⟨rfl, hw⟩
      rw [hw]
      clear hw
      go_wp2
      go_ret
      exact ⟨rfl, Ext.refl _⟩
    have d1 : decide ((100 : Int) < (ys.length : Int)) = false := by simpa using h1
    have HLY : Hid (ys.length ≤ 1000000) := by show _ ≤ _; omega
    have hl := (mayB_iff.1 hm).1
    have HL : Hid (s.length ≤ 1000000) := by show _ ≤ _; omega
    have HFL : Hid ((natL (firstN s)).length ≤ 1000000) := by
      have := firN_len s s.length
      show _ ≤ _
      rw [natL_len]
      unfold firstN
      omega
    have HSF : Hid (∀ fs : List Int, fs.Perm (natL (firstN s)) → sortB s k fs = true ∧ ∃ R : List Nat, sortI s k fs = natL R ∧ R.Perm (List.range s.length) ∧
      (∀ i, i + 1 < s.length → s.getD (R.getD i 0) 0 ≤ s.getD (R.getD (i + 1) 0) 0) ∧ ((toN fs).Pairwise (ltE s) → R.Pairwise (ltE s))) := fun fs hp => sort_facts hm hp
    obtain ⟨_, _, _, hcv⟩ := HV.out.int
    have CV := hide' hcv
    obtain ⟨n, HN⟩ : ∃ n, Hid (s.length = n) := ⟨_, rfl⟩
    have hn : n ≤ 120 := by rw [← HN.out]; exact hl
    rw [HN.out] at CV HV HSF ⊢
    clear hm hl hcv h1
    go_enter Try.func4, Try.ntmps4
    go_wp2_with fail
    refine (may_any _ s k w HV.out).mono ?_
    rw [HM.out]
    rintro e _ ⟨rfl, hw⟩
    rw [hw]
    clear hw
    go_wp2_with fail
    refine (rfirst_any _ s w HV.out HL.out).mono ?_
    rintro e w1 ⟨s1, rfl, ho, he⟩
    have S1 := hide' ho.sl
    have X1 := hide' he
    clear ho he
    go_wp2_with fail
    refine (turned_any _ _ (natL (firstN s)) ys w1 S1.out (HU.out.ext X1.out) HFL.out HLY.out).mono ?_
    rintro e w2 ⟨s2, xs, rfl, hp, ho, he⟩
    have S2 := hide' ho.sl
    have X2 := hide' (X1.out.trans he)
    obtain ⟨hb, R, hR, hRp, hRs, _⟩ := HSF.out xs hp
    have HB := hide' hb
    have HRR := hide' hR
    have HRS := hide' hRs
    have HRL : Hid (R.length = n) := by show _ = _; rw [hRp.length_eq, List.length_range]
    have HRM : Hid (∀ i, i < n → R.getD i 0 < n) := fun i hi => List.mem_range.1 (hRp.mem_iff.1 (getN_mem (by rw [HRL.out]; exact hi)))
    have HOR : Hid (ordB (natL R) = true) := ordB_nat hRp
    clear hp ho he hb hR hRp hRs HSF
    go_wp2_with fail
    refine (sort_any _ _ s xs k w2 (HV.out.ext X2.out) S2.out HL.out).mono ?_
    rw [HB.out, HRR.out]
    rintro e w3 ⟨s3, rfl, ho, he⟩
    have S3 := hide' ho.sl
    have X3 := hide' (X2.out.trans he)
    clear ho he
    have HNR : Hid ((natL R).length = n) := by show _ = _; rw [natL_len, HRL.out]
    obtain ⟨a3, c3, hs3, _⟩ := S3.out
    rw [HNR.out] at hs3
    subst hs3
    go_wp2_with fail
    refine (ris_any _ (natL R) w3 S3.out (by rw [HNR.out]; omega)).mono ?_
    rw [HOR.out]
    rintro e w4 ⟨rfl, he⟩
    have S4 := hide' (S3.out.ext he)
    have X4 := hide' (X3.out.trans he)
    clear he
    obtain ⟨_, _, _, hcv⟩ := S4.out.nat
    have CR := hide' hcv
    clear hcv
    go_wp2
    go_loopw [10] (fun vi wr => ∃ (i : Nat), 1 ≤ i ∧ (i ≤ n ∨ i = 1) ∧ vi = .int .i64 i ∧ ∃ m, wr = w4.drewN m) (fun vi _ => n + 1 - (intOf vi).toNat)
    case atStart => exact ⟨1, Nat.le_refl _, .inr rfl, rfl, 0, rfl⟩
    case round =>
      obtain ⟨i, hi1, hi, rfl, d, rfl⟩ := hrel
      by_cases hlt : i < n
      · have hlt' : (i : Int) < n := by omega
        obtain ⟨j, HJ⟩ : ∃ j, Hid (i = j + 1) := ⟨i - 1, by show _ = _; omega⟩
        have hij : (i : Int) - 1 = (j : Int) := by have := HJ.out; omega
        have hj : j < n := by have := HJ.out; omega
        have hj' : (j : Int) < n := by omega
        obtain ⟨g1, o1, rfl, k1⟩ := CV.out (by omega)
        obtain ⟨g2, o2, rfl, k2⟩ := CR.out (by omega)
        have q1 := k2 i hlt
        have q2 := k2 j hj
        have hx := HRM.out i hlt
        have hy := HRM.out j hj
        have hxy := HRS.out j (by rw [← HJ.out]; exact hlt)
        rw [← HJ.out] at hxy
        obtain ⟨x, HX⟩ : ∃ x, Hid (R.getD i 0 = x) := ⟨_, rfl⟩
        obtain ⟨y, HY⟩ : ∃ x, Hid (R.getD j 0 = x) := ⟨_, rfl⟩
        rw [HX.out] at q1 hx hxy
        rw [HY.out] at q2 hy hxy
        have q3 := X4.out.cellOf (k1 x hx)
        have q4 := X4.out.cellOf (k1 y hy)
        have hx' : (x : Int) < n := by omega
        have hy' : (y : Int) < n := by omega
        clear k1 k2
        obtain ⟨p, HP⟩ : ∃ p, Hid (s.getD x 0 = p) := ⟨_, rfl⟩
        obtain ⟨q, HQ⟩ : ∃ p, Hid (s.getD y 0 = p) := ⟨_, rfl⟩
        rw [HP.out] at q3 hxy
        rw [HQ.out] at q4 hxy
        have dd : decide (p < q) = false := by simp; omega
        go_wp2_with fail
        go_quiet (fail)
        go_wp2
        go_roundw
        case rel => exact ⟨i + 1, by omega, by omega, by go_num, _, by first | rfl | exact World.drewN_drewN _ _ _⟩
        case measure => simp [intOf] <;> omega
      · have hlt' : decide ((i : Int) < n) = false := by simp; omega
        have d2 : decide (i < n) = false := by simp; omega
        have X5 : Hid (Ext w (w4.drewN d)) := X4.out.trans (Ext.drewN _ _)
        generalize w4.drewN d = W at *
        go_wp2_with fail
        refine (known_any W).mono ?_
        rintro e w9 ⟨rfl, he⟩
        have X9 := hide' (X5.out.trans he)
        clear he
        go_wp2
        go_ret
        exact ⟨rfl, X9.out⟩
end Go.Proofs.Ytpibjmigblllnaa
