/- OmegaCompares: the walk. -/
import Derived.Test.YtifemkgkgghapaaOmRef
import Derived.Test.YtifemkgkgghapaaOmKnown
namespace Go.Proofs.Ytifemkgkgghapaa
set_option linter.unusedVariables false
set_option linter.unusedSimpArgs false
open Go.RowKit

set_option maxHeartbeats 400000 in
theorem lawCompares (u v : Value) (xs ys : List Int) (w : World) (hu : Sl .u8 w u xs) (hv : Sl .u8 w v ys) :
    Calls Try.prog 3 #[u, v] w fun e w' => e = .returned (.bool true) ∧ Ext w w' := by
  have HU := hide' hu
  have HV := hide' hv
  obtain ⟨a, c, rfl, k1, k2, _⟩ := hu
  obtain ⟨a', c', rfl, k3, k4, _⟩ := hv
  unfold maxLen at k2 k4
  by_cases h0 : (100 : Int) < (xs.length : Int)
  · go_enter Try.func3, Try.ntmps3
    go_wp2
    go_ret
    exact ⟨rfl, Ext.refl _⟩
  have d0 : decide ((100 : Int) < (xs.length : Int)) = false := by simpa using h0
  by_cases h1 : (100 : Int) < (ys.length : Int)
  · go_enter Try.func3, Try.ntmps3
    go_wp2
    go_ret
    exact ⟨rfl, Ext.refl _⟩
  have d1 : decide ((100 : Int) < (ys.length : Int)) = false := by simpa using h1
  have l1 : xs.length ≤ 100000 := by omega
  have l2 : ys.length ≤ 100000 := by omega
  clear h0 h1
  have C1 : Hid (∀ W, Ext w W → Calls Try.prog 8 #[.slice a xs.length c, .slice a' ys.length c'] W fun e w' => e = .returned (.int .i64 (omI xs ys)) ∧ Ext W w') := fun W h => toExt (omega_any _ _ xs ys W (HU.out.ext h) (HV.out.ext h) l1 l2)
  have C2 : Hid (∀ W, Ext w W → Calls Try.prog 9 #[.slice a xs.length c, .slice a' ys.length c'] W fun e w' => e = .returned (.int .i64 (omI xs ys)) ∧ Ext W w') := fun W h => rcompare_any _ _ xs ys W (HU.out.ext h) (HV.out.ext h) l1 l2
  have C3 : Hid (∀ W, Ext w W → Calls Try.prog 8 #[.slice a' ys.length c', .slice a xs.length c] W fun e w' => e = .returned (.int .i64 (- omI xs ys)) ∧ Ext W w') := fun W h => by
    have := toExt (omega_any _ _ ys xs W (HV.out.ext h) (HU.out.ext h) l2 l1)
    rwa [omI_swap] at this
  have H3 := hide' (omI_three xs ys)
  generalize omI xs ys = A at *
  have hA : -1 ≤ A ∧ A ≤ 1 := by rcases H3.out with h | h | h <;> omega
  obtain ⟨hA1, hA2⟩ := hA
  have q1 : (A == A) = true := by simp
  have q2 : (-A == -A) = true := by simp
  go_enter Try.func3, Try.ntmps3
  go_wp2_with fail
  refine (C1.out _ (Ext.refl _)).mono ?_
  rintro e w1 ⟨rfl, he⟩
  have X1 := hide' he
  clear he
  go_wp2_with fail
  refine (C2.out _ X1.out).mono ?_
  rintro e w2 ⟨rfl, he⟩
  have X2 := hide' (X1.out.trans he)
  clear he
  go_wp2_with fail
  refine (C3.out _ X2.out).mono ?_
  rintro e w3 ⟨rfl, he⟩
  have X3 := hide' (X2.out.trans he)
  clear he
  go_wp2_with fail
  refine (C2.out _ X3.out).mono ?_
  rintro e w4 ⟨rfl, he⟩
  have X4 := hide' (X3.out.trans he)
  clear he
  go_wp2_with fail
  refine (known_any _).mono ?_
  rintro e w5 ⟨rfl, he⟩
  have X5 := hide' (X4.out.trans he)
  clear he
  go_wp2
  go_ret
  exact ⟨rfl, X5.out⟩
end Go.Proofs.Ytifemkgkgghapaa
