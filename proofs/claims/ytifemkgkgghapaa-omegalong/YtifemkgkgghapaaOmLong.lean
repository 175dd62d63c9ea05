/- OmegaLong: the walk. -/
import Derived.Test.YtifemkgkgghapaaOmKnown
import Derived.Test.YtifemkgkgghapaaRefWords
namespace Go.Proofs.Ytifemkgkgghapaa
set_option linter.unusedVariables false
set_option linter.unusedSimpArgs false
open Go.RowKit

set_option maxHeartbeats 400000 in
theorem lawLong (u v : Value) (xs ys : List Int) (w : World) (hu : Sl .u8 w u xs) (hv : Sl .u8 w v ys) :
    Calls Try.prog 6 #[u, v] w fun e w' => e = .returned (.bool true) ∧ Ext w w' := by
  have HU := hide' hu
  have HV := hide' hv
  obtain ⟨a, c, rfl, k1, k2, _⟩ := hu
  obtain ⟨a', c', rfl, k3, k4, _⟩ := hv
  unfold maxLen at k2 k4
  by_cases h0 : (xs.length : Int) < 1
  · go_enter Try.func6, Try.ntmps6
    go_wp2
    go_ret
    exact ⟨rfl, Ext.refl _⟩
  have d0 : decide ((xs.length : Int) < 1) = false := by simpa using h0
  by_cases h1 : (ys.length : Int) < 1
  · go_enter Try.func6, Try.ntmps6
    go_wp2
    go_ret
    exact ⟨rfl, Ext.refl _⟩
  have d1 : decide ((ys.length : Int) < 1) = false := by simpa using h1
  by_cases h2 : (20 : Int) < (xs.length : Int)
  · go_enter Try.func6, Try.ntmps6
    go_wp2
    go_ret
    exact ⟨rfl, Ext.refl _⟩
  have d2 : decide ((20 : Int) < (xs.length : Int)) = false := by simpa using h2
  by_cases h3 : (20 : Int) < (ys.length : Int)
  · go_enter Try.func6, Try.ntmps6
    go_wp2
    go_ret
    exact ⟨rfl, Ext.refl _⟩
  have d3 : decide ((20 : Int) < (ys.length : Int)) = false := by simpa using h3
  have l1 : xs.length ≤ 20 := by omega
  have l2 : ys.length ≤ 20 := by omega
  have p1 : 0 < xs.length := by omega
  have p2 : 0 < ys.length := by omega
  clear h0 h1 h2 h3
  have HL := hide' (omI_long p1 p2)
  have R1 : Hid ((repI xs (2 * ys.length)).length ≤ 1000000) := by
    have : 2 * ys.length * xs.length ≤ 40 * 20 := Nat.mul_le_mul (by omega) l1
    show _ ≤ _; rw [repI_len]; omega
  have R2 : Hid ((repI ys (2 * xs.length)).length ≤ 1000000) := by
    have : 2 * xs.length * ys.length ≤ 40 * 20 := Nat.mul_le_mul (by omega) l2
    show _ ≤ _; rw [repI_len]; omega
  have C1 : Hid (∀ W, Ext w W → Calls Try.prog 8 #[.slice a xs.length c, .slice a' ys.length c'] W fun e w' => e = .returned (.int .i64 (omI xs ys)) ∧ Ext W w') := fun W h => toExt (omega_any _ _ xs ys W (HU.out.ext h) (HV.out.ext h) (by omega) (by omega))
  have C2 : Hid (∀ W, Ext w W → Calls Try.prog 15 #[.slice a xs.length c, .int .i64 ((2 * ys.length : Nat) : Int)] W fun e w' => ∃ s, e = .returned s ∧ Own .u8 5 W.heap.size w' s (repI xs (2 * ys.length)) ∧ Ext W w') := fun W h => times_any _ xs _ W (HU.out.ext h) (by omega) (by omega)
  have C3 : Hid (∀ W, Ext w W → Calls Try.prog 15 #[.slice a' ys.length c', .int .i64 ((2 * xs.length : Nat) : Int)] W fun e w' => ∃ s, e = .returned s ∧ Own .u8 5 W.heap.size w' s (repI ys (2 * xs.length)) ∧ Ext W w') := fun W h => times_any _ ys _ W (HV.out.ext h) (by omega) (by omega)
  have m1 : 2 * (ys.length : Int) = ((2 * ys.length : Nat) : Int) := by omega
  have m2 : 2 * (xs.length : Int) = ((2 * xs.length : Nat) : Int) := by omega
  generalize repI xs (2 * ys.length) = X at *
  generalize repI ys (2 * xs.length) = Y at *
  generalize 2 * ys.length = M1 at *
  generalize 2 * xs.length = M2 at *
  generalize omI xs ys = A at *
  have q1 : (A == A) = true := by simp
  go_enter Try.func6, Try.ntmps6
  go_wp2_with fail
  refine (C1.out _ (Ext.refl _)).mono ?_
  rintro e w1 ⟨rfl, he⟩
  have X1 := hide' he
  clear he
  go_wp2_with fail
  refine (C2.out _ X1.out).mono ?_
  rintro e w2 ⟨s1, rfl, ho, he⟩
  have O1 := hide' ho.sl
  have X2 := hide' (X1.out.trans he)
  clear ho he
  go_wp2_with fail
  refine (C3.out _ X2.out).mono ?_
  rintro e w3 ⟨s2, rfl, ho, he⟩
  have O2 := hide' ho.sl
  have X3 := hide' (X2.out.trans he)
  have O1' := hide' (O1.out.ext he)
  clear ho he O1
  go_wp2_with fail
  refine (toExt (words_any _ _ X Y w3 O1'.out O2.out R1.out R2.out)).mono ?_
  rw [HL.out]
  rintro e w4 ⟨rfl, he⟩
  have X4 := hide' (X3.out.trans he)
  clear he
  go_wp2_with fail
  refine (known_any _).mono ?_
  rintro e w5 ⟨rfl, he⟩
  have X5 := hide' (X4.out.trans he)
  clear he
  go_wp2
  go_ret
  exact ⟨rfl, X5.out⟩
end Go.Proofs.Ytifemkgkgghapaa
