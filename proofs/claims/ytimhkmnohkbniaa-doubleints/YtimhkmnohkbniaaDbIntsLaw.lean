/- DoubleInts: the walk. -/
import Derived.Test.YtimhkmnohkbniaaDbKnown
import Derived.Test.YtimhkmnohkbniaaSaRef
namespace Go.Proofs.Ytimhkmnohkbniaa
set_option linter.unusedVariables false
set_option linter.unusedSimpArgs false
open Go.RowKit

set_option maxHeartbeats 1000000 in
theorem lawInts (v : Value) (s : List Int) (k : Int) (w : World) (hv : Sl .i64 w v s) :
    Calls Try.prog 3 #[v, .int .i64 k] w fun e w' => e = .returned (.bool true) ∧ Ext w w' := by
  have HV := hide' hv
  obtain ⟨a, c, rfl, _⟩ := hv
  by_cases h1 : (120 : Int) < (s.length : Int)
  · go_enter Try.func3, Try.ntmps3
    go_wp2
    go_ret
    exact ⟨rfl, Ext.refl _⟩
  have d1 : decide ((120 : Int) < (s.length : Int)) = false := by simpa using h1
  have HL3 : Hid (s.length ≤ 1000000) := by show _ ≤ _; omega
  clear h1
  by_cases h34 : 5000 < k ∧ k ≤ 1048576
  · obtain ⟨h3, h4⟩ := h34
    go_enter Try.func3, Try.ntmps3
    go_wp2
    go_ret
    exact ⟨rfl, Ext.refl _⟩
  have h5 : decide (5000 < k) = false ∨ (5000 < k ∧ decide (k ≤ 1048576) = false) := by
    by_cases h3 : 5000 < k
    · exact .inr ⟨h3, by simp; omega⟩
    · exact .inl (by simp; omega)
  clear h34
  rcases h5 with h5 | ⟨h5, h6⟩
  all_goals
    go_enter Try.func3, Try.ntmps3
    go_wp2_with fail
    refine (dbInts_any _ s k w HV.out HL3.out).mono ?_
    rintro e w1 ⟨u1, L1, c1, rfl, hR1, ho, he⟩
    have O1 := hide' ho.sl
    have X1 := hide' he
    have R1 := hide' hR1
    clear ho he hR1
    go_wp2_with fail
    refine (srInts_any _ s k w1 (HV.out.ext X1.out) HL3.out).mono ?_
    rintro e w2 ⟨u2, L2, c2, rfl, hR2, ho, he⟩
    obtain ⟨rfl, rfl⟩ := R1.out.eq hR2
    have O2 := hide' ho.sl
    have O12 := hide' (O1.out.ext he)
    have X2 := hide' (X1.out.trans he)
    have HD2 : Hid (L1.length ≤ 1000000) := by have := R1.out.len; have := HL3.out; show _ ≤ _; omega
    clear ho he hR2 O1 X1
    go_wp2_with fail
    refine (ints_same _ _ L1 w2 O12.out O2.out HD2.out).mono ?_
    rintro e w3 ⟨rfl, he⟩
    have X3 := hide' (X2.out.trans he)
    clear he
    go_wp2_with fail
    refine (known_any _).mono ?_
    rintro e w4 ⟨rfl, he⟩
    have X4 := hide' (X3.out.trans he)
    clear he
    go_wp2
    go_ret
    exact ⟨rfl, X4.out⟩
end Go.Proofs.Ytimhkmnohkbniaa
