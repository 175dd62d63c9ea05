/- DoubleBytes: the walk. -/
import Derived.Test.YtimhkmnohkbniaaDbKnown
import Derived.Test.YtimhkmnohkbniaaSaRef
namespace Go.Proofs.Ytimhkmnohkbniaa
set_option linter.unusedVariables false
set_option linter.unusedSimpArgs false
open Go.RowKit

set_option maxHeartbeats 1000000 in
theorem lawBytes (v : Value) (s : List Int) (w : World) (hv : Sl .u8 w v s) (h8 : Bytes8 s) :
    Calls Try.prog 4 #[v] w fun e w' => e = .returned (.bool true) ∧ Ext w w' := by
  have HV := hide' hv
  have H8 := hide' h8
  obtain ⟨a, c, rfl, _⟩ := hv
  by_cases h1 : (150 : Int) < (s.length : Int)
  · go_enter Try.func4, Try.ntmps4
    go_wp2
    go_ret
    exact ⟨rfl, Ext.refl _⟩
  have d1 : decide ((150 : Int) < (s.length : Int)) = false := by simpa using h1
  have HL3 : Hid (s.length ≤ 100000) := by show _ ≤ _; omega
  clear h1 h8
  go_enter Try.func4, Try.ntmps4
  go_wp2_with fail
  refine (dbBytes_any _ s w HV.out H8.out (Nat.le_trans HL3.out (by omega))).mono ?_
  rintro e w1 ⟨u1, L1, c1, rfl, hR1, ho, he⟩
  obtain ⟨rfl, _⟩ := hR1.ok HL3.out (fit256 H8.out)
  have O1 := hide' ho.sl
  have X1 := hide' he
  have R1 := hide' hR1
  clear ho he hR1
  go_wp2_with fail
  refine (srBytes_any _ s w1 (HV.out.ext X1.out) H8.out HL3.out).mono ?_
  rintro e w2 ⟨u2, L2, rfl, hR2, ho, he⟩
  obtain ⟨rfl, _⟩ := R1.out.eq hR2
  have O2 := hide' ho.sl
  have O12 := hide' (O1.out.ext he)
  have X2 := hide' (X1.out.trans he)
  have HD2 : Hid (L1.length ≤ 1000000) := by have := R1.out.len; have := HL3.out; show _ ≤ _; omega
  clear ho he hR2 O1 X1
  go_wp2_with fail
  refine (ints_same _ _ L1 w2 O12.out O2.out HD2.out).mono ?_
  rintro e w3 ⟨rfl, he⟩
  have X3 := hide' (X2.out.trans he)
  clear he
  go_wp2_with fail
  refine (known_any _).mono ?_
  rintro e w4 ⟨rfl, he⟩
  have X4 := hide' (X3.out.trans he)
  clear he
  go_wp2
  go_ret
  exact ⟨rfl, X4.out⟩
end Go.Proofs.Ytimhkmnohkbniaa
