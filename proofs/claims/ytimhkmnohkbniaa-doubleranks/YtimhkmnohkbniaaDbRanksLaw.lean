/- DoubleRanks: the walk. -/
import Derived.Test.YtimhkmnohkbniaaDbKnown
import Derived.Test.YtimhkmnohkbniaaDbRRanks
namespace Go.Proofs.Ytimhkmnohkbniaa
set_option linter.unusedVariables false
set_option linter.unusedSimpArgs false
open Go.RowKit

set_option maxHeartbeats 1000000 in
theorem lawRanks (v : Value) (s : List Int) (h : Int) (w : World) (hv : Sl .i64 w v s) :
    Calls Try.prog 7 #[v, .int .i64 h] w fun e w' => e = .returned (.bool true) ∧ Ext w w' := by
  have HV := hide' hv
  obtain ⟨a, c, rfl, _⟩ := hv
  by_cases h1 : (60 : Int) < (s.length : Int)
  · go_enter Try.func7, Try.ntmps7
    go_wp2
    go_ret
    exact ⟨rfl, Ext.refl _⟩
  have d1 : decide ((60 : Int) < (s.length : Int)) = false := by simpa using h1
  have HL3 : Hid (s.length ≤ 1000000) := by show _ ≤ _; omega
  clear h1
  go_enter Try.func7, Try.ntmps7
  go_wp2_with fail
  refine (dbRanks_any _ s h w HV.out HL3.out).mono ?_
  rintro e w1 ⟨u1, rfl, ho, he⟩
  have O1 := hide' ho.sl
  have X1 := hide' he
  clear ho he
  go_wp2_with fail
  refine (rRanks_any _ s h w1 (HV.out.ext X1.out) HL3.out).mono ?_
  rintro e w2 ⟨u2, rfl, ho, he⟩
  have O2 : Hid (Sl .i64 w2 u2 (rkI s h)) := ho.sl
  have O12 := hide' (O1.out.ext he)
  have X2 := hide' (X1.out.trans he)
  have HD2 : Hid ((rkI s h).length ≤ 1000000) := by have := rkI_len s h; have := HL3.out; show _ ≤ _; omega
  clear ho he O1 X1
  go_wp2_with fail
  refine (ints_same _ _ (rkI s h) w2 O12.out O2.out HD2.out).mono ?_
  rintro e w3 ⟨rfl, he⟩
  have X3 := hide' (X2.out.trans he)
  clear he
  go_wp2_with fail
  refine (known_any _).mono ?_
  rintro e w4 ⟨rfl, he⟩
  have X4 := hide' (X3.out.trans he)
  clear he
  go_wp2
  go_ret
  exact ⟨rfl, X4.out⟩
end Go.Proofs.Ytimhkmnohkbniaa
