/- RankTells: the walk. -/
import Derived.Test.YteibpkeijodgmaaRkKnown
import Derived.Test.YteibpkeijodgmaaRefInv
namespace Go.Proofs.Yteibpkeijodgmaa
set_option linter.unusedVariables false
set_option linter.unusedSimpArgs false
open Go.RowKit

theorem invI_le (l : List Int) : (invI l).length ≤ l.length := by
  by_cases h : ordB l = true
  · rw [invI_len h]; exact Nat.le_refl _
  · rw [invI_no (Bool.eq_false_iff.2 h)]; exact Nat.zero_le _

set_option maxHeartbeats 1000000 in
theorem lawTells (v : Value) (s : List Int) (w : World) (hv : Sl .i64 w v s) :
    Calls Try.prog 3 #[v] w fun e w' => e = .returned (.bool true) ∧ Ext w w' := by
  have HV := hide' hv
  obtain ⟨a, c, rfl, _⟩ := hv
  by_cases h1 : (300 : Int) < (s.length : Int)
  · go_enter Try.func3, Try.ntmps3
    go_wp2
    go_ret
    exact ⟨rfl, Ext.refl _⟩
  have d1 : decide ((300 : Int) < (s.length : Int)) = false := by simpa using h1
  have HL3 : Hid (s.length ≤ 1000000) := by show _ ≤ _; omega
  have HIL : Hid ((invI s).length ≤ 1000000) := Nat.le_trans (invI_le s) HL3.out
  clear h1
  obtain ⟨I, HI⟩ : ∃ I, Hid (invI s = I) := ⟨_, rfl⟩
  obtain ⟨b, HB⟩ : ∃ b, Hid (ordB s = b) := ⟨_, rfl⟩
  rw [HI.out] at HIL
  go_enter Try.func3, Try.ntmps3
  go_wp2_with fail
  refine (rkInv_any _ s w HV.out HL3.out).mono ?_
  rw [HI.out, HB.out]
  rintro e w1 ⟨u1, rfl, ho, he⟩
  have O1 := hide' ho.sl
  have X1 := hide' he
  clear ho he
  go_wp2_with fail
  refine (rinv_any _ s w1 (HV.out.ext X1.out) HL3.out).mono ?_
  rw [HI.out, HB.out]
  rintro e w2 ⟨u2, rfl, ho, he⟩
  have O2 := hide' ho.sl
  have O12 := hide' (O1.out.ext he)
  have X2 := hide' (X1.out.trans he)
  clear ho he O1 X1
  go_wp2_with fail
  refine (ints_same _ _ I w2 O12.out O2.out HIL.out).mono ?_
  rintro e w3 ⟨rfl, he⟩
  have X3 := hide' (X2.out.trans he)
  clear he
  go_wp2_with fail
  refine (rkIs_any _ s w3 (HV.out.ext X3.out) HL3.out).mono ?_
  rw [HB.out]
  rintro e w4 ⟨rfl, he⟩
  have X4 := hide' (X3.out.trans he)
  clear he
  go_wp2_with fail
  refine (known_any _).mono ?_
  rintro e w5 ⟨rfl, he⟩
  have X5 := hide' (X4.out.trans he)
  clear he
  go_wp2
  go_ret
  exact ⟨rfl, X5.out⟩
end Go.Proofs.Yteibpkeijodgmaa
