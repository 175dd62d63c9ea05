/- TopChecks: the walk. -/
import Derived.Test.YthohogbefpoclaaPart5
import Derived.Test.YthohogbefpoclaaChRef
namespace Go.Proofs.Ythohogbefpoclaa
set_option linter.unusedVariables false
set_option linter.unusedSimpArgs false
open Go.RowKit

set_option maxHeartbeats 1000000 in
theorem lawTopChecks (v u t : Value) (s a h : List Int) (w : World) (hv : Sl .u8 w v s) (h8 : Bytes8 s) (hu : Sl .i64 w u a) (ht : Sl .i64 w t h) :
    Calls Try.prog 5 #[v, u, t] w fun e w' => e = .returned (.bool true) ∧ Ext w w' := by
  have HV := hide' hv
  have HU := hide' hu
  have HT := hide' ht
  have H8 := hide' h8
  obtain ⟨va, vc, rfl, _⟩ := hv
  obtain ⟨ua, uc, rfl, _⟩ := hu
  obtain ⟨ta, tc, rfl, _⟩ := ht
  clear h8
  by_cases h1 : (100 : Int) < (s.length : Int)
  · go_enter Try.func5, Try.ntmps5
    go_wp2
    go_ret
    exact ⟨rfl, Ext.refl _⟩
  have d1 : decide ((100 : Int) < (s.length : Int)) = false := by simpa using h1
  by_cases h2 : (120 : Int) < (a.length : Int)
  · clear h1
    go_enter Try.func5, Try.ntmps5
    go_wp2
    go_ret
    exact ⟨rfl, Ext.refl _⟩
  have d2 : decide ((120 : Int) < (a.length : Int)) = false := by simpa using h2
  by_cases h3 : (120 : Int) < (h.length : Int)
  · clear h1 h2
    go_enter Try.func5, Try.ntmps5
    go_wp2
    go_ret
    exact ⟨rfl, Ext.refl _⟩
  have d3 : decide ((120 : Int) < (h.length : Int)) = false := by simpa using h3
  have HS3 : Hid (s.length ≤ 500) := by show _ ≤ _; omega
  have HS5 : Hid (s.length ≤ 100000) := by show _ ≤ _; omega
  have HA6 : Hid (a.length ≤ 1000000) := by show _ ≤ _; omega
  have HH6 : Hid (h.length ≤ 1000000) := by show _ ≤ _; omega
  clear h1 h2 h3
  obtain ⟨b, HB⟩ : ∃ b, Hid (saB s a = b) := ⟨_, rfl⟩
  obtain ⟨c, HC⟩ : ∃ b, Hid (chkB s a h = b) := ⟨_, rfl⟩
  have q1 : (b == b) = true := by simp
  have q2 : (c == c) = true := by simp
  go_enter Try.func5, Try.ntmps5
  go_wp2_with fail
  refine (chSA_any _ _ s a w HV.out H8.out HU.out HS3.out HA6.out).mono ?_
  rw [HB.out]
  rintro e w1 ⟨rfl, he⟩
  have X1 := hide' he
  clear he
  go_wp2_with fail
  refine (rsa_any _ _ s a w1 (HV.out.ext X1.out) H8.out (HU.out.ext X1.out) HS5.out HA6.out).mono ?_
  rw [HB.out]
  rintro e w2 ⟨rfl, he⟩
  have X2 := hide' (X1.out.trans he)
  clear he X1
  go_wp2_with fail
  refine (chLcp_any _ _ _ s a h w2 (HV.out.ext X2.out) H8.out (HU.out.ext X2.out) (HT.out.ext X2.out) HS3.out HA6.out HH6.out).mono ?_
  rw [HC.out]
  rintro e w3 ⟨rfl, he⟩
  have X3 := hide' (X2.out.trans he)
  clear he X2
  go_wp2_with fail
  refine (rchk_any _ _ _ s a h w3 (HV.out.ext X3.out) H8.out (HU.out.ext X3.out) (HT.out.ext X3.out) HS5.out HA6.out HH6.out).mono ?_
  rw [HC.out]
  rintro e w4 ⟨rfl, he⟩
  have X4 := hide' (X3.out.trans he)
  clear he X3
  go_wp2_with fail
  refine (topKnown_any _).mono ?_
  rintro e w5 ⟨rfl, he⟩
  have X5 := hide' (X4.out.trans he)
  clear he
  go_wp2
  go_ret
  exact ⟨rfl, X5.out⟩
end Go.Proofs.Ythohogbefpoclaa
