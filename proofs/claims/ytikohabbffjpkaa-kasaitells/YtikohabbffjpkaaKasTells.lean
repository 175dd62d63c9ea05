/- KasaiTells: the walk. -/
import Derived.Test.YtikohabbffjpkaaKasKnown
import Derived.Test.YtikohabbffjpkaaKasRef
namespace Go.Proofs.Ytikohabbffjpkaa
set_option linter.unusedVariables false
set_option linter.unusedSimpArgs false
open Go.RowKit

set_option maxHeartbeats 1000000 in
theorem lawTells (v u : Value) (s a : List Int) (w : World) (hv : Sl .u8 w v s) (hu : Sl .i64 w u a) :
    Calls Try.prog 7 #[v, u] w fun e w' => e = .returned (.bool true) ∧ Ext w w' := by
  have HV := hide' hv
  have HU := hide' hu
  obtain ⟨va, vc, rfl, _⟩ := hv
  obtain ⟨ua, uc, rfl, _⟩ := hu
  by_cases h1 : (150 : Int) < (s.length : Int)
  · go_enter Try.func7, Try.ntmps7
    go_wp2
    go_ret
    exact ⟨rfl, Ext.refl _⟩
  have d1 : decide ((150 : Int) < (s.length : Int)) = false := by simpa using h1
  by_cases h2 : (200 : Int) < (a.length : Int)
  · clear h1
    go_enter Try.func7, Try.ntmps7
    go_wp2
    go_ret
    exact ⟨rfl, Ext.refl _⟩
  have d2 : decide ((200 : Int) < (a.length : Int)) = false := by simpa using h2
  have HS3 : Hid (s.length ≤ 500) := by show _ ≤ _; omega
  have HS6 : Hid (s.length ≤ 1000000) := by show _ ≤ _; omega
  have HA6 : Hid (a.length ≤ 1000000) := by show _ ≤ _; omega
  have HLL : Hid ((lcpL s a).length ≤ 1000000) := Nat.le_trans (lcpL_le s a) HA6.out
  clear h1 h2
  obtain ⟨L, HL⟩ : ∃ L, Hid (lcpL s a = L) := ⟨_, rfl⟩
  obtain ⟨b, HB⟩ : ∃ b, Hid (lcpOk s a = b) := ⟨_, rfl⟩
  rw [HL.out] at HLL
  go_enter Try.func7, Try.ntmps7
  go_wp2_with fail
  refine (klcp_any _ _ s a w HV.out HU.out HS3.out HA6.out).mono ?_
  rw [HL.out, HB.out]
  rintro e w1 ⟨u1, rfl, ho, he⟩
  have O1 := hide' ho.sl
  have X1 := hide' he
  clear ho he
  go_wp2_with fail
  refine (rlcp_any _ _ s a w1 (HV.out.ext X1.out) (HU.out.ext X1.out) HS6.out HA6.out).mono ?_
  rw [HL.out, HB.out]
  rintro e w2 ⟨u2, rfl, ho, he⟩
  have O2 := hide' ho.sl
  have O12 := hide' (O1.out.ext he)
  have X2 := hide' (X1.out.trans he)
  clear ho he O1 X1
  go_wp2_with fail
  refine (ints_same _ _ L w2 O12.out O2.out HLL.out).mono ?_
  rintro e w3 ⟨rfl, he⟩
  have X3 := hide' (X2.out.trans he)
  clear he
  go_wp2_with fail
  refine (known_any _).mono ?_
  rintro e w5 ⟨rfl, he⟩
  have X5 := hide' (X3.out.trans he)
  clear he
  go_wp2
  go_ret
  exact ⟨rfl, X5.out⟩
end Go.Proofs.Ytikohabbffjpkaa
