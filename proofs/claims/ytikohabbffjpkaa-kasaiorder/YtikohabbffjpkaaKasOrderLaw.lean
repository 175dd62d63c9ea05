/- KasaiOrder: the walk. -/
import Derived.Test.YtikohabbffjpkaaKasKnown
import Derived.Test.YtikohabbffjpkaaKasRef
import Derived.Test.YtikohabbffjpkaaRefBytes
namespace Go.Proofs.Ytikohabbffjpkaa
set_option linter.unusedVariables false
set_option linter.unusedSimpArgs false
open Go.RowKit

theorem inOrd_ok {s : List Int} {R : List Nat} (h : InOrd s R) : lcpOk s (natL R) = true := lcpOk_yes (by rw [natL_len, h.len]) (ordB_nat h.1)

set_option maxHeartbeats 1000000 in
theorem lawOrder (v : Value) (s : List Int) (w : World) (hv : Sl .u8 w v s) (h8 : Bytes8 s) :
    Calls Try.prog 8 #[v] w fun e w' => e = .returned (.bool true) ∧ Ext w w' := by
  have HV := hide' hv
  have H8 := hide' h8
  obtain ⟨va, vc, rfl, _⟩ := hv
  by_cases h1 : (150 : Int) < (s.length : Int)
  · go_enter Try.func8, Try.ntmps8
    go_wp2
    go_ret
    exact ⟨rfl, Ext.refl _⟩
  have d1 : decide ((150 : Int) < (s.length : Int)) = false := by simpa using h1
  have HS3 : Hid (s.length ≤ 500) := by show _ ≤ _; omega
  have HS5 : Hid (s.length ≤ 100000) := by show _ ≤ _; omega
  have HS6 : Hid (s.length ≤ 1000000) := by show _ ≤ _; omega
  clear h1 h8
  go_enter Try.func8, Try.ntmps8
  go_wp2_with fail
  refine (srBytes_any _ s w HV.out H8.out HS5.out).mono ?_
  rintro e w0 ⟨u0, L0, rfl, hR, ho, he⟩
  obtain ⟨_, R, hR2, rfl⟩ := hR.ok HS5.out (fit256 H8.out)
  have HOK := hide' (inOrd_ok hR2)
  have HRL : Hid ((natL R).length ≤ 1000000) := by show _ ≤ _; rw [natL_len, hR2.len]; exact HS6.out
  have HLL : Hid ((lcpL s (natL R)).length ≤ 1000000) := Nat.le_trans (lcpL_le s _) HRL.out
  have O0 := hide' ho.sl
  have X0 := hide' he
  clear hR hR2 ho he
  obtain ⟨L, HL⟩ : ∃ L, Hid (lcpL s (natL R) = L) := ⟨_, rfl⟩
  obtain ⟨A, HA⟩ : ∃ A, Hid (natL R = A) := ⟨_, rfl⟩
  rw [HL.out] at HLL
  rw [HA.out] at O0 HRL HL HOK
  go_wp2_with fail
  refine (klcp_any _ _ s A w0 (HV.out.ext X0.out) O0.out HS3.out HRL.out).mono ?_
  rw [HL.out, HOK.out]
  rintro e w1 ⟨u1, rfl, ho, he⟩
  have O1 := hide' ho.sl
  have X1 := hide' (X0.out.trans he)
  have O01 := hide' (O0.out.ext he)
  clear ho he O0 X0
  go_wp2_with fail
  refine (rlcp_any _ _ s A w1 (HV.out.ext X1.out) O01.out HS6.out HRL.out).mono ?_
  rw [HL.out, HOK.out]
  rintro e w2 ⟨u2, rfl, ho, he⟩
  have O2 := hide' ho.sl
  have O12 := hide' (O1.out.ext he)
  have X2 := hide' (X1.out.trans he)
  clear ho he O1 X1
  go_wp2_with fail
  refine (ints_same _ _ L w2 O12.out O2.out HLL.out).mono ?_
  rintro e w3 ⟨rfl, he⟩
  have X3 := hide' (X2.out.trans he)
  clear he
  go_wp2_with fail
  refine (known_any _).mono ?_
  rintro e w5 ⟨rfl, he⟩
  have X5 := hide' (X3.out.trans he)
  clear he
  go_wp2
  go_ret
  exact ⟨rfl, X5.out⟩
end Go.Proofs.Ytikohabbffjpkaa
