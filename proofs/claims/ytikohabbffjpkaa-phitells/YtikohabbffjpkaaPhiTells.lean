/- PhiTells: the walk. -/
import Derived.Test.YtikohabbffjpkaaPhiKnown
import Derived.Test.YtikohabbffjpkaaPhiRef
import Derived.Test.YtikohabbffjpkaaKasRef
namespace Go.Proofs.Ytikohabbffjpkaa
set_option linter.unusedVariables false
set_option linter.unusedSimpArgs false
open Go.RowKit

set_option maxHeartbeats 1000000 in
theorem lawTells (v u : Value) (s a : List Int) (w : World) (hv : Sl .u8 w v s) (hu : Sl .i64 w u a) :
    Calls Try.prog 10 #[v, u] w fun e w' => e = .returned (.bool true) ∧ Ext w w' := by
  have HV := hide' hv
  have HU := hide' hu
  obtain ⟨va, vc, rfl, _⟩ := hv
  obtain ⟨ua, uc, rfl, _⟩ := hu
  by_cases h1 : (150 : Int) < (s.length : Int)
  · go_enter Try.func10, Try.ntmps10
    go_wp2
    go_ret
    exact ⟨rfl, Ext.refl _⟩
  have d1 : decide ((150 : Int) < (s.length : Int)) = false := by simpa using h1
  by_cases h2 : (200 : Int) < (a.length : Int)
  · clear h1
    go_enter Try.func10, Try.ntmps10
    go_wp2
    go_ret
    exact ⟨rfl, Ext.refl _⟩
  have d2 : decide ((200 : Int) < (a.length : Int)) = false := by simpa using h2
  have HS3 : Hid (s.length ≤ 500) := by show _ ≤ _; omega
  have HS6 : Hid (s.length ≤ 1000000) := by show _ ≤ _; omega
  have HA6 : Hid (a.length ≤ 1000000) := by show _ ≤ _; omega
  have HLL : Hid ((lcpL s a).length ≤ 1000000) := Nat.le_trans (lcpL_le s a) HA6.out
  have HPL : Hid ((plI s a).length ≤ 1000000) := Nat.le_trans (plI_le s a) HA6.out
  have HQL : Hid ((ahI a).length ≤ 1000000) := Nat.le_trans (ahI_le a) HA6.out
  clear h1 h2
  obtain ⟨L, HL⟩ : ∃ L, Hid (lcpL s a = L) := ⟨_, rfl⟩
  obtain ⟨P, HP⟩ : ∃ L, Hid (plI s a = L) := ⟨_, rfl⟩
  obtain ⟨Q, HQ⟩ : ∃ L, Hid (ahI a = L) := ⟨_, rfl⟩
  obtain ⟨b, HB⟩ : ∃ b, Hid (lcpOk s a = b) := ⟨_, rfl⟩
  obtain ⟨o, HO⟩ : ∃ b, Hid (ordB a = b) := ⟨_, rfl⟩
  rw [HL.out] at HLL
  rw [HP.out] at HPL
  rw [HQ.out] at HQL
  go_enter Try.func10, Try.ntmps10
  go_wp2_with fail
  refine (phAhead_any _ a w HU.out HA6.out).mono ?_
  rw [HQ.out, HO.out]
  rintro e w1 ⟨u1, rfl, ho, he⟩
  have O1 := hide' ho.sl
  have X1 := hide' he
  clear ho he
  go_wp2_with fail
  refine (rahead_any _ a w1 (HU.out.ext X1.out) HA6.out).mono ?_
  rw [HQ.out, HO.out]
  rintro e w2 ⟨u2, rfl, ho, he⟩
  have O2 := hide' ho.sl
  have O12 := hide' (O1.out.ext he)
  have X2 := hide' (X1.out.trans he)
  clear ho he O1 X1
  go_wp2_with fail
  refine (phPlcp_any _ _ s a w2 (HV.out.ext X2.out) (HU.out.ext X2.out) HS3.out HA6.out).mono ?_
  rw [HP.out, HB.out]
  rintro e w3 ⟨u3, rfl, ho, he⟩
  have O3 := hide' ho.sl
  have X3 := hide' (X2.out.trans he)
  have E3 := hide' he
  clear ho he
  go_wp2_with fail
  refine (rplcp_any _ _ s a w3 (HV.out.ext X3.out) (HU.out.ext X3.out) HS6.out HA6.out).mono ?_
  rw [HP.out, HB.out]
  rintro e w4 ⟨u4, rfl, ho, he⟩
  have O4 := hide' ho.sl
  have X4 := hide' (X3.out.trans he)
  have O34 := hide' (O3.out.ext he)
  have E4 := hide' (E3.out.trans he)
  clear ho he X3 O3 E3
  go_wp2_with fail
  refine (phLcp_any _ _ s a w4 (HV.out.ext X4.out) (HU.out.ext X4.out) HS3.out HA6.out).mono ?_
  rw [HL.out, HB.out]
  rintro e w5 ⟨u5, rfl, ho, he⟩
  have O5 := hide' ho.sl
  have X5 := hide' (X4.out.trans he)
  have E5 := hide' (E4.out.trans he)
  have F5 := hide' he
  clear ho he X4 E4
  go_wp2_with fail
  refine (rlcp_any _ _ s a w5 (HV.out.ext X5.out) (HU.out.ext X5.out) HS6.out HA6.out).mono ?_
  rw [HL.out, HB.out]
  rintro e w6 ⟨u6, rfl, ho, he⟩
  have O6 := hide' ho.sl
  have X6 := hide' (X5.out.trans he)
  have O56 := hide' (O5.out.ext he)
  have E6 := hide' (E5.out.trans he)
  have F6 := hide' (F5.out.trans he)
  clear ho he X5 E5 O5 F5
  go_wp2_with fail
  refine (ints_same _ _ Q w6 (O12.out.ext E6.out) (O2.out.ext E6.out) HQL.out).mono ?_
  rintro e w7 ⟨rfl, he⟩
  have X7 := hide' (X6.out.trans he)
  have F7 := hide' (F6.out.trans he)
  have G7 := hide' he
  clear he
  go_wp2_with fail
  refine (ints_same _ _ P w7 (O34.out.ext F7.out) (O4.out.ext F7.out) HPL.out).mono ?_
  rintro e w8 ⟨rfl, he⟩
  have X8 := hide' (X7.out.trans he)
  have G8 := hide' (G7.out.trans he)
  clear he
  go_wp2_with fail
  refine (ints_same _ _ L w8 (O56.out.ext G8.out) (O6.out.ext G8.out) HLL.out).mono ?_
  rintro e w9 ⟨rfl, he⟩
  have X9 := hide' (X8.out.trans he)
  clear he
  go_wp2_with fail
  refine (known_any _).mono ?_
  rintro e w10 ⟨rfl, he⟩
  have X10 := hide' (X9.out.trans he)
  clear he
  go_wp2
  go_ret
  exact ⟨rfl, X10.out⟩
end Go.Proofs.Ytikohabbffjpkaa
