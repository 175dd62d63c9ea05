/- LfTells: the walk. -/
import Derived.Test.YticblbegjfcbdaaPart2
namespace Go.Proofs.Yticblbegjfcbdaa
set_option linter.unusedVariables false
set_option linter.unusedSimpArgs false
open Go.RowKit

set_option maxHeartbeats 1000000 in
theorem lawTells (v : Value) (l : List Int) (w : World) (hv : Sl .u8 w v l) (h8 : Bytes8 l) :
    Calls Try.prog 3 #[v] w fun e w' => e = .returned (.bool true) ∧ Ext w w' := by
  have HV := hide' hv
  obtain ⟨a, c, rfl, _⟩ := hv
  by_cases h1 : (200 : Int) < (l.length : Int)
  · go_enter Try.func3, Try.ntmps3
    go_wp2
    go_ret
    exact ⟨rfl, Ext.refl _⟩
  have d1 : decide ((200 : Int) < (l.length : Int)) = false := by simpa using h1
  have HOK := hide' (lf_ok l)
  have HL : Hid (l.length ≤ 200) := by show _ ≤ _; omega
  have HLN : Hid ((natL (lfN l)).length = l.length) := by show _ = _; rw [natL_len, lfN_len]
  have C1 := hide' (fun w' (he : Ext w w') => lfOf_any _ l w' (HV.out.ext he) h8 (by have := HL.out; omega))
  have C2 := hide' (fun w' (he : Ext w w') => rlfOf_any _ l w' (HV.out.ext he) (by have := HL.out; omega))
  obtain ⟨n, HN⟩ : ∃ n, Hid (l.length = n) := ⟨_, rfl⟩
  obtain ⟨F, HF⟩ : ∃ F, Hid (natL (lfN l) = F) := ⟨_, rfl⟩
  rw [HF.out] at C1 C2 HOK HLN
  rw [HN.out] at C1 C2 HLN HL d1 ⊢
  clear h1 h8 HV HF HN
  go_enter Try.func3, Try.ntmps3
  go_wp2_with fail
  refine (C1.out _ (Ext.refl _)).mono ?_
  rintro e w1 ⟨r1, rfl, ho, he⟩
  have S1 := hide' ho.sl
  have X1 := hide' he
  clear ho he C1
  obtain ⟨ra, rc, hr, _⟩ := id S1.out
  rw [HLN.out] at hr
  subst hr
  go_wp2_with fail
  refine (lfCycles_any _ F _ S1.out (by have := HLN.out; have := HL.out; omega)).mono ?_
  rw [HOK.out]
  rintro e w2 ⟨cs, t, us, rfl, hcs, ho, hr, he⟩
  have HCS := hide' hcs
  have S2 := hide' (S1.out.ext he)
  have V2 := hide' ho.sl
  have R2 := hide' hr.read
  have X2 := hide' (X1.out.trans he)
  clear hcs ho hr he S1 X1
  go_wp2_with fail
  refine (C2.out _ X2.out).mono ?_
  rintro e w3 ⟨r2, rfl, ho, he⟩
  have T3 := hide' ho.sl
  have S3 := hide' (S2.out.ext he)
  have V3 := hide' (V2.out.ext he)
  have R3 := hide' (R2.out.ext he)
  have X3 := hide' (X2.out.trans he)
  clear ho he S2 V2 R2 X2
  go_wp2_with fail
  refine (rlfCycles_any _ F _ T3.out (by have := HLN.out; have := HL.out; omega)).mono ?_
  rw [HOK.out]
  rintro e w4 ⟨ds, t', us', rfl, hds, ho, hr, he⟩
  have hdc := hds.eq HCS.out
  subst hdc
  have U4 := hide' ho.sl
  have Q4 := hide' hr.read
  have S4 := hide' (S3.out.ext he)
  have V4 := hide' (V3.out.ext he)
  have R4 := hide' (R3.out.ext he)
  have X4 := hide' (X3.out.trans he)
  clear hds ho hr he S3 V3 R3 X3 T3
  go_wp2_with fail
  refine (C2.out _ X4.out).mono ?_
  rintro e w5 ⟨r3, rfl, ho, he⟩
  have T5 := hide' ho.sl
  have S5 := hide' (S4.out.ext he)
  have V5 := hide' (V4.out.ext he)
  have R5 := hide' (R4.out.ext he)
  have U5 := hide' (U4.out.ext he)
  have Q5 := hide' (Q4.out.ext he)
  have X5 := hide' (X4.out.trans he)
  clear ho he S4 V4 R4 X4 U4 Q4
  go_wp2_with fail
  refine (ints_same _ _ F _ S5.out T5.out (by have := HLN.out; have := HL.out; omega)).mono ?_
  rintro e w6 ⟨rfl, he⟩
  have S6 := hide' (S5.out.ext he)
  have V6 := hide' (V5.out.ext he)
  have R6 := hide' (R5.out.ext he)
  have U6 := hide' (U5.out.ext he)
  have Q6 := hide' (Q5.out.ext he)
  have X6 := hide' (X5.out.trans he)
  clear he S5 V5 R5 X5 U5 Q5 T5
  go_wp2_with fail
  refine (ris_any _ F _ S6.out (by have := HLN.out; have := HL.out; omega)).mono ?_
  rw [HOK.out]
  rintro e w7 ⟨rfl, he⟩
  have V7 := hide' (V6.out.ext he)
  have R7 := hide' (R6.out.ext he)
  have U7 := hide' (U6.out.ext he)
  have Q7 := hide' (Q6.out.ext he)
  have X7 := hide' (X6.out.trans he)
  clear he S6 V6 R6 X6 U6 Q6
  have HK : Hid (∀ k, ((ds.map natL).getD k []).length ≤ 1000000) := fun k => Nat.le_trans (HCS.out.len k) (by have := HLN.out; have := HL.out; omega)
  have HKN : Hid ((ds.map natL).length ≤ 1000000) := Nat.le_trans HCS.out.num (by have := HLN.out; have := HL.out; omega)
  go_wp2_with fail
  refine (rlfRows_any _ _ _ _ (ds.map natL) (ds.map natL) _ V7.out R7.out U7.out Q7.out HK.out HK.out HKN.out HKN.out).mono ?_
  rw [decide_eq_true rfl]
  rintro e w8 ⟨rfl, he⟩
  have X8 := hide' (X7.out.trans he)
  clear he V7 R7 U7 Q7 X7
  go_wp2_with fail
  refine (known_any w8).mono ?_
  rintro e w9 ⟨rfl, he⟩
  have X9 := hide' (X8.out.trans he)
  clear he
  go_wp2
  go_ret
  exact ⟨rfl, X9.out⟩
end Go.Proofs.Yticblbegjfcbdaa
