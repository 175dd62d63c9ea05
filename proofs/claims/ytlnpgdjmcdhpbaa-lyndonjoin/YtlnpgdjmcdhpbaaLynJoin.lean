/- LyndonJoin: the walk. -/
import Derived.Test.YtlnpgdjmcdhpbaaLynKnown
import Derived.Test.YtlnpgdjmcdhpbaaLynRef
namespace Go.Proofs.Ytlnpgdjmcdhpbaa
set_option linter.unusedVariables false
set_option linter.unusedSimpArgs false
open Go.RowKit

theorem bit_any (b : Bool) (w : World) :
    Calls Try.prog 14 #[.bool b] w fun e w' => e = .returned (.int .i64 (if b then 1 else 0)) ∧ w' = w := by
  cases b
  · go_enter Try.func14, Try.ntmps14
    go_wp2
    go_ret
    exact ⟨rfl, rfl⟩
  · go_enter Try.func14, Try.ntmps14
    go_wp2
    go_ret
    exact ⟨rfl, rfl⟩

theorem pick1 : ∀ W, (Instr.index 29 (.agg #[.int .i64 2, .int .i64 1]) (.int .i64 1)).run Try.prog W = .ok (.int .i64 1) W := by intro w; kernel_rfl
theorem pick0 : ∀ W, (Instr.index 29 (.agg #[.int .i64 2, .int .i64 1]) (.int .i64 0)).run Try.prog W = .ok (.int .i64 2) W := by intro w; kernel_rfl

set_option maxHeartbeats 1000000 in
theorem lawJoin (v1 v2 : Value) (us vs : List Int) (w : World) (hu : Sl .u8 w v1 us) (hv : Sl .u8 w v2 vs) :
    Calls Try.prog 5 #[v1, v2] w fun e w' => e = .returned (.bool true) ∧ Ext w w' := by
  have HU := hide' hu
  have HV := hide' hv
  obtain ⟨a, cap, rfl, hm2, hm3, _⟩ := hu
  obtain ⟨a', cap', rfl, hn2, hn3, _⟩ := hv
  unfold maxLen at hm3 hn3
  by_cases h1 : (60 : Int) < (us.length : Int)
  · go_enter Try.func5, Try.ntmps5
    go_wp2
    go_ret
    exact ⟨rfl, Ext.refl _⟩
  have d1 : decide ((60 : Int) < (us.length : Int)) = false := by simpa using h1
  by_cases h2 : (60 : Int) < (vs.length : Int)
  · go_enter Try.func5, Try.ntmps5
    go_wp2
    go_ret
    exact ⟨rfl, Ext.refl _⟩
  have d2 : decide ((60 : Int) < (vs.length : Int)) = false := by simpa using h2
  have l1 : us.length ≤ 60 := by omega
  have l2 : vs.length ≤ 60 := by omega
  have L1 : Hid (us.length ≤ 1000000) := by show _ ≤ _; omega
  have L2 : Hid (vs.length ≤ 1000000) := by show _ ≤ _; omega
  have L3 : Hid ((us ++ vs).length ≤ 1000000) := by show _ ≤ _; rw [List.length_append]; omega
  clear h1 h2
  obtain ⟨n, HN⟩ : ∃ n, Hid (us.length = n) := ⟨_, rfl⟩
  obtain ⟨n', HN'⟩ : ∃ n, Hid (vs.length = n) := ⟨_, rfl⟩
  rw [HN.out] at HU d1 hm2 l1 ⊢
  rw [HN'.out] at HV d2 hn2 l2 ⊢
  by_cases hLu : Lyn us
  case neg =>
    have HD : Hid (lynB us = false) := lynB_false hLu
    clear hLu
    go_enter Try.func5, Try.ntmps5
    go_wp2_with fail
    refine (toExt (ris_any _ us w HU.out L1.out)).mono ?_
    rw [HD.out]
    rintro e w1 ⟨rfl, he⟩
    have X1 := hide' he
    clear he
    go_wp2
    go_ret
    exact ⟨rfl, X1.out⟩
  have HLu := hide' hLu
  have HDu : Hid (lynB us = true) := lynB_true hLu
  clear hLu
  by_cases hLv : Lyn vs
  case neg =>
    have HD : Hid (lynB vs = false) := lynB_false hLv
    clear hLv
    go_enter Try.func5, Try.ntmps5
    go_wp2_with fail
    refine (toExt (ris_any _ us w HU.out L1.out)).mono ?_
    rw [HDu.out]
    rintro e w1 ⟨rfl, he⟩
    have X1 := hide' he
    clear he
    go_wp2_with fail
    refine (toExt (ris_any _ vs w1 (HV.out.ext X1.out) L2.out)).mono ?_
    rw [HD.out]
    rintro e w2 ⟨rfl, he⟩
    have X2 := hide' (X1.out.trans he)
    clear he
    go_wp2
    go_ret
    exact ⟨rfl, X2.out⟩
  have HLv := hide' hLv
  have HDv : Hid (lynB vs = true) := lynB_true hLv
  clear hLv
  obtain ⟨C, HC⟩ : ∃ C, Hid (cmpI us vs = C) := ⟨_, rfl⟩
  have HDj : Hid (lynB (us ++ vs) = decide (C < 0)) := by
    show _ = _
    have := lyn_pair HLu.out HLv.out
    rw [HC.out] at this
    exact decide_eq_decide.2 this
  have HFj := hide' (facL_join HLu.out HLv.out)
  rw [HC.out] at HFj
  obtain ⟨xs, HX⟩ : ∃ xs, Hid (us ++ vs = xs) := ⟨_, rfl⟩
  rw [HX.out] at HDj HFj L3
  obtain ⟨fs, HF⟩ : ∃ fs, Hid (facL xs = fs) := ⟨_, rfl⟩
  rw [HF.out] at HFj
  go_enter Try.func5, Try.ntmps5
  go_wp2_with fail
  refine (toExt (ris_any _ us w HU.out L1.out)).mono ?_
  rw [HDu.out]
  rintro e w1 ⟨rfl, he⟩
  have X1 := hide' he
  clear he
  go_wp2_with fail
  refine (toExt (ris_any _ vs w1 (HV.out.ext X1.out) L2.out)).mono ?_
  rw [HDv.out]
  rintro e w2 ⟨rfl, he⟩
  have X2 := hide' (X1.out.trans he)
  clear he
  have hsz := X2.out.size
  have HU2 := hide' (HU.out.ext X2.out)
  have HV2 := hide' (HV.out.ext X2.out)
  have hul : Hid (([] : List Int).length + us.length ≤ 60) := by show _ ≤ _; rw [HN.out]; simpa using l1
  have hvl : Hid (us.length + vs.length ≤ 120) := by show _ ≤ _; rw [HN.out, HN'.out]; omega
  go_wp2_with (at_builtin; refine wpList_join _ rfl _ _ 22 rfl 5 .u8 1 Try.underlying22 infoU8 w2.heap.size _ _ [] us rfl rfl (Own.made #[] 0 (Nat.le_refl _) (by decide) rfl) (HU2.out.ext (ext_alloc _ _)) ?c1 ?c2 ?_)
  case c1 => have := hul.out; unfold maxLen; omega
  case c2 => simp
  intro b1 w3 ho1 hb1
  have HO1 : Hid (Own .u8 5 w2.heap.size w3 b1 us) := ho1
  have HE1 : Hid (Ext w2 w3) := Below.trans (ext_alloc _ _) hb1
  clear ho1 hb1
  go_wp2_with (at_builtin; refine wpList_join _ rfl _ _ 22 rfl 5 .u8 1 Try.underlying22 infoU8 w2.heap.size _ _ us vs rfl rfl HO1.out (HV2.out.ext HE1.out) ?c1 HE1.out.size ?_)
  case c1 => have := hvl.out; unfold maxLen; omega
  intro b2 w4 ho2 hb2
  rw [HX.out] at ho2
  have HO2 := hide' ho2.sl
  have HE2 : Hid (Ext w2 w4) := Below.trans HE1.out hb2
  clear ho2 hb2
  have X4 := hide' (X2.out.trans HE2.out)
  go_wp2_with fail
  refine (toExt (is_any _ xs w4 HO2.out L3.out)).mono ?_
  rw [HDj.out]
  rintro e w5 ⟨rfl, he⟩
  have HE5 := hide' he
  have X5 := hide' (X4.out.trans he)
  clear he
  go_wp2_with fail
  refine (toExt (words_any _ _ us vs w5 (HU.out.ext X5.out) (HV.out.ext X5.out) L1.out L2.out)).mono ?_
  rw [HC.out]
  rintro e w6 ⟨rfl, he⟩
  have HE6 := hide' (HE5.out.trans he)
  have X6 := hide' (X5.out.trans he)
  clear he
  by_cases hC : C < 0
  · have z1 : decide (C < 0) = true := by simpa using hC
    have HFn : Hid (fs.length = 1) := by show _ = _; rw [HFj.out, if_pos hC]
    go_wp2_with fail
    refine (factors_any _ xs w6 (HO2.out.ext HE6.out) L3.out).mono ?_
    rw [HF.out]
    rintro e w7 ⟨s7, rfl, ho, he⟩
    have X7 := hide' (X6.out.trans he)
    obtain ⟨a7, c7, rfl, _⟩ := ho.sl
    rw [HFn.out]
    clear ho he
    go_wp2_with fail
    refine (toExt (words_any _ _ us vs w7 (HU.out.ext X7.out) (HV.out.ext X7.out) L1.out L2.out)).mono ?_
    rw [HC.out]
    rintro e w8 ⟨rfl, he⟩
    have X8 := hide' (X7.out.trans he)
    clear he
    go_wp2_with fail
    refine (bit_any true w8).mono ?_
    rintro e w9 ⟨rfl, rfl⟩
    have hp1 := pick1
    have hp0 := pick0
    go_wp2_with fail
    refine (known_any _).mono ?_
    rintro e w10 ⟨rfl, he⟩
    have X10 := hide' (X8.out.trans he)
    clear he
    go_wp2
    go_ret
    exact ⟨rfl, X10.out⟩
  · have z1 : decide (C < 0) = false := by simpa using hC
    have HFn : Hid (fs.length = 2) := by show _ = _; rw [HFj.out, if_neg hC]
    go_wp2_with fail
    refine (factors_any _ xs w6 (HO2.out.ext HE6.out) L3.out).mono ?_
    rw [HF.out]
    rintro e w7 ⟨s7, rfl, ho, he⟩
    have X7 := hide' (X6.out.trans he)
    obtain ⟨a7, c7, rfl, _⟩ := ho.sl
    rw [HFn.out]
    clear ho he
    go_wp2_with fail
    refine (toExt (words_any _ _ us vs w7 (HU.out.ext X7.out) (HV.out.ext X7.out) L1.out L2.out)).mono ?_
    rw [HC.out]
    rintro e w8 ⟨rfl, he⟩
    have X8 := hide' (X7.out.trans he)
    clear he
    go_wp2_with fail
    refine (bit_any false w8).mono ?_
    rintro e w9 ⟨rfl, rfl⟩
    have hp1 := pick1
    have hp0 := pick0
    go_wp2_with fail
    refine (known_any _).mono ?_
    rintro e w10 ⟨rfl, he⟩
    have X10 := hide' (X8.out.trans he)
    clear he
    go_wp2
    go_ret
    exact ⟨rfl, X10.out⟩
end Go.Proofs.Ytlnpgdjmcdhpbaa
