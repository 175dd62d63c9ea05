/- CheckOther: the walk. -/
import Derived.Test.YtmojnliljaefbaaChKnown
import Derived.Test.YtmojnliljaefbaaFinInt
namespace Go.Proofs.Ytmojnliljaefbaa
set_option linter.unusedVariables false
set_option linter.unusedSimpArgs false
open Go.RowKit

theorem lcpL_bd {s a : List Int} {i : Nat} : 0 ≤ (lcpL s a).getD i 0 ∧ (lcpL s a).getD i 0 ≤ s.length := by
  unfold lcpL
  split
  · rw [natL_at]
    rcases Nat.lt_or_ge i (toN a).length with h | h
    · by_cases h0 : i = 0
      · subst h0
        rw [lcpN_zero]
        omega
      · rw [lcpN_at (by omega) h]
        have := comN_le s ((toN a).getD (i - 1) 0) ((toN a).getD i 0)
        omega
    · rw [List.getD_eq_getElem?_getD, List.getElem?_eq_none (by rw [lcpN_len]; exact h)]
      simp
  · simp

set_option maxRecDepth 100000 in
set_option maxHeartbeats 2000000 in
theorem lawOther (v : Value) (s : List Int) (i by' : Int) (w : World) (hv : Sl .u8 w v s) (h8 : Bytes8 s) :
    Calls Try.prog 5 #[v, .int .i64 i, .int .i64 by'] w fun e w' => e = .returned (.bool true) ∧ Ext w w' := by
  have HV := hide' hv
  have H8 := hide' h8
  obtain ⟨va, vc, rfl, _⟩ := hv
  clear h8
  by_cases g : 1 ≤ s.length ∧ s.length ≤ 120 ∧ 0 ≤ i ∧ i < s.length ∧ by' ≠ 0 ∧ -1000 ≤ by' ∧ by' ≤ 1000
  · obtain ⟨g1, g2, g3, g4, g5, g6, g7⟩ := g
    obtain ⟨i, rfl⟩ := Int.eq_ofNat_of_zero_le g3
    obtain ⟨n, HN⟩ : ∃ n, Hid (s.length = n) := ⟨_, rfl⟩
    have HS5 : Hid (s.length ≤ 100000) := by show _ ≤ _; omega
    have HS3 : Hid (s.length ≤ 500) := by show _ ≤ _; omega
    rw [HN.out] at HV g1 g2 g4 ⊢
    have gi : i < n := by omega
    have d1 : decide ((n : Int) < 1) = false := by simp; omega
    have d2 : decide ((120 : Int) < (n : Int)) = false := by simp; omega
    have d3 : decide ((i : Int) < 0) = false := by simp
    have d4 : decide ((n : Int) ≤ (i : Int)) = false := by simp; omega
    have d4' : decide (n ≤ i) = false := by simp; omega
    have d1' : decide (n < 1) = false := by simp; omega
    have d2' : decide (120 < n) = false := by simp; omega
    have d5 : (by' == 0) = false := by simpa using g5
    have d6 : decide (by' < -1000) = false := by simp; omega
    have d7 : decide (1000 < by') = false := by simp; omega
    obtain ⟨J, HJ⟩ : ∃ J, Hid (n = J + 1) := ⟨n - 1, by show _ = _; omega⟩
    have hJ : (n : Int) - 1 = (J : Int) := by have := HJ.out; omega
    have wJ : IntKind.i64.wrap (J : Int) = (J : Int) := by rw [IntKind.wrap_i64]; omega
    have HB0 := hide' g5
    clear g3 g5
    go_enter Try.func5, Try.ntmps5
    go_wp2_with fail
    refine (srBytes_any _ s w HV.out H8.out HS5.out).mono ?_
    rintro e w0 ⟨u0, L0, rfl, hR, ho, he⟩
    obtain ⟨_, A, hA, rfl⟩ := hR.ok HS5.out (fit256 H8.out)
    have hAL := hA.len
    have HYES := hide' (saB_yes hA)
    have HSA : Hid (∀ a, saB s a = decide (a = natL A)) := fun a => saB_ord hA a
    have HLA : Hid ((natL A).length = n) := by show _ = _; rw [natL_len, hAL, HN.out]
    have HOK : Hid (lcpOk s (natL A) = true) := saB_ok HYES.out
    have HLH : Hid ((lcpL s (natL A)).length = n) := by show _ = _; rw [lcpL_yes HOK.out, natL_len, lcpN_len, toN_nat, hAL, HN.out]
    have hpb : (natL A).getD i 0 < n ∧ 0 ≤ (natL A).getD i 0 := by
      rw [natL_at]
      have := hA.mem (i := i) (by rw [HN.out]; exact gi)
      rw [HN.out] at this
      omega
    have hqb : 0 ≤ (lcpL s (natL A)).getD i 0 ∧ (lcpL s (natL A)).getD i 0 ≤ s.length := lcpL_bd
    rw [HN.out] at hqb
    have S0 := hide' ho.sl
    have X0 := hide' he
    clear hR hA ho he hAL
    obtain ⟨L, HL⟩ : ∃ L, Hid (natL A = L) := ⟨_, rfl⟩
    rw [HL.out] at HYES HSA HLA HLH HOK S0 hpb hqb
    obtain ⟨H, HH⟩ : ∃ h, Hid (lcpL s L = h) := ⟨_, rfl⟩
    rw [HH.out] at HLH hqb
    have HL6 : Hid (L.length ≤ 1000000) := by show _ ≤ _; rw [HLA.out]; omega
    have HH6 : Hid (H.length ≤ 1000000) := by show _ ≤ _; rw [HLH.out]; omega
    have HS6 : Hid (s.length ≤ 1000000) := by show _ ≤ _; have := HS3.out; omega
    obtain ⟨aa, ac, hs0, _⟩ := S0.out
    rw [HLA.out] at hs0
    subst hs0
    go_wp2_with fail
    refine (rlcp_any _ _ s L w0 (HV.out.ext X0.out) S0.out HS6.out HL6.out).mono ?_
    rw [HH.out]
    rintro e w1 ⟨u1, rfl, ho, he⟩
    have O1 := hide' ho.sl
    have S1 := hide' (S0.out.ext he)
    have X1 := hide' (X0.out.trans he)
    clear ho he S0 X0
    obtain ⟨ha, hc, hs1, _⟩ := O1.out
    rw [HLH.out] at hs1
    subst hs1
    go_wp2_with (at_builtin; refine wpList_join _ rfl _ _ 23 rfl 3 .i64 8 Try.underlying23 infoI64 w1.heap.size _ _ [] H rfl rfl (Own.made #[] 0 (Nat.le_refl _) (by simp [maxLen]) rfl) (O1.out.ext (ext_alloc w1 _)) ?c1 (by simp) ?_)
    case c1 => rw [HLH.out]; unfold maxLen; simp; omega
    intro v2 w2 ho hb
    have HO2 := hide' ho
    have E2 : Hid (Ext w1 w2) := Below.trans (ext_alloc _ _) hb
    obtain ⟨g0, cap0, hs2, hg0, _⟩ := ho.shape (fun e => by have := HLH.out; rw [e] at this; simp at this; omega)
    rw [HLH.out] at hs2
    subst hs2
    clear ho hb
    have O2 := hide' (O1.out.ext E2.out)
    have S2 := hide' (S1.out.ext E2.out)
    have X2 := hide' (X1.out.trans E2.out)
    have c1 := HO2.out.cell HLH.out i gi
    have z1 := HO2.out.frozen HLH.out i
    obtain ⟨q, HQ⟩ : ∃ z, Hid (H.getD i 0 = z) := ⟨_, rfl⟩
    rw [HQ.out] at c1 hqb
    have wq : IntKind.i64.wrap (q + by') = q + by' := by rw [IntKind.wrap_i64]; omega
    have HO3 := hide' (HO2.out.store HLH.out i (q + by'))
    have E3 : Hid (Ext w1 (w2.setCell ⟨g0, i, none⟩ (.int .i64 (q + by')))) := Ext.but E2.out hg0 (but_set _ _ _ _)
    have S3 := hide' (S1.out.ext E3.out)
    have O3 := hide' (O1.out.ext E3.out)
    have X3 := hide' (X1.out.trans E3.out)
    clear S2 O2 E2 X2
    have hsz : (w2.setCell ⟨g0, i, none⟩ (.int .i64 (q + by'))).heap.size = w2.heap.size := by simp [World.setCell]
    have HM : Hid (Own .i64 3 w2.heap.size ((w2.setCell ⟨g0, i, none⟩ (.int .i64 (q + by'))).alloc (.cells #[] 3)) (.slice (some ⟨w2.heap.size, 0, none⟩) 0 0) []) := by
      have := Own.made (k := .i64) (e := 3) (w := (w2.setCell ⟨g0, i, none⟩ (.int .i64 (q + by')))) (B := w2.heap.size) #[] 0 (by rw [hsz]; exact Nat.le_refl _) (by simp [maxLen]) rfl
      rw [hsz] at this
      exact this
    have HSZ := hide' hsz
    clear hsz
    go_wp2_with (at_builtin; refine wpList_join _ rfl _ _ 23 rfl 3 .i64 8 Try.underlying23 infoI64 w2.heap.size _ _ [] L rfl rfl HM.out (S3.out.ext (ext_alloc (w2.setCell ⟨g0, i, none⟩ (.int .i64 (q + by'))) _)) ?c2 ?c3 ?_)
    case c3 => simp [World.setCell]
    case c2 => rw [HLA.out]; unfold maxLen; simp; omega
    intro v4 w4 ho hb
    have HO4 := hide' ho
    have E4 : Hid (Ext (w2.setCell ⟨g0, i, none⟩ (.int .i64 (q + by'))) w4) := Below.trans (ext_alloc _ (.cells #[] 3)) (by rw [HSZ.out]; exact hb)
    obtain ⟨g1', cap1, hs4, hg1, _⟩ := ho.shape (fun e => by have := HLA.out; rw [e] at this; simp at this; omega)
    rw [HLA.out] at hs4
    subst hs4
    clear ho hb
    have c2 := HO4.out.cell HLA.out i gi
    have z2 := HO4.out.frozen HLA.out i
    obtain ⟨p, HP⟩ : ∃ z, Hid (L.getD i 0 = z) := ⟨_, rfl⟩
    rw [HP.out] at c2 hpb
    have wp : IntKind.i64.wrap (p + by') = p + by' := by rw [IntKind.wrap_i64]; omega
    have HO5 := hide' (HO4.out.store HLA.out i (p + by'))
    have E5 : Hid (Ext (w2.setCell ⟨g0, i, none⟩ (.int .i64 (q + by'))) (w4.setCell ⟨g1', i, none⟩ (.int .i64 (p + by')))) := Ext.but E4.out (by rw [HSZ.out]; exact hg1) (but_set _ _ _ _)
    have S5 := hide' (S3.out.ext E5.out)
    have O5 := hide' (O3.out.ext E5.out)
    have G5 := hide' (HO3.out.sl.ext E5.out)
    have B5 := hide' HO5.out.sl
    have X5 := hide' (X3.out.trans E5.out)
    have HC1 : Hid (chkB s L (H.set i (q + by')) = false) := chkB_no (by rw [HH.out, ← HQ.out]; exact fun e => add_other (by rw [HLH.out]; exact gi) HB0.out e.symm)
    have HC2 : Hid (saB s (L.set i (p + by')) = false) := by
      show _ = _
      rw [HSA.out, ← HP.out]
      exact decide_eq_false (add_other (by rw [HLA.out]; exact gi) HB0.out)
    have HC3 : Hid (saB s (L.take J) = false) := saB_len (by rw [List.length_take, HLA.out, HN.out]; have := HJ.out; omega)
    have HC4 : Hid (chkB s L (H.take J) = false) := chkB_no (by
      rw [HH.out]
      intro e
      have e2 := congrArg List.length e
      rw [List.length_take, HLH.out] at e2
      have := HJ.out
      omega)
    have HG6 : Hid ((H.set i (q + by')).length ≤ 1000000) := by show _ ≤ _; rw [List.length_set]; exact HH6.out
    have HB6 : Hid ((L.set i (p + by')).length ≤ 1000000) := by show _ ≤ _; rw [List.length_set]; exact HL6.out
    have HT6 : Hid ((L.take J).length ≤ 1000000) := by show _ ≤ _; rw [List.length_take]; have := HL6.out; omega
    have HU6 : Hid ((H.take J).length ≤ 1000000) := by show _ ≤ _; rw [List.length_take]; have := HH6.out; omega
    obtain ⟨r1, t1⟩ := S5.out.runTake (P := Try.prog) 23 3 Try.underlying23 sizeI64 J (by rw [HLA.out]; have := HJ.out; omega)
    obtain ⟨r2, t2⟩ := O5.out.runTake (P := Try.prog) 23 3 Try.underlying23 sizeI64 J (by rw [HLH.out]; have := HJ.out; omega)
    have T1 := hide' t1
    have T2 := hide' t2
    obtain ⟨GG, HGG⟩ : ∃ z, Hid (H.set i (q + by') = z) := ⟨_, rfl⟩
    obtain ⟨BB, HBB⟩ : ∃ z, Hid (L.set i (p + by') = z) := ⟨_, rfl⟩
    obtain ⟨TT, HTT⟩ : ∃ z, Hid (L.take J = z) := ⟨_, rfl⟩
    obtain ⟨UU, HUU⟩ : ∃ z, Hid (H.take J = z) := ⟨_, rfl⟩
    rw [HGG.out] at G5 HC1 HG6
    rw [HBB.out] at B5 HC2 HB6
    rw [HTT.out] at T1 HC3 HT6
    rw [HUU.out] at T2 HC4 HU6
    clear t1 t2 HO2 HO3 S3 O3 X3 HO5 E3 S1 O1 X1
    go_wp2_with fail
    generalize w4.setCell ⟨g1', i, none⟩ (.int .i64 (p + by')) = w5 at *
    refine (chLcp_any _ _ _ s L GG w5 (HV.out.ext X5.out) H8.out S5.out G5.out HS3.out HL6.out HG6.out).mono ?_
    rw [HC1.out]
    rintro e w6 ⟨rfl, he⟩
    have E6 := hide' he
    have X6 := hide' (X5.out.trans he)
    clear he
    go_wp2_with fail
    refine (chSA_any _ _ s BB w6 (HV.out.ext X6.out) H8.out (B5.out.ext E6.out) HS3.out HB6.out).mono ?_
    rw [HC2.out]
    rintro e w7 ⟨rfl, he⟩
    have E7 := hide' (E6.out.trans he)
    have X7 := hide' (X6.out.trans he)
    clear he
    go_wp2_with fail
    refine (chSA_any _ _ s TT w7 (HV.out.ext X7.out) H8.out (T1.out.ext E7.out) HS3.out HT6.out).mono ?_
    rw [HC3.out]
    rintro e w8 ⟨rfl, he⟩
    have E8 := hide' (E7.out.trans he)
    have X8 := hide' (X7.out.trans he)
    clear he
    go_wp2_with fail
    refine (chLcp_any _ _ _ s L UU w8 (HV.out.ext X8.out) H8.out (S5.out.ext E8.out) (T2.out.ext E8.out) HS3.out HL6.out HU6.out).mono ?_
    rw [HC4.out]
    rintro e w9 ⟨rfl, he⟩
    have X9 := hide' (X8.out.trans he)
    clear he
    go_wp2_with fail
    refine (known_any _).mono ?_
    rintro e w10 ⟨rfl, he⟩
    have X10 := hide' (X9.out.trans he)
    clear he
    go_wp2
    go_ret
    exact ⟨rfl, X10.out⟩
  · by_cases b1 : (s.length : Int) < 1
    · clear g
      go_enter Try.func5, Try.ntmps5
      go_wp2
      go_ret
      exact ⟨rfl, Ext.refl _⟩
    have e1 : decide ((s.length : Int) < 1) = false := by simpa using b1
    by_cases b2 : (120 : Int) < (s.length : Int)
    · clear g
      go_enter Try.func5, Try.ntmps5
      go_wp2
      go_ret
      exact ⟨rfl, Ext.refl _⟩
    have e2 : decide ((120 : Int) < (s.length : Int)) = false := by simpa using b2
    by_cases b3 : i < 0
    · clear g
      go_enter Try.func5, Try.ntmps5
      go_wp2
      go_ret
      exact ⟨rfl, Ext.refl _⟩
    have e3 : decide (i < 0) = false := by simpa using b3
    by_cases b4 : (s.length : Int) ≤ i
    · clear g
      go_enter Try.func5, Try.ntmps5
      go_wp2
      go_ret
      exact ⟨rfl, Ext.refl _⟩
    have e4 : decide ((s.length : Int) ≤ i) = false := by simpa using b4
    by_cases b5 : by' = 0
    · have e5 : (by' == 0) = true := by simpa using b5
      clear g b5
      go_enter Try.func5, Try.ntmps5
      go_wp2
      go_ret
      exact ⟨rfl, Ext.refl _⟩
    have e5 : (by' == 0) = false := by simpa using b5
    by_cases b6 : by' < -1000
    · clear g
      go_enter Try.func5, Try.ntmps5
      go_wp2
      go_ret
      exact ⟨rfl, Ext.refl _⟩
    have e6 : decide (by' < -1000) = false := by simpa using b6
    by_cases b7 : 1000 < by'
    · clear g
      go_enter Try.func5, Try.ntmps5
      go_wp2
      go_ret
      exact ⟨rfl, Ext.refl _⟩
    have e7 : decide (1000 < by') = false := by simpa using b7
    exact absurd ⟨by omega, by omega, by omega, by omega, by omega, by omega, by omega⟩ g
end Go.Proofs.Ytmojnliljaefbaa
