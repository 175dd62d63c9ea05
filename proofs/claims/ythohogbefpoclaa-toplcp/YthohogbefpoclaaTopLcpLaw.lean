/- TopLCP: the walk. -/
import Derived.Test.YthohogbefpoclaaPart5
import Derived.Test.YthohogbefpoclaaPart2
import Derived.Test.YthohogbefpoclaaPart1
namespace Go.Proofs.Ythohogbefpoclaa
set_option linter.unusedVariables false
set_option linter.unusedSimpArgs false
open Go.RowKit

set_option maxHeartbeats 1000000 in
theorem lawTopLcp (v : Value) (s : List Int) (w : World) (hv : Sl .u8 w v s) (h8 : Bytes8 s) :
    Calls Try.prog 6 #[v] w fun e w' => e = .returned (.bool true) ∧ Ext w w' := by
  have HV := hide' hv
  have H8 := hide' h8
  obtain ⟨va, vc, rfl, _⟩ := hv
  by_cases h1 : (300 : Int) < (s.length : Int)
  · go_enter Try.func6, Try.ntmps6
    go_wp2
    go_ret
    exact ⟨rfl, Ext.refl _⟩
  have d1 : decide ((300 : Int) < (s.length : Int)) = false := by simpa using h1
  have HS3 : Hid (s.length ≤ 500) := by show _ ≤ _; omega
  have HS5 : Hid (s.length ≤ 100000) := by show _ ≤ _; omega
  have HS6 : Hid (s.length ≤ 1000000) := by show _ ≤ _; omega
  clear h1 h8
  go_enter Try.func6, Try.ntmps6
  go_wp2_with fail
  refine (saBytes_any _ s w HV.out H8.out HS6.out).mono ?_
  rintro e w1 ⟨u1, L1, c1, rfl, hR, ho, he⟩
  obtain ⟨rfl, R, hR2, rfl⟩ := hR.ok HS5.out (fit256 H8.out)
  have RO := hide' hR2
  have HRL : Hid ((natL R).length = s.length) := by show _ = _; rw [natL_len]; exact hR2.len
  have HOK : Hid (lcpOk s (natL R) = true) := lcpOk_yes (by rw [natL_len, hR2.len]) (ordB_nat hR2.1)
  have HOB : Hid (ordB (natL R) = true) := ordB_nat hR2.1
  have HCH : Hid (chkB s (natL R) (lcpL s (natL R)) = true ∧ saB s (natL R) = true) := ⟨chkB_yes (saB_yes hR2), saB_yes hR2⟩
  have HLL : Hid ((lcpL s (natL R)).length = s.length) := by show _ = _; rw [lcpL_yes HOK.out, natL_len, lcpN_len, toN_nat, hR2.len]
  have O1 := hide' ho.sl
  have X1 := hide' he
  clear hR hR2 ho he
  go_wp2_with fail
  refine (klcp_any _ _ s (natL R) w1 (HV.out.ext X1.out) O1.out HS3.out (by rw [HRL.out]; exact HS6.out)).mono ?_
  rw [HOK.out]
  rintro e w2 ⟨u2, rfl, ho, he⟩
  have O2 := hide' ho.sl
  have O12 := hide' (O1.out.ext he)
  have X2 := hide' (X1.out.trans he)
  clear ho he O1 X1
  go_wp2_with fail
  refine (phLcp_any _ _ s (natL R) w2 (HV.out.ext X2.out) O12.out HS3.out (by rw [HRL.out]; exact HS6.out)).mono ?_
  rw [HOK.out]
  rintro e w3 ⟨u3, rfl, ho, he⟩
  have O3 := hide' ho.sl
  have O13 := hide' (O12.out.ext he)
  have O23 := hide' (O2.out.ext he)
  have X3 := hide' (X2.out.trans he)
  clear ho he O12 O2 X2
  obtain ⟨a1, k1, rfl, _⟩ := O13.out
  obtain ⟨a2, k2, rfl, _⟩ := O23.out
  obtain ⟨a3, k3, rfl, _⟩ := O3.out
  have HR6 : Hid ((natL R).length ≤ 1000000) := by show _ ≤ _; rw [HRL.out]; exact HS6.out
  have HP6 : Hid ((lcpL s (natL R)).length ≤ 1000000) := by show _ ≤ _; rw [HLL.out]; exact HS6.out
  have HAT : Hid (∀ i, 0 < i → i < s.length → (lcpL s (natL R)).getD i 0 = comL s ((R.getD (i - 1) 0 : Nat) : Int) ((R.getD i 0 : Nat) : Int)) := fun i h0 h1 => by
    have hl := RO.out.len
    rw [lcpL_yes HOK.out, toN_nat, natL_at, lcpN_at h0 (by rw [hl]; exact h1)]
    rw [comL_nat (Nat.le_of_lt (RO.out.mem (by omega))) (Nat.le_of_lt (RO.out.mem h1))]
  obtain ⟨n, HN⟩ : ∃ n, Hid (s.length = n) := ⟨_, rfl⟩
  rw [HN.out] at HRL HLL d1
  rw [HRL.out] at O13
  rw [HLL.out] at O23
  have dnn : ((n : Int) != (n : Int)) = false := by simp
  obtain ⟨P, HP⟩ : ∃ P, Hid (lcpL s (natL R) = P) := ⟨_, rfl⟩
  rw [HP.out] at HLL HP6 HAT O23 O3 HCH
  rw [HRL.out, HP.out, HLL.out]
  rw [HN.out]
  have HVN : Hid (Sl .u8 w (.slice va n vc) s) := by have := HV.out; rwa [HN.out] at this
  rw [HLL.out] at O3
  go_wp2_with fail
  refine (ints_same _ _ P w3 O23.out O3.out HP6.out).mono ?_
  rintro e w4 ⟨rfl, he⟩
  have X4 := hide' (X3.out.trans he)
  have O14 := hide' (O13.out.ext he)
  have O24 := hide' (O23.out.ext he)
  clear he O13 O23 O3 X3
  go_wp2_with fail
  refine (ris_any _ (natL R) w4 O14.out HR6.out).mono ?_
  rw [HOB.out]
  rintro e w5 ⟨rfl, he⟩
  have X5 := hide' (X4.out.trans he)
  have O15 := hide' (O14.out.ext he)
  have O25 := hide' (O24.out.ext he)
  clear he O14 O24 X4
  obtain ⟨_, _, _, hco⟩ := O15.out.nat
  have CO := hide' hco
  obtain ⟨_, _, _, hcp⟩ := O25.out.int
  have CP := hide' hcp
  clear hco hcp
  have hn5 : n ≤ 500 := by have := HS3.out; have := HN.out; omega
  go_wp2
  go_loopw [9] (fun vi wr => ∃ (i : Nat), 1 ≤ i ∧ (i ≤ n ∨ i = 1) ∧ vi = .int .i64 i ∧ Hid (Ext w5 wr)) (fun vi _ => n + 1 - (intOf vi).toNat)
  case atStart => exact ⟨1, by omega, .inr rfl, rfl, Ext.refl _⟩
  case round =>
    obtain ⟨i, hi1, hi2, rfl, HE⟩ := hrel
    by_cases hlt : i < n
    · have hlt' : (i : Int) < n := by omega
      have hat := HAT.out i (by omega) (by rw [HN.out]; exact hlt)
      obtain ⟨J, hJ⟩ : ∃ J, i = J + 1 := ⟨i - 1, by omega⟩
      have hJ1 : i - 1 = J := by omega
      rw [hJ1] at hat
      have hJn : J < n := by omega
      have hJn' : (J : Int) < n := by omega
      have hJj : (i : Int) - 1 = (J : Int) := by omega
      have wJ : IntKind.i64.wrap (J : Int) = (J : Int) := by rw [IntKind.wrap_i64]; omega
      obtain ⟨g, off, ha, k1⟩ := CO.out (by omega)
      obtain ⟨g2, off2, ha2, k2⟩ := CP.out (by omega)
      have c1 := HE.out.cellOf (k1 J hJn)
      have c2 := HE.out.cellOf (k1 i hlt)
      have c3 := HE.out.cellOf (k2 i hlt)
      obtain ⟨p, HPP⟩ : ∃ p, Hid (R.getD J 0 = p) := ⟨_, rfl⟩
      obtain ⟨q, HQ⟩ : ∃ q, Hid (R.getD i 0 = q) := ⟨_, rfl⟩
      rw [HPP.out] at c1 hat
      rw [HQ.out] at c2 hat
      rw [hat] at c3
      obtain ⟨C, HC⟩ : ∃ C, Hid (comL s (p : Int) (q : Int) = C) := ⟨_, rfl⟩
      rw [HC.out] at c3
      have HW : Hid (∀ w', Ext wr w' → Calls Try.prog 23 #[.slice va n vc, .int .i64 (p : Int), .int .i64 (q : Int)] w' fun e w'' => e = .returned (.int .i64 C) ∧ Ext w' w'') := fun w' he => by
        have := rcommon_any _ s p q w' (HVN.out.ext (X5.out.trans (HE.out.trans he))) HS6.out
        rw [HC.out] at this
        exact this
      have dC : (C != C) = false := by simp
      subst ha ha2
      clear hJ hJ1 k1 k2 hi2 hat
      go_wp2_with fail
      have hne := later_some wr
      have hc1 := later_cell c1
      have hc2 := later_cell c2
      have hc3 := later_cell c3
      refine wp_region_k (fun f args v w => v = .int .i64 C) (by kernel_rfl) (by kernel_rfl) (by kernel_rfl) ?_
      refine lexK_take 14 (by kernel_rfl) ?_
      simp only [List.take_succ_cons, List.take_zero, List.drop_succ_cons, List.drop_zero]
      repeat (go_big_quiet_step (fail))
      refine wpQuiet_nil ?_
      refine lexK_call1 23 #[.slice va n vc, .int .i64 (p : Int), .int .i64 (q : Int)] (.int .i64 C) (fun _ _ => Iff.rfl) rfl (fun w' => ?_) (fun w' he _ => HW.out w' he) ?_
      · go_simp
      simp only [Act.put, List.setIfInBounds_toArray, List.set_cons_succ, List.set_cons_zero]
      refine lexK_take 1 (by kernel_rfl) ?_
      simp only [List.take_succ_cons, List.take_zero, List.drop_succ_cons, List.drop_zero]
      repeat (go_big_quiet_step (fail))
      refine wpQuiet_nil ?_
      refine lexK_nil ?_
      intro w6 he6 _
      have X6 := hide' (HE.out.trans he6)
      clear hc1 hc2 hc3 hne c1 c2 c3 HW he6
      go_wp2
      go_roundw
      case rel => exact ⟨i + 1, by omega, .inl (by omega), by go_num, X6⟩
      case measure => simp [intOf]; omega
    · have hlt' : decide ((i : Int) < n) = false := by simp; omega
      go_wp2_with fail
      refine (chSA_any _ _ s (natL R) wr (HVN.out.ext (X5.out.trans HE.out)) H8.out (O15.out.ext HE.out) HS3.out HR6.out).mono ?_
      rw [HCH.out.2]
      rintro e w6 ⟨rfl, he⟩
      have X6 := hide' (HE.out.trans he)
      clear he
      go_wp2_with fail
      refine (chLcp_any _ _ _ s (natL R) P w6 (HVN.out.ext (X5.out.trans X6.out)) H8.out (O15.out.ext X6.out) (O25.out.ext X6.out) HS3.out HR6.out HP6.out).mono ?_
      rw [HCH.out.1]
      rintro e w7 ⟨rfl, he⟩
      have X7 := hide' (X5.out.trans (X6.out.trans he))
      clear he
      go_wp2_with fail
      refine (topKnown_any _).mono ?_
      rintro e w8 ⟨rfl, he⟩
      have X8 := hide' (X7.out.trans he)
      clear he
      go_wp2
      go_ret
      exact ⟨rfl, X8.out⟩
end Go.Proofs.Ythohogbefpoclaa
