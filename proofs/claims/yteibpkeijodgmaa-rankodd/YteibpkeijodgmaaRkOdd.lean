/- RankOdd: the walk. -/
import Derived.Test.YteibpkeijodgmaaRkKnown
import Derived.Test.YteibpkeijodgmaaRefInv
import Derived.Test.YteibpkeijodgmaaInvMath
namespace Go.Proofs.Yteibpkeijodgmaa
set_option linter.unusedVariables false
set_option linter.unusedSimpArgs false
open Go.RowKit

set_option maxHeartbeats 1000000 in
theorem lawOdd (v : Value) (s : List Int) (i x : Int) (w : World) (hv : Sl .i64 w v s) :
    Calls Try.prog 5 #[v, .int .i64 i, .int .i64 x] w fun e w' => e = .returned (.bool true) ∧ Ext w w' := by
  have HV := hide' hv
  obtain ⟨a, c, rfl, _⟩ := hv
  by_cases h0 : (s.length : Int) < 1
  · go_enter Try.func5, Try.ntmps5
    go_wp2
    go_ret
    exact ⟨rfl, Ext.refl _⟩
  have d0 : decide ((s.length : Int) < 1) = false := by simpa using h0
  by_cases h1 : (200 : Int) < (s.length : Int)
  · go_enter Try.func5, Try.ntmps5
    go_wp2
    go_ret
    exact ⟨rfl, Ext.refl _⟩
  have d1 : decide ((200 : Int) < (s.length : Int)) = false := by simpa using h1
  by_cases h2 : i < 0
  · go_enter Try.func5, Try.ntmps5
    go_wp2
    go_ret
    exact ⟨rfl, Ext.refl _⟩
  have d2 : decide (i < 0) = false := by simpa using h2
  by_cases h3 : (s.length : Int) ≤ i
  · go_enter Try.func5, Try.ntmps5
    go_wp2
    go_ret
    exact ⟨rfl, Ext.refl _⟩
  have d3 : decide ((s.length : Int) ≤ i) = false := by simpa using h3
  have HL3 : Hid (s.length ≤ 1000000) := by show _ ≤ _; omega
  by_cases hb : ordB s = true
  rotate_left
  · have HB : Hid (ordB s = false) := Bool.eq_false_iff.2 hb
    clear hb h0 h1 h2 h3
    go_enter Try.func5, Try.ntmps5
    go_wp2_with fail
    refine (ris_any _ s w HV.out HL3.out).mono ?_
    rw [HB.out]
    rintro e w1 ⟨rfl, he⟩
    have X1 := hide' he
    clear he
    go_wp2
    go_ret
    exact ⟨rfl, X1.out⟩
  obtain ⟨i, rfl⟩ := Int.eq_ofNat_of_zero_le (show 0 ≤ i by omega)
  have hi : i < s.length := by omega
  have hi' : (i : Int) < (s.length : Int) := by omega
  have d4 : decide (s.length ≤ i) = false := by simp; omega
  have HB := hide' hb
  have HSET := hide' (ordB_set hb hi x)
  have hn : s.length ≤ 200 := by omega
  obtain ⟨a1, ⟨_, _, _, hcv⟩⟩ : True ∧ _ := ⟨trivial, HV.out.int⟩
  have CV := hide' hcv
  clear hcv hb h0 h1 h2 h3
  obtain ⟨n, HN⟩ : ∃ n, Hid (s.length = n) := ⟨_, rfl⟩
  obtain ⟨y, HY⟩ : ∃ y, Hid (s.getD i 0 = y) := ⟨_, rfl⟩
  rw [HY.out] at HSET
  rw [HN.out] at CV HV d0 d1 d3 d4 hi hi' hn HL3 ⊢
  have hinv : Hid ((invI (s.set i x)).length = 0 ∨ decide (x = y) = true) := by
    by_cases e : x = y
    · exact .inr (by simpa using e)
    · refine .inl ?_
      rw [invI_no (by rw [HSET.out]; simpa using e)]
      rfl
  obtain ⟨B, HBS⟩ : ∃ B, Hid (s.set i x = B) := ⟨_, rfl⟩
  have HBL : Hid (B.length = n) := by show _ = _; rw [← HBS.out, List.length_set]; exact HN.out
  obtain ⟨I, HI⟩ : ∃ I, Hid (invI B = I) := ⟨_, rfl⟩
  rw [HBS.out] at HSET hinv
  rw [HI.out] at hinv
  have HBL3 : Hid (B.length ≤ 1000000) := by show _ ≤ _; rw [HBL.out]; exact HL3.out
  go_enter Try.func5, Try.ntmps5
  go_wp2_with fail
  refine (ris_any _ s w HV.out (by rw [HN.out]; exact HL3.out)).mono ?_
  rw [HB.out]
  rintro e w0 ⟨rfl, he⟩
  have X0 := hide' he
  clear he
  have V0 := hide' (HV.out.ext X0.out)
  go_wp2_with (at_builtin; refine wpList_join _ rfl _ _ 22 rfl 3 .i64 8 Try.underlying22 infoI64 w0.heap.size _ _ [] s rfl rfl (Own.made #[] 0 (Nat.le_refl _) (by simp [maxLen]) rfl) (V0.out.ext (ext_alloc w0 _)) ?c1 (by simp) ?_)
  case c1 => rw [HN.out]; unfold maxLen; simp; omega
  intro v1 w1 ho hb
  have HO1 : Hid (Own .i64 3 w0.heap.size w1 v1 s) := by have := ho; first | exact this | simpa using this
  have X01 : Hid (Ext w0 w1) := Below.trans (ext_alloc _ _) hb
  clear ho hb
  obtain ⟨g, cap, rfl, hgB, _, _⟩ := HO1.out.shape (fun h => by have := HN.out; rw [h] at this; simp at this; omega)
  have HO2 : Hid (Own .i64 3 w0.heap.size w1 (.slice (some ⟨g, 0, none⟩) n cap) s) := by
    have := HO1.out
    rw [HN.out] at this
    exact this
  have hci := HO2.out.cell HN.out i hi
  have hfz := HO2.out.frozen HN.out i
  have HO3 := hide' (HO2.out.store HN.out i x)
  rw [HBS.out] at HO3
  rw [HN.out]
  have HE3 := hide' (X0.out.trans (X01.out.setCell (p := ⟨g, i, none⟩) hgB (.int .i64 x)))
  clear HO1 HO2
  go_wp2_with fail
  generalize hws : w1.setCell ⟨g, i, none⟩ (.int .i64 x) = ws at *
  clear hws hci hfz
  have SB := hide' HO3.out.sl
  refine (rkInv_any _ B ws SB.out HBL3.out).mono ?_
  rw [HI.out, HSET.out]
  rintro e w4 ⟨u4, rfl, ho, he⟩
  have X4 := hide' (HE3.out.trans he)
  have S4 := hide' (SB.out.ext he)
  have O4 := hide' ho.sl
  clear ho he
  obtain ⟨k, HK⟩ : ∃ k, Hid (I.length = k) := ⟨_, rfl⟩
  obtain ⟨a4, c4, rfl, _⟩ := O4.out
  rw [HK.out] at hinv ⊢
  obtain ⟨g1, o1, rfl, k1⟩ := CV.out (by omega)
  have q1 := X4.out.cellOf (k1 i hi)
  rw [HY.out] at q1
  clear k1
  by_cases hxy : x = y
  · have HS2 : Hid (ordB B = true) := by show _ = _; rw [HSET.out, decide_eq_true hxy]
    rw [decide_eq_true hxy]
    have q2 : (x == y) = true := by simpa using hxy
    clear hxy hinv
    go_wp2_with fail
    have hne := later_some w4
    have hcl := later_cell q1
    have qb : (true == true) = true := rfl
    refine wp_region_k (fun f args v w => (f = 9 → v = .bool true) ∧ (f = 10 → v = .bool true)) (by kernel_rfl) (by kernel_rfl) (by kernel_rfl) ?_
    refine lexK_take 1 (by kernel_rfl) ?_
    simp only [List.take_succ_cons, List.take_zero, List.drop_succ_cons, List.drop_zero]
    repeat (go_big_quiet_step (fail))
    refine wpQuiet_nil ?_
    refine lexK_call1 9 #[.slice (some ⟨g, 0, none⟩) n cap] (.bool true) (fun _ _ => ⟨fun h => h.1 rfl, fun h => ⟨fun _ => h, fun e => by cases e⟩⟩) rfl (fun w' => ?_) (fun w' he' _ => ?_) ?_
    · go_simp
    · refine (rkIs_any _ B w' (S4.out.ext he') HBL3.out).mono ?_
      rw [HS2.out]
      rintro e w'' ⟨h1, h2⟩
      exact ⟨h1, h2⟩
    simp only [Act.put, List.setIfInBounds_toArray, List.set_cons_succ, List.set_cons_zero]
    refine lexK_take 26 (by kernel_rfl) ?_
    simp only [List.take_succ_cons, List.take_zero, List.drop_succ_cons, List.drop_zero]
    repeat (go_big_quiet_step (fail))
    refine wpQuiet_nil ?_
    refine lexK_call1 10 #[] (.bool true) (fun _ _ => ⟨fun h => h.2 rfl, fun h => ⟨fun e => (by cases e), fun _ => h⟩⟩) rfl (fun w' => ?_) (fun w' _ _ => known_any w') ?_
    · go_simp
    simp only [Act.put, List.setIfInBounds_toArray, List.set_cons_succ, List.set_cons_zero]
    refine lexK_take 2 (by kernel_rfl) ?_
    simp only [List.take_succ_cons, List.take_zero, List.drop_succ_cons, List.drop_zero]
    repeat (go_big_quiet_step (fail))
    refine wpQuiet_nil ?_
    refine lexK_nil ?_
    intro w7 he7 _
    clear hne hcl
    have X7 := hide' (X4.out.trans he7)
    go_wp2
    go_ret
    exact ⟨rfl, X7.out⟩
  · have HS2 : Hid (ordB B = false) := by show _ = _; rw [HSET.out, decide_eq_false hxy]
    have hk : k = 0 := hinv.out.resolve_right (by rw [decide_eq_false hxy]; exact Bool.false_ne_true)
    rw [decide_eq_false hxy]
    have q2 : (x == y) = false := by simpa using hxy
    have q3 : ((0 : Int) == 0) = true := rfl
    clear hxy hinv HK
    subst hk
    go_wp2_with fail
    have hne := later_some w4
    have hcl := later_cell q1
    have qb : (false == false) = true := rfl
    refine wp_region_k (fun f args v w => (f = 9 → v = .bool false) ∧ (f = 10 → v = .bool true)) (by kernel_rfl) (by kernel_rfl) (by kernel_rfl) ?_
    refine lexK_take 1 (by kernel_rfl) ?_
    simp only [List.take_succ_cons, List.take_zero, List.drop_succ_cons, List.drop_zero]
    repeat (go_big_quiet_step (fail))
    refine wpQuiet_nil ?_
    refine lexK_call1 9 #[.slice (some ⟨g, 0, none⟩) n cap] (.bool false) (fun _ _ => ⟨fun h => h.1 rfl, fun h => ⟨fun _ => h, fun e => by cases e⟩⟩) rfl (fun w' => ?_) (fun w' he' _ => ?_) ?_
    · go_simp
    · refine (rkIs_any _ B w' (S4.out.ext he') HBL3.out).mono ?_
      rw [HS2.out]
      rintro e w'' ⟨h1, h2⟩
      exact ⟨h1, h2⟩
    simp only [Act.put, List.setIfInBounds_toArray, List.set_cons_succ, List.set_cons_zero]
    refine lexK_take 26 (by kernel_rfl) ?_
    simp only [List.take_succ_cons, List.take_zero, List.drop_succ_cons, List.drop_zero]
    repeat (go_big_quiet_step (fail))
    refine wpQuiet_nil ?_
    refine lexK_call1 10 #[] (.bool true) (fun _ _ => ⟨fun h => h.2 rfl, fun h => ⟨fun e => (by cases e), fun _ => h⟩⟩) rfl (fun w' => ?_) (fun w' _ _ => known_any w') ?_
    · go_simp
    simp only [Act.put, List.setIfInBounds_toArray, List.set_cons_succ, List.set_cons_zero]
    refine lexK_take 2 (by kernel_rfl) ?_
    simp only [List.take_succ_cons, List.take_zero, List.drop_succ_cons, List.drop_zero]
    repeat (go_big_quiet_step (fail))
    refine wpQuiet_nil ?_
    refine lexK_nil ?_
    intro w7 he7 _
    clear hne hcl
    have X7 := hide' (X4.out.trans he7)
    go_wp2
    go_ret
    exact ⟨rfl, X7.out⟩
end Go.Proofs.Yteibpkeijodgmaa
