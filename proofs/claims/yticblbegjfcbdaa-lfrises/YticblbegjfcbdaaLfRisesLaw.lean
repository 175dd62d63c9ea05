/- LfRises: the walk. -/
import Derived.Test.YticblbegjfcbdaaLfTellsLaw
namespace Go.Proofs.Yticblbegjfcbdaa
set_option linter.unusedVariables false
set_option linter.unusedSimpArgs false
open Go.RowKit

set_option maxHeartbeats 2000000 in
theorem lawRises (v : Value) (l : List Int) (i k : Int) (w : World) (hv : Sl .u8 w v l) (h8 : Bytes8 l) :
    Calls Try.prog 5 #[v, .int .i64 i, .int .i64 k] w fun e w' => e = .returned (.bool true) ∧ Ext w w' := by
  have HV := hide' hv
  obtain ⟨a, c, rfl, _⟩ := hv
  by_cases h1 : (200 : Int) < (l.length : Int)
  · go_enter Try.func5, Try.ntmps5
    go_wp2
    go_ret
    exact ⟨rfl, Ext.refl _⟩
  have d1 : decide ((200 : Int) < (l.length : Int)) = false := by simpa using h1
  by_cases h2 : i < 0
  · go_enter Try.func5, Try.ntmps5
    go_wp2
    go_ret
    exact ⟨rfl, Ext.refl _⟩
  have d2 : decide (i < 0) = false := by simpa using h2
  by_cases h3 : (l.length : Int) ≤ i
  · go_enter Try.func5, Try.ntmps5
    go_wp2
    go_ret
    exact ⟨rfl, Ext.refl _⟩
  have d3 : decide ((l.length : Int) ≤ i) = false := by simpa using h3
  by_cases h4 : k < 0
  · go_enter Try.func5, Try.ntmps5
    go_wp2
    go_ret
    exact ⟨rfl, Ext.refl _⟩
  have d4 : decide (k < 0) = false := by simpa using h4
  by_cases h5 : (l.length : Int) ≤ k
  · go_enter Try.func5, Try.ntmps5
    go_wp2
    go_ret
    exact ⟨rfl, Ext.refl _⟩
  have d5 : decide ((l.length : Int) ≤ k) = false := by simpa using h5
  by_cases h6 : i = k
  · have q : (i == k) = true := by simpa using h6
    go_enter Try.func5, Try.ntmps5
    go_wp2
    go_ret
    exact ⟨rfl, Ext.refl _⟩
  obtain ⟨i, rfl⟩ := Int.eq_ofNat_of_zero_le (show 0 ≤ i by omega)
  obtain ⟨k, rfl⟩ := Int.eq_ofNat_of_zero_le (show 0 ≤ k by omega)
  have d6 : ((i : Int) == (k : Int)) = false := by simpa using h6
  have d6' : (i == k) = false := by simp; omega
  obtain ⟨n, HN⟩ : ∃ n, Hid (l.length = n) := ⟨_, rfl⟩
  have hi : i < n := by have := HN.out; omega
  have hk : k < n := by have := HN.out; omega
  have hi' : (i : Int) < n := by omega
  have hk' : (k : Int) < n := by omega
  have HL : Hid (n ≤ 200) := by show _ ≤ _; have := HN.out; omega
  have C1 := hide' (lfOf_any _ l w HV.out h8 (by have := HN.out; have := HL.out; omega))
  have HRK : Hid ((lfN l).getD i 0 < (lfN l).getD k 0 ↔ (l.getD i 0 < l.getD k 0 ∨ (l.getD i 0 = l.getD k 0 ∧ i < k))) := by
    show _ ↔ _
    rw [lfN_at (by rw [HN.out]; exact hi), lfN_at (by rw [HN.out]; exact hk), rk_iff (by rw [HN.out]; exact hi) (by rw [HN.out]; exact hk)]
  have HFL : Hid ((lfN l).length = n) := by show _ = _; rw [lfN_len, HN.out]
  obtain ⟨F, HF⟩ : ∃ F, Hid (lfN l = F) := ⟨_, rfl⟩
  rw [HF.out] at C1 HRK HFL
  obtain ⟨_, g0, o0, rfl, k0⟩ := HV.out.at (fun e => by have := HN.out; rw [e] at this; simp at this; omega)
  have c1 := k0 i (by rw [HN.out]; exact hi)
  have c2 := k0 k (by rw [HN.out]; exact hk)
  obtain ⟨x, HX⟩ : ∃ x, Hid (l.getD i 0 = x) := ⟨_, rfl⟩
  obtain ⟨y, HY⟩ : ∃ y, Hid (l.getD k 0 = y) := ⟨_, rfl⟩
  rw [HX.out] at c1 HRK
  rw [HY.out] at c2 HRK
  rw [HN.out] at C1 d1 d3 d5 ⊢
  clear h1 h2 h3 h4 h5 h6 h8 HV k0
  go_enter Try.func5, Try.ntmps5
  go_wp2_with fail
  refine C1.out.mono ?_
  rintro e w1 ⟨r1, rfl, ho, he⟩
  have S1 := hide' ho.sl
  have X1 := hide' he
  clear ho he C1
  obtain ⟨ra, rc, hr, _⟩ := id S1.out
  rw [natL_len, HFL.out] at hr
  subst hr
  obtain ⟨_, _, _, hc1⟩ := S1.out.nat
  obtain ⟨g1, o1, rfl, k1⟩ := hc1 (by omega)
  have c3 := k1 i hi
  have c4 := k1 k hk
  have c1 := X1.out.cellOf c1
  have c2 := X1.out.cellOf c2
  obtain ⟨P, HP⟩ : ∃ p, Hid (F.getD i 0 = p) := ⟨_, rfl⟩
  obtain ⟨Q, HQ⟩ : ∃ p, Hid (F.getD k 0 = p) := ⟨_, rfl⟩
  rw [HP.out] at c3 HRK
  rw [HQ.out] at c4 HRK
  have c1 := later_cell c1
  have c2 := later_cell c2
  have c3 := later_cell c3
  have c4 := later_cell c4
  have hne := later_some w1
  clear k1 hc1 S1
  by_cases g1 : x < y
  · have q1 : decide (x < y) = true := by simpa using g1
    have hPQ : P < Q := HRK.out.2 (.inl g1)
    have p1 : decide ((P : Int) < (Q : Int)) = true := by simp; omega
    have p1' : decide (P < Q) = true := by simp; omega
    clear g1 hPQ
    clear HRK
    go_wp2_with fail
    refine wp_region_k (fun _ _ v _ => v = .bool true) (by kernel_rfl) (by kernel_rfl) (by kernel_rfl) ?_
    refine lexK_take 36 (by kernel_rfl) ?_
    simp only [List.take_succ_cons, List.take_zero, List.drop_succ_cons, List.drop_zero]
    repeat (go_big_quiet_step (fail))
    refine wpQuiet_nil ?_
    refine lexK_call1 14 #[] (.bool true) (fun _ _ => Iff.rfl) rfl (fun w' => ?_) (fun w' he _ => known_any w') ?_
    · go_simp
    simp only [Act.put, List.setIfInBounds_toArray, List.set_cons_succ, List.set_cons_zero]
    refine lexK_take 2 (by kernel_rfl) ?_
    simp only [List.take_succ_cons, List.take_zero, List.drop_succ_cons, List.drop_zero, List.take_nil, List.drop_nil]
    repeat (go_big_quiet_step (fail))
    refine wpQuiet_nil ?_
    refine lexK_nil ?_
    intro w5 he5 _
    have X5 := hide' (X1.out.trans he5)
    clear he5 hne c1 c2 c3 c4
    go_wp2
    go_ret
    exact ⟨rfl, X5.out⟩
  · have q1 : decide (x < y) = false := by simpa using g1
    by_cases g2 : x = y
    · have q2 : (x == y) = true := by simpa using g2
      by_cases g3 : i < k
      · have q3 : decide ((i : Int) < (k : Int)) = true := by simp; omega
        have q3' : decide (i < k) = true := by simp; omega
        have hPQ : P < Q := HRK.out.2 (.inr ⟨g2, g3⟩)
        have p1 : decide ((P : Int) < (Q : Int)) = true := by simp; omega
        have p1' : decide (P < Q) = true := by simp; omega
        clear g1 g2 g3 hPQ
        clear HRK
        go_wp2_with fail
        refine wp_region_k (fun _ _ v _ => v = .bool true) (by kernel_rfl) (by kernel_rfl) (by kernel_rfl) ?_
        refine lexK_take 36 (by kernel_rfl) ?_
        simp only [List.take_succ_cons, List.take_zero, List.drop_succ_cons, List.drop_zero]
        repeat (go_big_quiet_step (fail))
        refine wpQuiet_nil ?_
        refine lexK_call1 14 #[] (.bool true) (fun _ _ => Iff.rfl) rfl (fun w' => ?_) (fun w' he _ => known_any w') ?_
        · go_simp
        simp only [Act.put, List.setIfInBounds_toArray, List.set_cons_succ, List.set_cons_zero]
        refine lexK_take 2 (by kernel_rfl) ?_
        simp only [List.take_succ_cons, List.take_zero, List.drop_succ_cons, List.drop_zero, List.take_nil, List.drop_nil]
        repeat (go_big_quiet_step (fail))
        refine wpQuiet_nil ?_
        refine lexK_nil ?_
        intro w5 he5 _
        have X5 := hide' (X1.out.trans he5)
        clear he5 hne c1 c2 c3 c4
        go_wp2
        go_ret
        exact ⟨rfl, X5.out⟩
      · have q3 : decide ((i : Int) < (k : Int)) = false := by simp; omega
        have q3' : decide (i < k) = false := by simp; omega
        have hPQ : ¬ P < Q := fun h => by rcases HRK.out.1 h with h | h; exact g1 h; exact g3 h.2
        have p1 : decide ((P : Int) < (Q : Int)) = false := by simp; omega
        have p1' : decide (P < Q) = false := by simp; omega
        clear g1 g2 g3 hPQ
        clear HRK
        go_wp2_with fail
        refine wp_region_k (fun _ _ v _ => v = .bool true) (by kernel_rfl) (by kernel_rfl) (by kernel_rfl) ?_
        refine lexK_take 36 (by kernel_rfl) ?_
        simp only [List.take_succ_cons, List.take_zero, List.drop_succ_cons, List.drop_zero]
        repeat (go_big_quiet_step (fail))
        refine wpQuiet_nil ?_
        refine lexK_call1 14 #[] (.bool true) (fun _ _ => Iff.rfl) rfl (fun w' => ?_) (fun w' he _ => known_any w') ?_
        · go_simp
        simp only [Act.put, List.setIfInBounds_toArray, List.set_cons_succ, List.set_cons_zero]
        refine lexK_take 2 (by kernel_rfl) ?_
        simp only [List.take_succ_cons, List.take_zero, List.drop_succ_cons, List.drop_zero, List.take_nil, List.drop_nil]
        repeat (go_big_quiet_step (fail))
        refine wpQuiet_nil ?_
        refine lexK_nil ?_
        intro w5 he5 _
        have X5 := hide' (X1.out.trans he5)
        clear he5 hne c1 c2 c3 c4
        go_wp2
        go_ret
        exact ⟨rfl, X5.out⟩
    · have q2 : (x == y) = false := by simpa using g2
      have hPQ : ¬ P < Q := fun h => by rcases HRK.out.1 h with h | h; exact g1 h; exact g2 h.1
      have p1 : decide ((P : Int) < (Q : Int)) = false := by simp; omega
      have p1' : decide (P < Q) = false := by simp; omega
      clear g1 g2 hPQ
      clear HRK
      go_wp2_with fail
      refine wp_region_k (fun _ _ v _ => v = .bool true) (by kernel_rfl) (by kernel_rfl) (by kernel_rfl) ?_
      refine lexK_take 36 (by kernel_rfl) ?_
      simp only [List.take_succ_cons, List.take_zero, List.drop_succ_cons, List.drop_zero]
      repeat (go_big_quiet_step (fail))
      refine wpQuiet_nil ?_
      refine lexK_call1 14 #[] (.bool true) (fun _ _ => Iff.rfl) rfl (fun w' => ?_) (fun w' he _ => known_any w') ?_
      · go_simp
      simp only [Act.put, List.setIfInBounds_toArray, List.set_cons_succ, List.set_cons_zero]
      refine lexK_take 2 (by kernel_rfl) ?_
      simp only [List.take_succ_cons, List.take_zero, List.drop_succ_cons, List.drop_zero, List.take_nil, List.drop_nil]
      repeat (go_big_quiet_step (fail))
      refine wpQuiet_nil ?_
      refine lexK_nil ?_
      intro w5 he5 _
      have X5 := hide' (X1.out.trans he5)
      clear he5 hne c1 c2 c3 c4
      go_wp2
      go_ret
      exact ⟨rfl, X5.out⟩
end Go.Proofs.Yticblbegjfcbdaa
