/- PeriodLast: the walk. -/
import Derived.Test.YtbfcgfpdgadofaaPerKnown
namespace Go.Proofs.Ytbfcgfpdgadofaa
set_option linter.unusedVariables false
set_option linter.unusedSimpArgs false
open Go.RowKit

theorem root_once {s : List Int} (h : 0 < s.length) : (s.take (rootN s)).length / rootN (s.take (rootN s)) = 1 := by
  obtain ⟨a1, a2, _⟩ := rootN_spec h
  rw [rootN_root h, List.length_take, Nat.min_eq_left a2]
  exact Nat.div_self a1

set_option maxHeartbeats 800000 in
set_option maxRecDepth 100000 in
theorem lawLast (v : Value) (zs : List Int) (w : World) (hs : Sl .u8 w v zs) :
    Calls Try.prog 5 #[v] w fun e w' => e = .returned (.bool true) ∧ Ext w w' := by
  have HS := hide' hs
  obtain ⟨a, cap, rfl, hm2, hm3, _⟩ := hs
  unfold maxLen at hm3
  by_cases h0 : (zs.length : Int) < 1
  · go_enter Try.func5, Try.ntmps5
    go_wp2
    go_ret
    exact ⟨rfl, Ext.refl _⟩
  by_cases h1 : (200 : Int) < (zs.length : Int)
  · have d0 : decide ((zs.length : Int) < 1) = false := by simpa using h0
    go_enter Try.func5, Try.ntmps5
    go_wp2
    go_ret
    exact ⟨rfl, Ext.refl _⟩
  have d0 : decide ((zs.length : Int) < 1) = false := by simpa using h0
  have d1 : decide ((200 : Int) < (zs.length : Int)) = false := by simpa using h1
  have h0' : 1 ≤ zs.length := by omega
  have hl : zs.length ≤ 200 := by omega
  clear h0 h1
  have L1 : Hid (zs.length ≤ 1000000) := by show _ ≤ _; omega
  have HON := hide' (root_once (s := zs) (by omega))
  obtain ⟨p1, p2, _, _⟩ := leastI_spec (s := zs) (by omega)
  obtain ⟨T, HT⟩ : ∃ t, Hid (zs.length / rootN zs = t) := ⟨_, rfl⟩
  obtain ⟨R, HR⟩ : ∃ t, Hid (zs.take (rootN zs) = t) := ⟨_, rfl⟩
  have RL : Hid (R.length ≤ 1000000) := by show _ ≤ _; rw [← HR.out, List.length_take]; omega
  rw [HR.out] at HON
  have hBx : (borsL zs).getD (zs.length - 1) 0 = (borI zs zs.length : Int) := by
    rw [borsL_at (by omega), show zs.length - 1 + 1 = zs.length by omega]
  have HBL : Hid ((borsL zs).length = zs.length) := borsL_len zs
  have hPB : (zs.length : Int) - (borI zs zs.length : Int) = (leastI zs : Int) := by
    have := borI_lt (s := zs) (n := zs.length) (by omega) (Nat.le_refl _)
    unfold leastI
    omega
  obtain ⟨P, HP⟩ : ∃ t, Hid (leastI zs = t) := ⟨_, rfl⟩
  rw [HP.out] at p1 p2 hPB
  obtain ⟨B, HB⟩ : ∃ t, Hid (borI zs zs.length = t) := ⟨_, rfl⟩
  rw [HB.out] at hPB hBx
  obtain ⟨bs, HBS⟩ : ∃ t, Hid (borsL zs = t) := ⟨_, rfl⟩
  rw [HBS.out] at HBL hBx
  obtain ⟨N, HN⟩ : ∃ n, Hid (zs.length = n) := ⟨_, rfl⟩
  obtain ⟨M, hM⟩ : ∃ m, N - 1 = m := ⟨_, rfl⟩
  rw [HN.out] at h0' hl hPB hBx HBL p2 d0 d1 hm2 HS ⊢
  rw [hM] at hBx
  have HBX := hide' hBx
  have hM1 : (N : Int) - 1 = (M : Int) := by omega
  have hM2 : (M : Int) < N := by omega
  have hM3 : M < N := by omega
  clear hM hBx
  go_enter Try.func5, Try.ntmps5
  go_wp2_with fail
  refine (borders_any _ zs w HS.out L1.out).mono ?_
  rw [HBS.out]
  rintro e w1 ⟨s1, rfl, ho, he⟩
  have X1 := hide' he
  obtain ⟨g, cap1, rfl, _, hc1, hc2⟩ := ho.shape (fun h => by have := HBL.out; rw [h] at this; simp at this; omega)
  have HO := hide' ho
  rw [HBL.out] at HO hc1 ⊢
  unfold maxLen at hc2
  clear ho he
  go_wp2_with fail
  refine (root_any _ zs w1 (HS.out.ext X1.out) L1.out).mono ?_
  rw [HR.out]
  generalize zs.length / rootN zs = T0
  rintro e w2 ⟨s2, rfl, ho, he⟩
  have HR2 := hide' ho.sl
  have X2 := hide' he
  have Y2 := hide' (X1.out.trans he)
  clear ho he
  go_wp2_with fail
  refine (root_any _ R w2 HR2.out RL.out).mono ?_
  rw [HON.out]
  rintro e w3 ⟨s3, rfl, ho, he⟩
  have X3 := hide' (X2.out.trans he)
  have Y3 := hide' (Y2.out.trans he)
  clear ho he
  have hc := (HO.out.cell HBL.out M hM3)
  rw [HBX.out] at hc
  have hcl := later_cell (X3.out.cellOf hc)
  have hne := later_some w3
  clear hc
  have q1 : ((P : Int) == (P : Int)) = true := by simp
  have q2 : ((N : Int) == (N : Int)) = true := by simp
  go_wp2_with fail
  refine wp_region_k (fun f args v w => (f = 13 → v = .int .i64 (P : Int)) ∧ (f = 15 → v = .bool true)) (by kernel_rfl) (by kernel_rfl) (by kernel_rfl) ?_
  refine lexK_take 7 (by kernel_rfl) ?_
  simp only [List.take_succ_cons, List.take_zero, List.drop_succ_cons, List.drop_zero]
  repeat (go_big_quiet_step (fail))
  refine wpQuiet_nil ?_
  refine lexK_call1 13 #[.slice a N cap] (.int .i64 (P : Int)) (fun _ _ => ⟨fun h => h.1 rfl, fun h => ⟨fun _ => h, fun e => by cases e⟩⟩) rfl (fun w' => ?_) (fun w' he _ => (by have := least_any _ zs w' ((HS.out.ext Y3.out).ext he) L1.out; rw [HP.out] at this; exact this)) ?_
  · go_simp
  simp only [Act.put, List.setIfInBounds_toArray, List.set_cons_succ, List.set_cons_zero]
  refine lexK_take 16 (by kernel_rfl) ?_
  simp only [List.take_succ_cons, List.take_zero, List.drop_succ_cons, List.drop_zero]
  repeat (go_big_quiet_step (fail))
  refine wpQuiet_nil ?_
  refine lexK_call1 15 #[] (.bool true) (fun _ _ => ⟨fun h => h.2 rfl, fun h => ⟨fun e => (by cases e), fun _ => h⟩⟩) rfl (fun w' => ?_) (fun w' _ _ => known_any w') ?_
  · go_simp
  simp only [Act.put, List.setIfInBounds_toArray, List.set_cons_succ, List.set_cons_zero]
  refine lexK_take 2 (by kernel_rfl) ?_
  simp only [List.take_succ_cons, List.take_zero, List.drop_succ_cons, List.drop_zero]
  repeat (go_big_quiet_step (fail))
  refine wpQuiet_nil ?_
  refine lexK_nil ?_
  intro w4 he4 _
  clear hcl hne
  go_wp2
  go_ret
  exact ⟨rfl, Y3.out.trans he4⟩
end Go.Proofs.Ytbfcgfpdgadofaa
