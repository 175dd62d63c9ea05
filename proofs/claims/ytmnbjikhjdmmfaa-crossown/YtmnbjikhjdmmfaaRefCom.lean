/- Contract of the document's own Common: whorlref4.Common. -/
import Derived.Test.YtmnbjikhjdmmfaaPart1
import Derived.Test.YtmnbjikhjdmmfaaPart2
import Derived.Test.YtmnbjikhjdmmfaaKripTail
import Derived.Lib.MinMax
namespace Go.Proofs.Ytmnbjikhjdmmfaa
set_option linter.unusedVariables false
set_option linter.unusedSimpArgs false
open Go.RowKit

set_option maxHeartbeats 400000 in
theorem rcommon_any (v : Value) (zs : List Int) (i j : Int) (w : World) (hs : Sl .u8 w v zs) (hlen : zs.length ≤ 1000000) :
    Calls Try.prog 19 #[v, .int .i64 i, .int .i64 j] w fun e w' => e = .returned (.int .i64 (comL zs i j)) ∧ Ext w w' := by
  have HS := hide' hs
  obtain ⟨a, c, rfl, h2, h3, _⟩ := hs
  unfold maxLen at h3
  by_cases g1 : i < 0
  · rw [comL_out (by omega)]
    go_enter Try.func19, Try.ntmps19
    go_wp2
    go_ret
    exact ⟨rfl, Ext.refl _⟩
  have d1 : decide (i < 0) = false := by simpa using g1
  by_cases g2 : (zs.length : Int) < i
  · rw [comL_out (by omega)]
    go_enter Try.func19, Try.ntmps19
    go_wp2
    go_ret
    exact ⟨rfl, Ext.refl _⟩
  have d2 : decide ((zs.length : Int) < i) = false := by simpa using g2
  by_cases g3 : j < 0
  · rw [comL_out (by omega)]
    go_enter Try.func19, Try.ntmps19
    go_wp2
    go_ret
    exact ⟨rfl, Ext.refl _⟩
  have d3 : decide (j < 0) = false := by simpa using g3
  by_cases g4 : (zs.length : Int) < j
  · rw [comL_out (by omega)]
    go_enter Try.func19, Try.ntmps19
    go_wp2
    go_ret
    exact ⟨rfl, Ext.refl _⟩
  have d4 : decide ((zs.length : Int) < j) = false := by simpa using g4
  obtain ⟨i, rfl⟩ := Int.eq_ofNat_of_zero_le (show 0 ≤ i by omega)
  obtain ⟨j, rfl⟩ := Int.eq_ofNat_of_zero_le (show 0 ≤ j by omega)
  have g2' : i ≤ zs.length := by omega
  have g4' : j ≤ zs.length := by omega
  clear g1 g2 g3 g4
  rw [comL_in (by omega) (by omega)]
  obtain ⟨t, ht⟩ : ∃ t, t = max i j := ⟨_, rfl⟩
  have hmax : max (i : Int) (j : Int) = (t : Int) := by omega
  have HI : Hid (i ≤ t ∧ j ≤ t ∧ t ≤ zs.length) := by show _ ∧ _; omega
  obtain ⟨x, HX⟩ : ∃ x, Hid (zs.drop i = x) := ⟨_, rfl⟩
  obtain ⟨y, HY⟩ : ∃ y, Hid (zs.drop j = y) := ⟨_, rfl⟩
  rw [HX.out, HY.out]
  have HXL : Hid (x.length = zs.length - i) := by show _ = _; rw [← HX.out, List.length_drop]
  have HYL : Hid (y.length = zs.length - j) := by show _ = _; rw [← HY.out, List.length_drop]
  have HXA : Hid (∀ k, x.getD k 0 = zs.getD (i + k) 0) := fun k => by rw [← HX.out]; simp [List.getD]
  have HYA : Hid (∀ k, y.getD k 0 = zs.getD (j + k) 0) := fun k => by rw [← HY.out]; simp [List.getD]
  obtain ⟨n, hn⟩ : ∃ n, n = zs.length := ⟨_, rfl⟩
  rw [← hn] at HXL HYL HS HI hlen d2 d4 g2' g4' ⊢
  have HN := hide' hn
  clear hn h2 ht
  have tn : t ≤ n := HI.out.2.2
  go_enter Try.func19, Try.ntmps19
  go_wp2
  go_loopw [7] (fun vk wr => ∃ (k : Nat), t + k ≤ n ∧ vk = .int .i64 k ∧ Hid (comI x y = k + comI (x.drop k) (y.drop k)) ∧ Hid (Ext w wr)) (fun vk _ => n - (intOf vk).toNat)
  case atStart => exact ⟨0, by omega, rfl, (show _ = _ by simp), Ext.refl _⟩
  case round =>
    obtain ⟨k, hk, rfl, HK, HE⟩ := hrel
    have hne := later_some wr
    by_cases hlt : t + k < n
    · have hlt' : (t : Int) + k < n := by omega
      have hnn : zs ≠ [] := fun h => by have := HN.out; rw [h] at this; simp at this; omega
      obtain ⟨_, b, off, hab, hc⟩ := HS.out.at hnn
      subst hab
      have b1 : i + k < n := by have := HI.out; omega
      have b2 : j + k < n := by have := HI.out; omega
      have c1 := hc (i + k) b1
      have c2 := hc (j + k) b2
      rw [← HXA.out k] at c1
      rw [← HYA.out k] at c2
      obtain ⟨p, HP⟩ : ∃ p, Hid (x.getD k 0 = p) := ⟨_, rfl⟩
      obtain ⟨q, HQ⟩ : ∃ q, Hid (y.getD k 0 = q) := ⟨_, rfl⟩
      rw [HP.out] at c1
      rw [HQ.out] at c2
      have c1' := later_cell (HE.out.cellOf c1)
      have c2' := later_cell (HE.out.cellOf c2)
      clear hc hnn c1 c2
      have b1' : (i : Int) + k < n := by omega
      have b2' : (j : Int) + k < n := by omega
      by_cases hpq : p = q
      · have HK' : Hid (comI x y = (k + 1 : Nat) + comI (x.drop (k + 1)) (y.drop (k + 1))) := by
          have h := comI_same (x := x) (y := y) (k := k) (by rw [HXL.out]; omega) (by rw [HYL.out]; omega) (by rw [HP.out, HQ.out, hpq])
          show _ = _
          rw [HK.out, h]; omega
        subst hpq
        go_wp2_with fail
        refine wp_region_k (fun _ _ _ _ => True) (by kernel_rfl) (by kernel_rfl) (by kernel_rfl) ?_
        refine lexK_take 23 (by kernel_rfl) ?_
        simp only [List.take_succ_cons, List.take_zero, List.drop_succ_cons, List.drop_zero, List.take_nil, List.drop_nil]
        repeat (go_big_quiet_step (fail))
        refine wpQuiet_nil ?_
        refine lexK_nil ?_
        intro w2 he2 _
        have HE2 := hide' (HE.out.trans he2)
        clear he2 hne c1' c2'
        go_wp2
        go_roundw
        case rel => exact ⟨k + 1, by omega, by go_num, HK', HE2⟩
        case measure => simp [intOf]; omega
      · have hpq' : (p == q) = false := by simpa using hpq
        have HK' : Hid (comI x y = k) := by
          have h := comI_other (x := x) (y := y) (k := k) (by rw [HXL.out]; omega) (by rw [HYL.out]; omega) (by rw [HP.out, HQ.out]; exact hpq)
          show _ = _
          rw [HK.out, h]; omega
        clear hpq
        go_wp2_with fail
        refine wp_region_k (fun _ _ _ _ => True) (by kernel_rfl) (by kernel_rfl) (by kernel_rfl) ?_
        refine lexK_take 23 (by kernel_rfl) ?_
        simp only [List.take_succ_cons, List.take_zero, List.drop_succ_cons, List.drop_zero, List.take_nil, List.drop_nil]
        repeat (go_big_quiet_step (fail))
        refine wpQuiet_nil ?_
        refine lexK_nil ?_
        intro w2 he2 _
        have HE2 := hide' (HE.out.trans he2)
        clear he2 hne c1' c2'
        go_wp2
        go_ret
        rw [HK'.out]
        exact ⟨rfl, HE2.out⟩
    · have hlt' : decide ((t : Int) + k < n) = false := by simp; omega
      have HK' : Hid (comI x y = k) := by
        have h : comI (x.drop k) (y.drop k) = 0 := by
          have h1 := HXL.out
          have h2 := HYL.out
          have h3 := HI.out
          have h4 : (t : Int) = i ∨ (t : Int) = j := by omega
          rcases h4 with h4 | h4
          · exact comI_left (by omega)
          · exact comI_right (by omega)
        show _ = _
        rw [HK.out, h]; omega
      go_wp2_with fail
      refine wp_region_k (fun _ _ _ _ => True) (by kernel_rfl) (by kernel_rfl) (by kernel_rfl) ?_
      refine lexK_take 23 (by kernel_rfl) ?_
      simp only [List.take_succ_cons, List.take_zero, List.drop_succ_cons, List.drop_zero, List.take_nil, List.drop_nil]
      repeat (go_big_quiet_step (fail))
      refine wpQuiet_nil ?_
      refine lexK_nil ?_
      intro w2 he2 _
      have HE2 := hide' (HE.out.trans he2)
      clear he2 hne
      go_wp2
      go_ret
      rw [HK'.out]
      exact ⟨rfl, HE2.out⟩
end Go.Proofs.Ytmnbjikhjdmmfaa
