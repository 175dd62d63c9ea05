/- Contract of lex.Common, of texts of at most 500 bytes. -/
import Derived.Test.YtmojnliljaefbaaLexIsE
import Derived.Test.YtmojnliljaefbaaBut
import Derived.Lib.MinMax
namespace Go.Proofs.Ytmojnliljaefbaa
set_option linter.unusedVariables false
set_option linter.unusedSimpArgs false
open Go.RowKit

theorem comI_cut : ∀ (x y : List Int) (m : Nat), min x.length y.length ≤ m → comI x y = comI (x.take m) (y.take m)
  | [], y, m, _ => by rw [List.take_nil, comI_nil_left, comI_nil_left]
  | a :: x, [], m, _ => by rw [List.take_nil, comI_nil_right, comI_nil_right]
  | a :: x, b :: y, 0, h => by simp at h
  | a :: x, b :: y, m + 1, h => by
    rw [List.take_succ_cons, List.take_succ_cons, comI, comI, comI_cut x y m (by simp at h; omega)]

set_option maxHeartbeats 400000 in
theorem common_any (v : Value) (zs : List Int) (i j : Int) (w : World) (hs : Sl .u8 w v zs) (hlen : zs.length ≤ 500) :
    Calls Try.prog 30 #[v, .int .i64 i, .int .i64 j] w fun e w' => e = .returned (.int .i64 (comL zs i j)) ∧ ∃ m, w' = w.drewN m := by
  have HS := hide' hs
  obtain ⟨a, c, rfl, h2, h3, _⟩ := hs
  unfold maxLen at h3
  have hl : zs.length ≤ 9223372036854775807 := by omega
  by_cases g1 : 0 ≤ i ∧ i ≤ (zs.length : Int)
  · have C1 : Hid (∀ W, Calls Try.prog 33 #[.slice a zs.length c, .int .i64 i] W fun e w' => e = .returned (.bool true) ∧ w' = W) := fun W => by
      have := isEnding_any a zs.length c i W hl
      rwa [show decide (0 ≤ i ∧ i ≤ (zs.length : Int)) = true from decide_eq_true g1] at this
    by_cases g2 : 0 ≤ j ∧ j ≤ (zs.length : Int)
    · have C2 : Hid (∀ W, Calls Try.prog 33 #[.slice a zs.length c, .int .i64 j] W fun e w' => e = .returned (.bool true) ∧ w' = W) := fun W => by
        have := isEnding_any a zs.length c j W hl
        rwa [show decide (0 ≤ j ∧ j ≤ (zs.length : Int)) = true from decide_eq_true g2] at this
      obtain ⟨g1, g1'⟩ := g1
      obtain ⟨g2, g2'⟩ := g2
      obtain ⟨i, rfl⟩ := Int.eq_ofNat_of_zero_le g1
      obtain ⟨j, rfl⟩ := Int.eq_ofNat_of_zero_le g2
      rw [comL_in (by omega) (by omega)]
      obtain ⟨m, hm⟩ : ∃ m, m = zs.length - max i j := ⟨_, rfl⟩
      have hmi : i + m ≤ zs.length := by omega
      have hmj : j + m ≤ zs.length := by omega
      obtain ⟨t, ht⟩ : ∃ t, t = max i j := ⟨_, rfl⟩
      have hmax : max (i : Int) (j : Int) = (t : Int) := by omega
      have htm : (zs.length : Int) - (t : Int) = (m : Int) := by omega
      have HCOM : Hid (comI (zs.drop i) (zs.drop j) = comI ((zs.take (i + m)).drop i) ((zs.take (j + m)).drop j)) := by
        show _ = _
        rw [comI_cut (zs.drop i) (zs.drop j) m (by rw [List.length_drop, List.length_drop]; omega), List.drop_take, List.drop_take]
        congr 2 <;> omega
      obtain ⟨a1, r1, s1⟩ := HS.out.runCut (P := Try.prog) 22 5 Try.underlying22 size8 i (i + m) (by omega) hmi
      obtain ⟨a2, r2, s2⟩ := HS.out.runCut (P := Try.prog) 22 5 Try.underlying22 size8 j (j + m) (by omega) hmj
      simp only [Nat.add_sub_cancel_left, Int.natCast_add] at r1 r2
      rw [Nat.add_sub_cancel_left] at s1 s2
      have S1 := hide' s1
      have S2 := hide' s2
      clear s1 s2
      obtain ⟨x, HX⟩ : ∃ x, Hid ((zs.take (i + m)).drop i = x) := ⟨_, rfl⟩
      obtain ⟨y, HY⟩ : ∃ y, Hid ((zs.take (j + m)).drop j = y) := ⟨_, rfl⟩
      rw [HX.out, HY.out] at HCOM
      rw [HX.out] at S1
      rw [HY.out] at S2
      rw [HCOM.out]
      have hx : x.length = m := by rw [← HX.out, List.length_drop, List.length_take]; omega
      have hy : y.length = m := by rw [← HY.out, List.length_drop, List.length_take]; omega
      have HXL := hide' hx
      have HYL := hide' hy
      have hm' : m ≤ 500 := by omega
      have wi : IntKind.i64.wrap ((i : Int) + (m : Int)) = (i : Int) + (m : Int) := by rw [IntKind.wrap_i64]; omega
      have wj : IntKind.i64.wrap ((j : Int) + (m : Int)) = (j : Int) + (m : Int) := by rw [IntKind.wrap_i64]; omega
      have d1 : decide ((0 : Int) + 512 ≤ (m : Int)) = false := by simp; omega
      have d2 : decide ((512 : Int) ≤ (m : Int)) = false := by simp; omega
      obtain ⟨N, HN⟩ : ∃ N, Hid (zs.length = N) := ⟨_, rfl⟩
      rw [HN.out] at C1 C2 r1 r2 htm hmi hmj g1' g2' h2 ⊢
      clear hx hy hm ht HX HY HCOM HS h2 h3 hl hlen
      go_enter Try.func30, Try.ntmps30
      go_wp2_with fail
      refine (C1.out _).mono ?_
      rintro e w' ⟨rfl, rfl⟩
      go_wp2_with fail
      refine (C2.out _).mono ?_
      rintro e w' ⟨rfl, rfl⟩
      go_wp2_with fail
      go_quiet (fail)
      clear r1 r2 hmax htm
      go_wp2
      go_loopw [10] (fun n wr => n = .int .i64 0 ∧ ∃ k, wr = w'.drewN k) (fun n _ => 0)
      case atStart => exact ⟨rfl, _, rfl⟩
      case round =>
        obtain ⟨rfl, k0, rfl⟩ := hrel
        go_wp2_with fail
        go_quiet (fail)
        go_wp2
        go_loopw [10] (fun n wr => ∃ (k : Nat), k ≤ m ∧ n = .int .i64 k ∧ Hid (comI x y = k + comI (x.drop k) (y.drop k)) ∧ ∃ k, wr = w'.drewN k) (fun n _ => m - (intOf n).toNat)
        case atStart => exact ⟨0, Nat.zero_le _, rfl, (show _ = _ by simp), by first | exact ⟨_, rfl⟩ | (rw [World.drewN_drewN]; exact ⟨_, rfl⟩)⟩
        case round =>
          obtain ⟨k, hk1, rfl, HK, q0, rfl⟩ := hrel
          by_cases l1 : k < m
          · have hne1 : x ≠ [] := fun h => by have := HXL.out; rw [h] at this; simp at this; omega
            have hne2 : y ≠ [] := fun h => by have := HYL.out; rw [h] at this; simp at this; omega
            obtain ⟨_, b1, o1, e1, c1⟩ := S1.out.at hne1
            obtain ⟨_, b2, o2, e2, c2⟩ := S2.out.at hne2
            have c1' := c1 k l1
            have c2' := c2 k l1
            obtain ⟨p, HP⟩ : ∃ p, Hid (x.getD k 0 = p) := ⟨_, rfl⟩
            obtain ⟨q, HQ⟩ : ∃ q, Hid (y.getD k 0 = q) := ⟨_, rfl⟩
            rw [HP.out] at c1'
            rw [HQ.out] at c2'
            subst e1 e2
            clear c1 c2 hne1 hne2
            have l1' : (k : Int) < m := by omega
            by_cases hpq : p = q
            · have HK' : Hid (comI x y = (k + 1 : Nat) + comI (x.drop (k + 1)) (y.drop (k + 1))) := by
                have h := comI_same (x := x) (y := y) (k := k) (by rw [HXL.out]; exact l1) (by rw [HYL.out]; exact l1) (by rw [HP.out, HQ.out, hpq])
                show _ = _
                rw [HK.out, h]; omega
              subst hpq
              go_wp2_with fail
              go_quiet (fail)
              go_wp2
              go_roundw
              case rel => exact ⟨k + 1, by omega, by go_num, HK', by first | exact ⟨_, rfl⟩ | (rw [World.drewN_drewN]; exact ⟨_, rfl⟩)⟩
              case measure => simp [intOf]; omega
            · have hpq' : (p == q) = false := by simpa using hpq
              have HK' : Hid (comI x y = k) := by
                have h := comI_other (x := x) (y := y) (k := k) (by rw [HXL.out]; exact l1) (by rw [HYL.out]; exact l1) (by rw [HP.out, HQ.out]; exact hpq)
                show _ = _
                rw [HK.out, h]; omega
              clear hpq
              go_wp2_with fail
              go_quiet (fail)
              go_wp2
              go_ret
              rw [HK'.out]
              exact ⟨rfl, _, by first | rfl | rw [World.drewN_drewN]⟩
          · have l1' : decide ((k : Int) < m) = false := by simp; omega
            have HK' : Hid (comI x y = k) := by
              have h := comI_left (x := x) (y := y) (k := k) (by rw [HXL.out]; omega)
              show _ = _
              rw [HK.out, h]; omega
            go_wp2_with fail
            go_quiet (fail)
            go_wp2
            go_ret
            rw [HK'.out]
            exact ⟨rfl, _, by first | rfl | rw [World.drewN_drewN]⟩
    · have C2 : Hid (∀ W, Calls Try.prog 33 #[.slice a zs.length c, .int .i64 j] W fun e w' => e = .returned (.bool false) ∧ w' = W) := fun W => by
        have := isEnding_any a zs.length c j W hl
        rwa [show decide (0 ≤ j ∧ j ≤ (zs.length : Int)) = false from decide_eq_false g2] at this
      rw [comL_out (fun h => g2 h.2)]
      go_enter Try.func30, Try.ntmps30
      go_wp2_with fail
      refine (C1.out _).mono ?_
      rintro e w' ⟨rfl, rfl⟩
      go_wp2_with fail
      refine (C2.out _).mono ?_
      rintro e w' ⟨rfl, rfl⟩
      go_wp2
      go_ret
      exact ⟨rfl, 0, rfl⟩
  · have C1 : Hid (∀ W, Calls Try.prog 33 #[.slice a zs.length c, .int .i64 i] W fun e w' => e = .returned (.bool false) ∧ w' = W) := fun W => by
      have := isEnding_any a zs.length c i W hl
      rwa [show decide (0 ≤ i ∧ i ≤ (zs.length : Int)) = false from decide_eq_false g1] at this
    rw [comL_out (fun h => g1 h.1)]
    go_enter Try.func30, Try.ntmps30
    go_wp2_with fail
    refine (C1.out _).mono ?_
    rintro e w' ⟨rfl, rfl⟩
    go_wp2
    go_ret
    exact ⟨rfl, 0, rfl⟩
end Go.Proofs.Ytmojnliljaefbaa
