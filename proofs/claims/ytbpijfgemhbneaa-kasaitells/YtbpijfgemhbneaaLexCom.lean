/- Contract of lex.Common. -/
import Derived.Test.YtbpijfgemhbneaaLexIsE
import Derived.Test.YtbpijfgemhbneaaBut
namespace Go.Proofs.Ytbpijfgemhbneaa
set_option linter.unusedVariables false
set_option linter.unusedSimpArgs false
open Go.RowKit

set_option maxHeartbeats 400000 in
theorem common_any (v : Value) (zs : List Int) (i j : Int) (w : World) (hs : Sl .u8 w v zs) (hlen : zs.length ≤ 1000000) :
    Calls Try.prog 18 #[v, .int .i64 i, .int .i64 j] w fun e w' => e = .returned (.int .i64 (comL zs i j)) ∧ ∃ m, w' = w.drewN m := by
  have HS := hide' hs
  obtain ⟨a, c, rfl, h2, h3, _⟩ := hs
  unfold maxLen at h3
  have hl : zs.length ≤ 9223372036854775807 := by omega
  by_cases g1 : 0 ≤ i ∧ i ≤ (zs.length : Int)
  · have C1 : Hid (∀ W, Calls Try.prog 21 #[.slice a zs.length c, .int .i64 i] W fun e w' => e = .returned (.bool true) ∧ w' = W) := fun W => by
      have := isEnding_any a zs.length c i W hl
      rwa [show decide (0 ≤ i ∧ i ≤ (zs.length : Int)) = true from decide_eq_true g1] at this
    by_cases g2 : 0 ≤ j ∧ j ≤ (zs.length : Int)
    · have C2 : Hid (∀ W, Calls Try.prog 21 #[.slice a zs.length c, .int .i64 j] W fun e w' => e = .returned (.bool true) ∧ w' = W) := fun W => by
        have := isEnding_any a zs.length c j W hl
        rwa [show decide (0 ≤ j ∧ j ≤ (zs.length : Int)) = true from decide_eq_true g2] at this
      obtain ⟨g1, g1'⟩ := g1
      obtain ⟨g2, g2'⟩ := g2
      obtain ⟨i, rfl⟩ := Int.eq_ofNat_of_zero_le g1
      obtain ⟨j, rfl⟩ := Int.eq_ofNat_of_zero_le g2
      rw [comL_in (by omega) (by omega)]
      obtain ⟨a1, r1, s1, _⟩ := HS.out.runDrop (P := Try.prog) 22 5 Try.underlying22 size8 i (by omega)
      obtain ⟨a2, r2, s2, _⟩ := HS.out.runDrop (P := Try.prog) 22 5 Try.underlying22 size8 j (by omega)
      have S1 := hide' s1
      have S2 := hide' s2
      clear s1 s2
      obtain ⟨n1, hn1⟩ : ∃ n, n = zs.length - i := ⟨_, rfl⟩
      obtain ⟨n2, hn2⟩ : ∃ n, n = zs.length - j := ⟨_, rfl⟩
      rw [← hn1] at S1 r1
      rw [← hn2] at S2 r2
      obtain ⟨x, HX⟩ : ∃ x, Hid (zs.drop i = x) := ⟨_, rfl⟩
      obtain ⟨y, HY⟩ : ∃ y, Hid (zs.drop j = y) := ⟨_, rfl⟩
      rw [HX.out] at S1 ⊢
      rw [HY.out] at S2 ⊢
      have hx : x.length = n1 := by rw [← HX.out, List.length_drop]; omega
      have hy : y.length = n2 := by rw [← HY.out, List.length_drop]; omega
      have HXL := hide' hx
      have HYL := hide' hy
      have hn1' : n1 ≤ 1000000 := by omega
      have hn2' : n2 ≤ 1000000 := by omega
      clear hx hy hn1 hn2
      go_enter Try.func18, Try.ntmps18
      go_wp2_with fail
      refine (C1.out _).mono ?_
      rintro e w' ⟨rfl, rfl⟩
      go_wp2_with fail
      refine (C2.out _).mono ?_
      rintro e w' ⟨rfl, rfl⟩
      go_wp2_with fail
      go_quiet (fail)
      clear r1 r2
      go_wp2
      go_loopw [9] (fun n wr => ∃ (k : Nat), k ≤ n1 ∧ k ≤ n2 ∧ n = .int .i64 k ∧ Hid (comI x y = k + comI (x.drop k) (y.drop k)) ∧ ∃ m, wr = w'.drewN m) (fun n _ => n1 - (intOf n).toNat)
      case atStart => exact ⟨0, Nat.zero_le _, Nat.zero_le _, rfl, (show _ = _ by simp), _, rfl⟩
      case round =>
        obtain ⟨k, hk1, hk2, rfl, HK, m, rfl⟩ := hrel
        by_cases l1 : k < n1
        · by_cases l2 : k < n2
          · have hne1 : x ≠ [] := fun h => by have := HXL.out; rw [h] at this; simp at this; omega
            have hne2 : y ≠ [] := fun h => by have := HYL.out; rw [h] at this; simp at this; omega
            obtain ⟨_, b1, o1, e1, c1⟩ := S1.out.at hne1
            obtain ⟨_, b2, o2, e2, c2⟩ := S2.out.at hne2
            have c1' := c1 k l1
            have c2' := c2 k l2
            obtain ⟨p, HP⟩ : ∃ p, Hid (x.getD k 0 = p) := ⟨_, rfl⟩
            obtain ⟨q, HQ⟩ : ∃ q, Hid (y.getD k 0 = q) := ⟨_, rfl⟩
            rw [HP.out] at c1'
            rw [HQ.out] at c2'
            subst e1 e2
            clear c1 c2 hne1 hne2
            have l1' : (k : Int) < n1 := by omega
            have l2' : (k : Int) < n2 := by omega
            by_cases hpq : p = q
            · have HK' : Hid (comI x y = (k + 1 : Nat) + comI (x.drop (k + 1)) (y.drop (k + 1))) := by
                have h := comI_same (x := x) (y := y) (k := k) (by rw [HXL.out]; exact l1) (by rw [HYL.out]; exact l2) (by rw [HP.out, HQ.out, hpq])
                show _ = _
                rw [HK.out, h]; omega
              subst hpq
              go_wp2_with fail
              go_quiet (fail)
              go_wp2
              go_roundw
              case rel => exact ⟨k + 1, by omega, by omega, by go_num, HK', _, rfl⟩
              case measure => simp [intOf]; omega
            · have hpq' : (p == q) = false := by simpa using hpq
              have HK' : Hid (comI x y = k) := by
                have h := comI_other (x := x) (y := y) (k := k) (by rw [HXL.out]; exact l1) (by rw [HYL.out]; exact l2) (by rw [HP.out, HQ.out]; exact hpq)
                show _ = _
                rw [HK.out, h]; omega
              clear hpq
              go_wp2_with fail
              go_quiet (fail)
              go_wp2
              go_ret
              rw [HK'.out]
              exact ⟨rfl, _, by rw [World.drewN_drewN]⟩
          · have l1' : (k : Int) < n1 := by omega
            have l2' : decide ((k : Int) < n2) = false := by simp; omega
            have HK' : Hid (comI x y = k) := by
              have h := comI_right (x := x) (y := y) (k := k) (by rw [HYL.out]; omega)
              show _ = _
              rw [HK.out, h]; omega
            go_wp2_with fail
            go_quiet (fail)
            go_wp2
            go_ret
            rw [HK'.out]
            exact ⟨rfl, _, by rw [World.drewN_drewN]⟩
        · have l1' : decide ((k : Int) < n1) = false := by simp; omega
          have HK' : Hid (comI x y = k) := by
            have h := comI_left (x := x) (y := y) (k := k) (by rw [HXL.out]; omega)
            show _ = _
            rw [HK.out, h]; omega
          go_wp2_with fail
          go_quiet (fail)
          go_wp2
          go_ret
          rw [HK'.out]
          exact ⟨rfl, _, by rw [World.drewN_drewN]⟩
    · have C2 : Hid (∀ W, Calls Try.prog 21 #[.slice a zs.length c, .int .i64 j] W fun e w' => e = .returned (.bool false) ∧ w' = W) := fun W => by
        have := isEnding_any a zs.length c j W hl
        rwa [show decide (0 ≤ j ∧ j ≤ (zs.length : Int)) = false from decide_eq_false g2] at this
      rw [comL_out (fun h => g2 h.2)]
      go_enter Try.func18, Try.ntmps18
      go_wp2_with fail
      refine (C1.out _).mono ?_
      rintro e w' ⟨rfl, rfl⟩
      go_wp2_with fail
      refine (C2.out _).mono ?_
      rintro e w' ⟨rfl, rfl⟩
      go_wp2
      go_ret
      exact ⟨rfl, 0, rfl⟩
  · have C1 : Hid (∀ W, Calls Try.prog 21 #[.slice a zs.length c, .int .i64 i] W fun e w' => e = .returned (.bool false) ∧ w' = W) := fun W => by
      have := isEnding_any a zs.length c i W hl
      rwa [show decide (0 ≤ i ∧ i ≤ (zs.length : Int)) = false from decide_eq_false g1] at this
    rw [comL_out (fun h => g1 h.1)]
    go_enter Try.func18, Try.ntmps18
    go_wp2_with fail
    refine (C1.out _).mono ?_
    rintro e w' ⟨rfl, rfl⟩
    go_wp2
    go_ret
    exact ⟨rfl, 0, rfl⟩
end Go.Proofs.Ytbpijfgemhbneaa
