/- Contract of lex.Turns. -/
import Derived.Test.YtikohabbffjpkaaLexEnd
import Derived.Test.YtikohabbffjpkaaCmp
namespace Go.Proofs.Ytikohabbffjpkaa
set_option linter.unusedVariables false
set_option linter.unusedSimpArgs false
open Go.RowKit

set_option maxHeartbeats 400000 in
theorem turns_any (v : Value) (zs : List Int) (i j : Int) (w : World) (hs : Sl .u8 w v zs) (hlen : zs.length ≤ 1000000) :
    Calls Try.prog 15 #[v, .int .i64 i, .int .i64 j] w fun e w' => e = .returned (.int .i64 (turnsL zs i j)) ∧ ∃ m, w' = w.drewN m := by
  have HS := hide' hs
  obtain ⟨a, c, rfl, h2, h3, _⟩ := hs
  unfold maxLen at h3
  have hl : zs.length ≤ 9223372036854775807 := by omega
  by_cases g1 : 0 ≤ i ∧ i < (zs.length : Int)
  · have C1 : Hid (∀ W, Calls Try.prog 35 #[.slice a zs.length c, .int .i64 i] W fun e w' => e = .returned (.bool true) ∧ w' = W) := fun W => by
      have := isTurn_any a zs.length c i W hl
      rwa [show decide (0 ≤ i ∧ i < (zs.length : Int)) = true from decide_eq_true g1] at this
    by_cases g2 : 0 ≤ j ∧ j < (zs.length : Int)
    · have C2 : Hid (∀ W, Calls Try.prog 35 #[.slice a zs.length c, .int .i64 j] W fun e w' => e = .returned (.bool true) ∧ w' = W) := fun W => by
        have := isTurn_any a zs.length c j W hl
        rwa [show decide (0 ≤ j ∧ j < (zs.length : Int)) = true from decide_eq_true g2] at this
      obtain ⟨g1, g1'⟩ := g1
      obtain ⟨g2, g2'⟩ := g2
      obtain ⟨i, rfl⟩ := Int.eq_ofNat_of_zero_le g1
      obtain ⟨j, rfl⟩ := Int.eq_ofNat_of_zero_le g2
      have gi : i < zs.length := by omega
      have gj : j < zs.length := by omega
      rw [turnsL_in gi gj]
      have hne : zs ≠ [] := fun h => by rw [h] at gi; simp at gi
      obtain ⟨_, b, off, hab, hc⟩ := HS.out.at hne
      subst hab
      have HC := hide' hc
      have HXL := hide' (turnI_len (s := zs) (Nat.le_of_lt gi))
      have HYL := hide' (turnI_len (s := zs) (Nat.le_of_lt gj))
      have HXA := hide' (fun (k : Nat) (hk : k < zs.length) => turnI_at gi hk)
      have HYA := hide' (fun (k : Nat) (hk : k < zs.length) => turnI_at gj hk)
      generalize turnI zs i = x at *
      generalize turnI zs j = y at *
      clear hc hne HS
      obtain ⟨n, hn⟩ : ∃ n, n = zs.length := ⟨_, rfl⟩
      rw [← hn] at HXL HYL HXA HYA HC C1 C2 g1' g2' gi gj hlen hl ⊢
      clear hn h2
      go_enter Try.func15, Try.ntmps15
      go_wp2_with fail
      refine (C1.out _).mono ?_
      rintro e w' ⟨rfl, rfl⟩
      go_wp2_with fail
      refine (C2.out _).mono ?_
      rintro e w' ⟨rfl, rfl⟩
      clear C1 C2
      go_wp2
      go_loopw [1, 2, 19] (fun vi vj vk wr => ∃ (p q k : Nat), p < n ∧ q < n ∧ k ≤ n ∧ vi = .int .i64 p ∧ vj = .int .i64 q ∧ vk = .int .i64 k ∧ Hid (p = (i + k) % n) ∧ Hid (q = (j + k) % n) ∧ Hid (cmpI x y = cmpI (x.drop k) (y.drop k)) ∧ ∃ m, wr = w'.drewN m) (fun _ _ vk _ => n - (intOf vk).toNat)
      case atStart => exact ⟨i, j, 0, gi, gj, Nat.zero_le _, rfl, rfl, rfl, (Nat.mod_eq_of_lt gi).symm, (Nat.mod_eq_of_lt gj).symm, (show _ = _ by simp), 0, rfl⟩
      case round =>
        obtain ⟨p, q, k, hp, hq, hk, rfl, rfl, rfl, HP, HQ, HK, m, rfl⟩ := hrel
        by_cases hlt : k < n
        · have cp := HC.out p hp
          have cq := HC.out q hq
          have hx := HXA.out k hlt
          have hy := HYA.out k hlt
          rw [← HP.out] at hx
          rw [← HQ.out] at hy
          rw [← hx] at cp
          rw [← hy] at cq
          obtain ⟨r, HR⟩ : ∃ r, Hid (x.getD k 0 = r) := ⟨_, rfl⟩
          obtain ⟨t, HT⟩ : ∃ t, Hid (y.getD k 0 = t) := ⟨_, rfl⟩
          rw [HR.out] at cp
          rw [HT.out] at cq
          clear hx hy
          have hp' : (p : Int) < n := by omega
          have hq' : (q : Int) < n := by omega
          have hlt' : (k : Int) < n := by omega
          by_cases hrt : r = t
          · have HK' : Hid (cmpI x y = cmpI (x.drop (k + 1)) (y.drop (k + 1))) := by
              have h := cmpI_same (x := x) (y := y) (k := k) (by rw [HXL.out]; exact hlt) (by rw [HYL.out]; exact hlt) (by rw [HR.out, HT.out, hrt])
              show _ = _
              rw [HK.out, h]
            have HP' : Hid ((p + 1) % n = (i + (k + 1)) % n) := by show _ = _; rw [HP.out, Nat.mod_add_mod, Nat.add_assoc]
            have HQ' : Hid ((q + 1) % n = (j + (k + 1)) % n) := by show _ = _; rw [HQ.out, Nat.mod_add_mod, Nat.add_assoc]
            subst hrt
            go_wp2_with fail
            go_quiet (fail)
            clear cp cq
            go_wp2_with fail
            refine (next_any _ n c p _ hlen hp).mono ?_
            rintro e w2 ⟨rfl, rfl⟩
            go_wp2_with fail
            refine (next_any _ n c q _ hlen hq).mono ?_
            rintro e w2 ⟨rfl, rfl⟩
            go_wp2
            go_roundw
            case rel => exact ⟨(p + 1) % n, (q + 1) % n, k + 1, Nat.mod_lt _ (by omega), Nat.mod_lt _ (by omega), by omega, rfl, rfl, by go_num, HP', HQ', HK', _, rfl⟩
            case measure => simp [intOf]; omega
          · have hrt' : (r == t) = false := by simpa using hrt
            have HK' : Hid (cmpI x y = if r < t then -1 else 1) := by
              show _ = _
              rw [HK.out]
              by_cases hlt2 : r < t
              · rw [if_pos hlt2, cmpI_lt (by rw [HXL.out]; exact hlt) (by rw [HYL.out]; exact hlt) (by rw [HR.out, HT.out]; exact hlt2)]
              · rw [if_neg hlt2, cmpI_gt (by rw [HXL.out]; exact hlt) (by rw [HYL.out]; exact hlt) (by rw [HR.out, HT.out]; omega)]
            have HN : Hid (∀ W, Calls Try.prog 36 #[.int .u8 r, .int .u8 t] W fun e w' => e = .returned (.int .i64 (cmpI x y)) ∧ w' = W) := fun W => by
              have := cmpByte_any r t W hrt
              rwa [← HK'.out] at this
            clear hrt
            go_wp2_with fail
            go_quiet (fail)
            go_wp2_with fail
            have cpW : ((w'.drewN m).drewN nq).cell? ⟨b, off + p, none⟩ = some (.int .u8 r) := cp
            have cqW : ((w'.drewN m).drewN nq).cell? ⟨b, off + q, none⟩ = some (.int .u8 t) := cq
            generalize hW : (w'.drewN m).drewN nq = W at *
            have HW := hide' hW
            clear cp cq hW
            go_quiet ((go_at_call 36; exact Calls.quiet_of_same (HN.out _)))
            go_wp2
            go_ret
            rw [← HW.out]
            exact ⟨rfl, _, by rw [World.drewN_drewN, World.drewN_drewN]⟩
        · have hlt' : (n : Int) ≤ k := by omega
          have HK' : Hid (cmpI x y = 0) := by
            show _ = _
            rw [HK.out, cmpI_end (by rw [HXL.out]; omega) (by rw [HYL.out]; omega)]
          go_wp2
          go_ret
          rw [HK'.out]
          exact ⟨rfl, _, rfl⟩
    · have C2 : Hid (∀ W, Calls Try.prog 35 #[.slice a zs.length c, .int .i64 j] W fun e w' => e = .returned (.bool false) ∧ w' = W) := fun W => by
        have := isTurn_any a zs.length c j W hl
        rwa [show decide (0 ≤ j ∧ j < (zs.length : Int)) = false from decide_eq_false g2] at this
      rw [turnsL_out (fun h => g2 h.2)]
      go_enter Try.func15, Try.ntmps15
      go_wp2_with fail
      refine (C1.out _).mono ?_
      rintro e w' ⟨rfl, rfl⟩
      go_wp2_with fail
      refine (C2.out _).mono ?_
      rintro e w' ⟨rfl, rfl⟩
      go_wp2
      go_ret
      exact ⟨rfl, 0, rfl⟩
  · have C1 : Hid (∀ W, Calls Try.prog 35 #[.slice a zs.length c, .int .i64 i] W fun e w' => e = .returned (.bool false) ∧ w' = W) := fun W => by
      have := isTurn_any a zs.length c i W hl
      rwa [show decide (0 ≤ i ∧ i < (zs.length : Int)) = false from decide_eq_false g1] at this
    rw [turnsL_out (fun h => g1 h.1)]
    go_enter Try.func15, Try.ntmps15
    go_wp2_with fail
    refine (C1.out _).mono ?_
    rintro e w' ⟨rfl, rfl⟩
    go_wp2
    go_ret
    exact ⟨rfl, 0, rfl⟩
end Go.Proofs.Ytikohabbffjpkaa
