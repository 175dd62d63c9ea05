/- Contracts of least.turned, alike, At and Is. -/
import Derived.Test.YtjccpkekhjhafaaLeaMath
import Derived.Test.YtjccpkekhjhafaaByt
import Derived.Lib.MinMax
namespace Go.Proofs.Ytjccpkekhjhafaa
set_option linter.unusedVariables false
set_option linter.unusedSimpArgs false
open Go.RowKit

theorem turned_any (v : Value) (zs : List Int) (i k : Nat) (w : World) (hs : Sl .u8 w v zs) (hi : i < zs.length) (hk : k < zs.length) (hlen : zs.length ≤ 1000000) :
    Calls Try.prog 53 #[v, .int .i64 i, .int .i64 k] w fun e w' => e = .returned (.int .u8 ((turnI zs i).getD k 0)) ∧ w' = w := by
  have HS := hide' hs
  obtain ⟨a, c, rfl, h2, h3, _⟩ := hs
  unfold maxLen at h3
  have hne : zs ≠ [] := fun h => by rw [h] at hi; simp at hi
  have HT := hide' (turnI_at hi hk)
  obtain ⟨_, b, off, hab, hc⟩ := HS.out.at hne
  subst hab
  obtain ⟨n, HN⟩ : ∃ n, Hid (zs.length = n) := ⟨_, rfl⟩
  rw [HN.out] at hi hk hlen h2 hc HT ⊢
  clear HS hne
  obtain ⟨z, HZ⟩ : ∃ z, Hid ((turnI zs i).getD k 0 = z) := ⟨_, rfl⟩
  rw [HZ.out] at HT ⊢
  by_cases hge : n - i ≤ k
  · have hc1 := hc (k - (n - i)) (by omega)
    rw [show zs.getD (k - (n - i)) 0 = z by
      rw [HT.out]; congr 1; rw [Nat.mod_eq_sub_mod (by omega), Nat.mod_eq_of_lt (by omega)]; omega] at hc1
    clear hc HT HN HZ
    obtain ⟨J, hJ⟩ : ∃ J, J = k - (n - i) := ⟨_, rfl⟩
    rw [← hJ] at hc1
    have e1 : (n : Int) - (i : Int) ≤ (k : Int) := by omega
    have e2 : (k : Int) - ((n : Int) - (i : Int)) = (J : Int) := by omega
    have e3 : (J : Int) < n := by omega
    have e4 : J < n := by omega
    clear hJ
    go_enter Try.func53, Try.ntmps53
    go_wp2
    go_ret
    exact ⟨rfl, rfl⟩
  · have hc1 := hc (i + k) (by omega)
    rw [show zs.getD (i + k) 0 = z by
      rw [HT.out]; congr 1; rw [Nat.mod_eq_of_lt (by omega)]] at hc1
    clear hc HT HN HZ
    obtain ⟨J, hJ⟩ : ∃ J, J = i + k := ⟨_, rfl⟩
    rw [← hJ] at hc1
    have e1 : decide ((n : Int) - (i : Int) ≤ (k : Int)) = false := by simp; omega
    have e2 : (i : Int) + (k : Int) = (J : Int) := by omega
    have e3 : (J : Int) < n := by omega
    have e4 : J < n := by omega
    clear hJ
    go_enter Try.func53, Try.ntmps53
    go_wp2
    go_ret
    exact ⟨rfl, rfl⟩

theorem alike_any (v : Value) (zs : List Int) (i j : Nat) (w : World) (hs : Sl .u8 w v zs) (hi : i < zs.length) (hj : j < zs.length) (hlen : zs.length ≤ 1000000) :
    Calls Try.prog 52 #[v, .int .i64 i, .int .i64 j] w fun e w' => e = .returned (.int .i64 (comI (turnI zs i) (turnI zs j) : Int)) ∧ w' = w := by
  have HS := hide' hs
  obtain ⟨a, c, rfl, h2, h3, _⟩ := hs
  unfold maxLen at h3
  have HXL := hide' (turnI_len (s := zs) (Nat.le_of_lt hi))
  have HYL := hide' (turnI_len (s := zs) (Nat.le_of_lt hj))
  have C1 : Hid (∀ k, k < zs.length → Calls Try.prog 53 #[.slice a zs.length c, .int .i64 i, .int .i64 (k : Int)] w fun e w' => e = .returned (.int .u8 ((turnI zs i).getD k 0)) ∧ w' = w) := fun k hk => turned_any _ zs i k w HS.out hi hk hlen
  have C2 : Hid (∀ k, k < zs.length → Calls Try.prog 53 #[.slice a zs.length c, .int .i64 j, .int .i64 (k : Int)] w fun e w' => e = .returned (.int .u8 ((turnI zs j).getD k 0)) ∧ w' = w) := fun k hk => turned_any _ zs j k w HS.out hj hk hlen
  generalize turnI zs i = x at *
  generalize turnI zs j = y at *
  clear HS
  obtain ⟨n, hn⟩ : ∃ n, n = zs.length := ⟨_, rfl⟩
  rw [← hn] at HXL HYL C1 C2 hi hj hlen ⊢
  clear hn h2
  go_enter Try.func52, Try.ntmps52
  go_wp2
  go_loop [7] (fun vk => ∃ (k : Nat), k ≤ n ∧ vk = .int .i64 k ∧ Hid (comI x y = k + comI (x.drop k) (y.drop k))) (fun vk => n - (intOf vk).toNat)
  case atStart => exact ⟨0, Nat.zero_le _, rfl, (show _ = _ by simp)⟩
  case round =>
    obtain ⟨k, hk, rfl, HK⟩ := hrel
    by_cases hlt : k < n
    · have hlt' : (k : Int) < n := by omega
      have D1 := hide' (C1.out k hlt)
      have D2 := hide' (C2.out k hlt)
      obtain ⟨p, HP⟩ : ∃ p, Hid (x.getD k 0 = p) := ⟨_, rfl⟩
      obtain ⟨q, HQ⟩ : ∃ q, Hid (y.getD k 0 = q) := ⟨_, rfl⟩
      rw [HP.out] at D1
      rw [HQ.out] at D2
      go_wp2_with fail
      refine D1.out.mono ?_
      rintro e w1 ⟨rfl, rfl⟩
      go_wp2_with fail
      refine D2.out.mono ?_
      rintro e w2 ⟨rfl, rfl⟩
      clear D1 D2
      by_cases hpq : p = q
      · have HK' : Hid (comI x y = (k + 1 : Nat) + comI (x.drop (k + 1)) (y.drop (k + 1))) := by
          have h := comI_same (x := x) (y := y) (k := k) (by rw [HXL.out]; omega) (by rw [HYL.out]; omega) (by rw [HP.out, HQ.out, hpq])
          show _ = _
          rw [HK.out, h]; omega
        subst hpq
        go_wp2
        go_round
        case rel => exact ⟨k + 1, by omega, by go_num, HK'⟩
        case measure => simp [intOf]; omega
      · have hpq' : (p == q) = false := by simpa using hpq
        have HK' : Hid (comI x y = k) := by
          have h := comI_other (x := x) (y := y) (k := k) (by rw [HXL.out]; omega) (by rw [HYL.out]; omega) (by rw [HP.out, HQ.out]; exact hpq)
          show _ = _
          rw [HK.out, h]; omega
        clear hpq
        go_wp2
        go_ret
        rw [HK'.out]
        exact ⟨rfl, rfl⟩
    · have hlt' : decide ((k : Int) < n) = false := by simp; omega
      have HK' : Hid (comI x y = k) := by
        have h : comI (x.drop k) (y.drop k) = 0 := comI_left (by rw [HXL.out]; omega)
        show _ = _
        rw [HK.out, h]; omega
      go_wp2
      go_ret
      rw [HK'.out]
      exact ⟨rfl, rfl⟩
end Go.Proofs.Ytjccpkekhjhafaa
