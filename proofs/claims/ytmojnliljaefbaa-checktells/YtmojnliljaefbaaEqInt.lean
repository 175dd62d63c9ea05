/- Contract of slices.Equal at ints. -/
import Derived.Test.YtmojnliljaefbaaRefInts
namespace Go.Proofs.Ytmojnliljaefbaa
set_option linter.unusedVariables false
set_option linter.unusedSimpArgs false
open Go.RowKit

set_option maxHeartbeats 400000 in
theorem equalI_any (u v : Value) (x y : List Int) (w : World) (hu : Sl .i64 w u x) (hv : Sl .i64 w v y) (hx : x.length ≤ 1000000) (hy : y.length ≤ 1000000) :
    Calls Try.prog 18 #[u, v] w fun e w' => e = .returned (.bool (decide (x = y))) ∧ ∃ m, w' = w.drewN m := by
  have HU := hide' hu
  have HV := hide' hv
  obtain ⟨a, c, rfl, _⟩ := hu
  obtain ⟨a', c', rfl, _⟩ := hv
  by_cases hl : x.length = y.length
  · obtain ⟨n, hn1⟩ : ∃ n, x.length = n := ⟨_, rfl⟩
    have hn2 : y.length = n := by omega
    rw [hn1] at HU hx ⊢
    rw [hn2] at HV hy ⊢
    have HXL := hide' hn1
    have HYL := hide' hn2
    clear hn1 hn2 hl
    have hd : ((n : Int) != (n : Int)) = false := by simp
    go_enter Try.func18, Try.ntmps18
    go_wp2
    go_loopw [13] (fun vk wr => ∃ (k : Nat), k ≤ n ∧ vk = .int .i64 k ∧ Hid (x.take k = y.take k) ∧ ∃ m, wr = w.drewN m) (fun vk _ => n - (intOf vk).toNat)
    case atStart => exact ⟨0, Nat.zero_le _, rfl, (show _ = _ by simp), 0, rfl⟩
    case round =>
      obtain ⟨k, hk, rfl, HK, m, rfl⟩ := hrel
      by_cases l1 : k < n
      · have hne1 : x ≠ [] := fun h => by have := HXL.out; rw [h] at this; simp at this; omega
        have hne2 : y ≠ [] := fun h => by have := HYL.out; rw [h] at this; simp at this; omega
        obtain ⟨_, b1, o1, e1, c1⟩ := HU.out.at hne1
        obtain ⟨_, b2, o2, e2, c2⟩ := HV.out.at hne2
        have c1' := c1 k l1
        have c2' := c2 k l1
        obtain ⟨p, HP⟩ : ∃ p, Hid (x.getD k 0 = p) := ⟨_, rfl⟩
        obtain ⟨q, HQ⟩ : ∃ q, Hid (y.getD k 0 = q) := ⟨_, rfl⟩
        rw [HP.out] at c1'
        rw [HQ.out] at c2'
        subst e1 e2
        clear c1 c2 hne1 hne2
        have l1' : (k : Int) < n := by omega
        by_cases hpq : p = q
        · have HK' : Hid (x.take (k + 1) = y.take (k + 1)) := take_ext_succ (by rw [HXL.out]; exact l1) (by rw [HYL.out]; exact l1) HK.out (by rw [HP.out, HQ.out, hpq])
          subst hpq
          have hpq' : (p != p) = false := by simp
          go_wp2_with fail
          go_quiet (fail)
          go_wp2
          go_roundw
          case rel => exact ⟨k + 1, by omega, by go_num, HK', _, rfl⟩
          case measure => simp [intOf]; omega
        · have hpq' : (p != q) = true := by simpa using hpq
          have hpq2 : (p == q) = false := by simpa using hpq
          have HD : Hid (decide (x = y) = false) := by
            show _ = _
            refine decide_eq_false fun h => hpq ?_
            rw [← HP.out, ← HQ.out, h]
          clear hpq
          go_wp2_with fail
          go_quiet (fail)
          go_wp2
          go_ret
          rw [HD.out]
          exact ⟨rfl, _, by first | rfl | rw [World.drewN_drewN]⟩
      · have l1' : decide ((k : Int) < n) = false := by simp; omega
        have HD : Hid (decide (x = y) = true) := by
          show _ = _
          refine decide_eq_true ?_
          have := HK.out
          rwa [List.take_of_length_le (by rw [HXL.out]; omega), List.take_of_length_le (by rw [HYL.out]; omega)] at this
        go_wp2
        go_ret
        rw [HD.out]
        exact ⟨rfl, _, rfl⟩
  · have hd : ((x.length : Int) != (y.length : Int)) = true := by simp; omega
    have hd2 : ((x.length : Int) == (y.length : Int)) = false := by simp; omega
    have HD : Hid (decide (x = y) = false) := by
      show _ = _
      exact decide_eq_false fun h => hl (by rw [h])
    clear hl
    go_enter Try.func18, Try.ntmps18
    go_wp2
    go_ret
    rw [HD.out]
    exact ⟨rfl, 0, rfl⟩

end Go.Proofs.Ytmojnliljaefbaa
