/- Contract of whorlref11.Words: two rows of numbers, compared. -/
import Derived.Test.YtmojnliljaefbaaLexMath
import Derived.Test.YtmojnliljaefbaaInts
namespace Go.Proofs.Ytmojnliljaefbaa
set_option linter.unusedVariables false
set_option linter.unusedSimpArgs false
open Go.RowKit

set_option maxHeartbeats 400000 in
theorem kinWords_any (u v : Value) (x y : List Int) (w : World) (hu : Sl .i64 w u x) (hv : Sl .i64 w v y) (hx : x.length ≤ 1000000) (hy : y.length ≤ 1000000) :
    Calls Try.prog 31 #[u, v] w fun e w' => e = .returned (.int .i64 (cmpI x y)) ∧ ∃ m, w' = w.drewN m := by
  have HU := hide' hu
  have HV := hide' hv
  obtain ⟨a, c, rfl, _⟩ := hu
  obtain ⟨a', c', rfl, _⟩ := hv
  obtain ⟨n, HXL⟩ : ∃ n, Hid (x.length = n) := ⟨_, rfl⟩
  obtain ⟨n', HYL⟩ : ∃ n, Hid (y.length = n) := ⟨_, rfl⟩
  rw [HXL.out] at HU hx ⊢
  rw [HYL.out] at HV hy ⊢
  obtain ⟨C, HC⟩ : ∃ C, Hid (cmpI x y = C) := ⟨_, rfl⟩
  rw [HC.out]
  go_enter Try.func31, Try.ntmps31
  go_wp2
  go_loopw [5] (fun vk wr => ∃ (k : Nat), k ≤ n ∧ k ≤ n' ∧ vk = .int .i64 k ∧ Hid (cmpI (x.drop k) (y.drop k) = C) ∧ ∃ m, wr = w.drewN m) (fun vk _ => n - (intOf vk).toNat)
  case atStart => exact ⟨0, Nat.zero_le _, Nat.zero_le _, rfl, HC.out, 0, rfl⟩
  case round =>
    obtain ⟨k, hk, hk', rfl, HK, m, rfl⟩ := hrel
    by_cases l1 : k < n
    · have l1' : (k : Int) < n := by omega
      by_cases l2 : k < n'
      · have l2' : (k : Int) < n' := by omega
        have hne1 : x ≠ [] := fun h => by have := HXL.out; rw [h] at this; simp at this; omega
        have hne2 : y ≠ [] := fun h => by have := HYL.out; rw [h] at this; simp at this; omega
        obtain ⟨_, b1, o1, e1, c1⟩ := HU.out.at hne1
        obtain ⟨_, b2, o2, e2, c2⟩ := HV.out.at hne2
        have c1' := c1 k l1
        have c2' := c2 k l2
        obtain ⟨p, HP⟩ : ∃ p, Hid (x.getD k 0 = p) := ⟨_, rfl⟩
        obtain ⟨q, HQ⟩ : ∃ q, Hid (y.getD k 0 = q) := ⟨_, rfl⟩
        rw [HP.out] at c1'
        rw [HQ.out] at c2'
        subst e1 e2
        clear c1 c2 hne1 hne2
        rcases Int.lt_trichotomy p q with h | h | h
        · have HD : Hid (C = -1) := by
            show _ = _
            rw [← HK.out]
            exact cmpI_lt (by rw [HXL.out]; exact l1) (by rw [HYL.out]; exact l2) (by rw [HP.out, HQ.out]; exact h)
          go_wp2_with fail
          go_quiet (fail)
          go_wp2
          go_ret
          rw [HD.out]
          exact ⟨rfl, _, by first | rfl | exact World.drewN_drewN _ _ _ | (rw [World.drewN_drewN, World.drewN_drewN])⟩
        · have HD : Hid (cmpI (x.drop (k + 1)) (y.drop (k + 1)) = C) := by
            show _ = _
            rw [← HK.out]
            exact (cmpI_same (by rw [HXL.out]; exact l1) (by rw [HYL.out]; exact l2) (by rw [HP.out, HQ.out]; exact h)).symm
          subst h
          have d1 : decide (p < p) = false := by simp
          go_wp2_with fail
          go_quiet (fail)
          go_wp2_with fail
          go_quiet (fail)
          go_wp2
          go_roundw
          case rel => exact ⟨k + 1, by omega, by omega, by go_num, HD, _, by first | rfl | exact World.drewN_drewN _ _ _ | (rw [World.drewN_drewN, World.drewN_drewN])⟩
          case measure => simp [intOf]; omega
        · have HD : Hid (C = 1) := by
            show _ = _
            rw [← HK.out]
            exact cmpI_gt (by rw [HXL.out]; exact l1) (by rw [HYL.out]; exact l2) (by rw [HP.out, HQ.out]; exact h)
          have d1 : decide (p < q) = false := by simp; omega
          go_wp2_with fail
          go_quiet (fail)
          go_wp2_with fail
          go_quiet (fail)
          go_wp2
          go_ret
          rw [HD.out]
          exact ⟨rfl, _, by first | rfl | exact World.drewN_drewN _ _ _ | (rw [World.drewN_drewN, World.drewN_drewN])⟩
      · have l2' : decide ((k : Int) < n') = false := by simp; omega
        have l2n : decide (k < n') = false := by simp; omega
        have e2 : k = n' := by omega
        have HD : Hid (C = 1) := by
          show _ = _
          rw [← HK.out]
          exact cmpI_long (by rw [HXL.out]; exact l1) (by rw [HYL.out]; exact e2)
        have d3 : decide ((n : Int) < n') = false := by simp; omega
        have d3n : decide (n < n') = false := by simp; omega
        have d4 : (n' : Int) < n := by omega
        clear e2 l2
        go_wp2
        go_ret
        rw [HD.out]
        exact ⟨rfl, _, rfl⟩
    · have l1' : decide ((k : Int) < n) = false := by simp; omega
      have l1n : decide (k < n) = false := by simp; omega
      have e1 : k = n := by omega
      by_cases l2 : k < n'
      · have HD : Hid (C = -1) := by
          show _ = _
          rw [← HK.out]
          exact cmpI_short (by rw [HXL.out]; exact e1) (by rw [HYL.out]; exact l2)
        have d3 : (n : Int) < n' := by omega
        clear e1 l1
        go_wp2
        go_ret
        rw [HD.out]
        exact ⟨rfl, _, rfl⟩
      · have e2 : k = n' := by omega
        have HD : Hid (C = 0) := by
          show _ = _
          rw [← HK.out]
          exact cmpI_end (by rw [HXL.out]; exact e1) (by rw [HYL.out]; exact e2)
        have d3 : decide ((n : Int) < n') = false := by simp; omega
        have d3n : decide (n < n') = false := by simp; omega
        have d4 : decide ((n' : Int) < n) = false := by simp; omega
        have d4n : decide (n' < n) = false := by simp; omega
        clear e1 e2 l1 l2
        go_wp2
        go_ret
        rw [HD.out]
        exact ⟨rfl, _, rfl⟩
end Go.Proofs.Ytmojnliljaefbaa
