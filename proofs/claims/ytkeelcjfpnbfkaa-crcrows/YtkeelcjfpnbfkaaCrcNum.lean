/- Contracts of crc.number and whorlref2.Number: eight steps; nothing turns. -/
import Derived.Test.YtkeelcjfpnbfkaaRows
import Derived.Test.YtkeelcjfpnbfkaaCrcMath
import Derived.Test.YtkeelcjfpnbfkaaLib
namespace Go.Proofs.Ytkeelcjfpnbfkaa
set_option linter.unusedVariables false
set_option linter.unusedSimpArgs false
open Go.RowKit

theorem stp_odd {x : Nat} (h : x % 2 = 1) : stp x = (x / 2) ^^^ 3988292384 := if_pos h
theorem stp_even {x : Nat} (h : ¬ x % 2 = 1) : stp x = x / 2 := if_neg h
theorem xor_poly (x : Nat) (h : x < 4294967296) : bits .xor .u32 ((x : Int) / 2) 3988292384 = ((x / 2 ^^^ 3988292384 : Nat) : Int) := u32_xor_nat (x / 2) 3988292384 (by omega) (by omega)

set_option maxHeartbeats 400000 in
theorem number_any (x : Nat) (w : World) (hx : x < 4294967296) :
    Calls Try.prog 20 #[.int .u32 (x : Int)] w fun e w' => e = .returned (.int .u32 (tab x : Int)) ∧ w' = w := by
  go_enter Try.func20, Try.ntmps20
  go_wp2
  go_loop [0, 4] (fun v i => ∃ (k y : Nat), k ≤ 8 ∧ i = .int .i64 k ∧ v = .int .u32 (y : Int) ∧ y < 4294967296 ∧ Hid (stpN (8 - k) y = tab x)) (fun _ i => 8 - (intOf i).toNat)
  case atStart => exact ⟨0, x, by omega, rfl, rfl, hx, rfl⟩
  case round =>
    obtain ⟨k, y, hk, rfl, rfl, hy, hg⟩ := hrel
    by_cases hlt : k < 8
    · have hlt' : (k : Int) < 8 := by omega
      have HK : Hid (8 - k = (8 - (k + 1)) + 1) := by show _ = _; omega
      by_cases ho : y % 2 = 1
      · have ho' : ((y : Int) % 2 == 1) = true := by simp; omega
        have HO := hide' ho
        clear ho
        go_wp2
        go_round
        case rel =>
          refine ⟨k + 1, (y / 2 ^^^ 3988292384), by omega, by go_num, ?_, xor_lt32 (by omega) (by omega), ?_⟩
          · rw [xor_poly y hy]
          · show _ = _
            rw [← hg.out, HK.out, stpN, stp_odd HO.out]
        case measure => simp [intOf]; omega
      · have ho' : ((y : Int) % 2 == 1) = false := by simp; omega
        have HO := hide' ho
        clear ho
        go_wp2
        go_round
        case rel =>
          refine ⟨k + 1, y / 2, by omega, by go_num, ?_, by omega, ?_⟩
          · simp
          · show _ = _
            rw [← hg.out, HK.out, stpN, stp_even HO.out]
        case measure => simp [intOf]; omega
    · have hlt' : (8 : Int) ≤ (k : Int) := by omega
      have HK : Hid (8 - k = 0) := by show _ = _; omega
      go_wp2
      go_ret
      refine ⟨?_, rfl⟩
      rw [← hg.out, HK.out]; rfl

theorem and_one (y : Nat) (h : y < 4294967296) : bits .and .u32 (y : Int) 1 = ((y % 2 : Nat) : Int) := by
  have := u32_and_nat y 1 h (by omega)
  rw [nat_mask1] at this
  exact this

set_option maxHeartbeats 400000 in
theorem rnumber_any (x : Nat) (w : World) (hx : x < 4294967296) :
    Calls Try.prog 13 #[.int .i64 (x : Int)] w fun e w' => e = .returned (.int .u32 (tab x : Int)) ∧ w' = w := by
  go_enter Try.func13, Try.ntmps13
  go_wp2
  go_loop [3, 4] (fun v i => ∃ (k y : Nat), k ≤ 8 ∧ i = .int .i64 k ∧ v = .int .u32 (y : Int) ∧ y < 4294967296 ∧ Hid (stpN (8 - k) y = tab x)) (fun _ i => 8 - (intOf i).toNat)
  case atStart => exact ⟨0, x, by omega, rfl, (by first | rfl | (congr 1; omega)), hx, rfl⟩
  case round =>
    obtain ⟨k, y, hk, rfl, rfl, hy, hg⟩ := hrel
    by_cases hlt : k < 8
    · have hlt' : (k : Int) < 8 := by omega
      have HK : Hid (8 - k = (8 - (k + 1)) + 1) := by show _ = _; omega
      have hand := and_one y hy
      by_cases ho : y % 2 = 1
      · have ho' : (((y % 2 : Nat) : Int) == 1) = true := by simp; omega
        have ho2 : ((y : Int) % 2 == 1) = true := by simp; omega
        have HO := hide' ho
        clear ho
        go_wp2
        go_round
        case rel =>
          refine ⟨k + 1, (y / 2 ^^^ 3988292384), by omega, by go_num, ?_, xor_lt32 (by omega) (by omega), ?_⟩
          · rw [xor_poly y hy]
          · show _ = _
            rw [← hg.out, HK.out, stpN, stp_odd HO.out]
        case measure => simp [intOf]; omega
      · have ho' : (((y % 2 : Nat) : Int) == 1) = false := by simp; omega
        have ho2 : ((y : Int) % 2 == 1) = false := by simp; omega
        have HO := hide' ho
        clear ho
        go_wp2
        go_round
        case rel =>
          refine ⟨k + 1, y / 2, by omega, by go_num, ?_, by omega, ?_⟩
          · simp
          · show _ = _
            rw [← hg.out, HK.out, stpN, stp_even HO.out]
        case measure => simp [intOf]; omega
    · have hlt' : (8 : Int) ≤ (k : Int) := by omega
      have HK : Hid (8 - k = 0) := by show _ = _; omega
      go_wp2
      go_ret
      refine ⟨?_, rfl⟩
      rw [← hg.out, HK.out]; rfl
end Go.Proofs.Ytkeelcjfpnbfkaa
