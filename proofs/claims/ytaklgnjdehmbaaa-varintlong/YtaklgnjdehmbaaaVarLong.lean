/- VarintLong: the walk. -/
import Derived.Test.YtaklgnjdehmbaaaVarKnown
namespace Go.Proofs.Ytaklgnjdehmbaaa
set_option linter.unusedVariables false
set_option linter.unusedSimpArgs false
open Go.RowKit

theorem putF_pow (k : Nat) (f : Nat) (h : k ≤ 7 * f + 6) : (putF f ((2 : Int) ^ k)).length = k / 7 + 1 := by
  induction f generalizing k with
  | zero => simp [putF]; omega
  | succ f ih =>
    by_cases hk : k < 7
    · have h1 : (2 : Int) ^ k < 128 := by
        have : (2 : Nat) ^ k < 2 ^ 7 := Nat.pow_lt_pow_right (by omega) hk
        have e : ((2 ^ k : Nat) : Int) = (2 : Int) ^ k := by rw [Int.natCast_pow]; rfl
        omega
      rw [putF_small _ _ h1]
      simp; omega
    · obtain ⟨j, rfl⟩ : ∃ j, k = j + 7 := ⟨k - 7, by omega⟩
      have h2 : (2 : Int) ^ (j + 7) = 2 ^ j * 128 := by rw [Int.pow_add]; rfl
      have h3 : 0 < (2 : Int) ^ j := Int.pow_pos (by omega)
      have h4 : (2 : Int) ^ j * 128 / 128 = 2 ^ j := by omega
      simp only [putF]
      rw [h2, if_neg (by omega), h4]
      have := ih j (by omega)
      simp; omega

set_option maxHeartbeats 1000000 in
theorem lawLong (k : Int) (w : World) : Calls Try.prog 7 #[.int .i64 k] w fun e w' => e = .returned (.bool true) ∧ Ext w w' := by
  by_cases h0 : k < 0
  · go_enter Try.func7, Try.ntmps7
    go_wp2
    go_ret
    exact ⟨rfl, Ext.refl _⟩
  by_cases h1 : 63 < k
  · go_enter Try.func7, Try.ntmps7
    go_wp2
    go_ret
    exact ⟨rfl, Ext.refl _⟩
  obtain ⟨n, rfl⟩ := Int.eq_ofNat_of_zero_le (by omega : 0 ≤ k)
  have h2 : n ≤ 63 := by omega
  have hb : (2 : Int) ^ n < 18446744073709551616 ∧ 0 ≤ (2 : Int) ^ n := by
    have h3 : (2 : Nat) ^ n ≤ 2 ^ 63 := Nat.pow_le_pow_right (by omega) h2
    have e : ((2 ^ n : Nat) : Int) = (2 : Int) ^ n := by rw [Int.natCast_pow]; rfl
    have h4 : (2 : Nat) ^ n < 18446744073709551616 := Nat.lt_of_le_of_lt h3 (by decide)
    rw [← e]
    exact ⟨Int.ofNat_lt.2 h4, Int.natCast_nonneg _⟩
  have hp : Hid (IntKind.u64.wrap (2 ^ n) = (2 : Int) ^ n) := by
    show _ = _
    rw [IntKind.wrap_u64, Int.emod_eq_of_lt hb.2 hb.1]
  have HL : Hid ((putL (2 ^ n)).length = n / 7 + 1) := putF_pow n 9 (by omega)
  have HB := hide' hb
  clear hb
  go_enter Try.func7, Try.ntmps7
  go_wp2_with fail
  rw [hp.out]
  refine (put_any _ _ HB.out.2 (lt_top HB.out.1)).mono ?_
  rintro e w1 ⟨s, rfl, ho, hb⟩
  obtain ⟨a, c, hs, _⟩ := ho.sl
  rw [hs, HL.out]
  have hq : ((n : Int) / 7 + 1 == (n : Int) / 7 + 1) = true := by simp
  clear ho hs
  go_wp2_with fail
  refine (known_any _).mono ?_
  rintro e w2 ⟨rfl, hb2⟩
  go_wp2
  go_ret
  exact ⟨rfl, Ext.trans hb hb2⟩
end Go.Proofs.Ytaklgnjdehmbaaa
