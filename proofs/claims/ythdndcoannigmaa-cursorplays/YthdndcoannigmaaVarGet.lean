/- Contracts of varint.Get. -/
import Derived.Test.YthdndcoannigmaaRows
import Derived.Test.YthdndcoannigmaaVarMath
import Derived.Test.YthdndcoannigmaaLib
namespace Go.Proofs.Ythdndcoannigmaa
set_option linter.unusedVariables false
set_option linter.unusedSimpArgs false
open Go.RowKit

def getV (r : Int × Int × Bool) : Value := .tuple #[.int .u64 r.1, .int .i64 r.2.1, .bool r.2.2]

theorem ret3 {zs : List Int} {x n : Int} {b : Bool} (h : getL zs = (x, n, b)) : Ending.returned (.tuple #[.int .u64 x, .int .i64 n, .bool b]) = .returned (getV (getL zs)) := by
  rw [h]; rfl

/-- What one more byte makes of the number. -/
theorem get_or (k : Nat) (y x : Int) (hk : k ≤ 9) (hy0 : 0 ≤ y) (hy1 : y < 128 ^ k) (hx0 : 0 ≤ x) (h9 : k = 9 → x ≤ 1) :
    bits .or .u64 y (IntKind.u64.wrap (x % 128 * 2 ^ (7 * k))) = y + x % 128 * 128 ^ k := by
  have h1 := pow_le9 k hk
  have h2 := mul_lt_pow (x % 128) k
  refine or_shift y (x % 128) k hy0 hy1 (by omega) (by omega) ?_
  by_cases e : k = 9
  · have := h2 1 (by omega) (by have := h9 e; omega)
    omega
  · have h3 := pow_le9 (k + 1) (by omega)
    rw [pow_s128] at h3
    have := h2 127 (by omega) (by omega)
    have := pow_pos128 k
    omega

set_option maxHeartbeats 400000 in
theorem get_some (b off c : Nat) (zs : List Int) (w : World) (hm : zs.length ≤ maxLen) (hr : ∀ i, 0 ≤ zs.getD i 0 ∧ zs.getD i 0 ≤ 255)
    (hc : ∀ i, i < zs.length → w.cell? ⟨b, off + i, none⟩ = some (.int .u8 (zs.getD i 0))) :
    Calls Try.prog 22 #[.slice (some ⟨b, off, none⟩) zs.length c] w fun e w' => e = .returned (getV (getL zs)) ∧ w' = w := by
  unfold maxLen at hm
  have HR := hide' hr
  have HC := hide' hc
  clear hr hc
  go_enter Try.func22, Try.ntmps22
  go_wp2
  go_loop [2, 9] (fun v i => ∃ (k : Nat) (y : Int), k ≤ zs.length ∧ k ≤ 9 ∧ i = .int .i64 k ∧ v = .int .u64 y ∧ 0 ≤ y ∧ Hid (y < 128 ^ k) ∧ Hid (getF k y (zs.drop k) = getL zs)) (fun _ i => zs.length - (intOf i).toNat)
  case atStart => exact ⟨0, 0, Nat.zero_le _, Nat.zero_le _, rfl, rfl, by omega, (by show (0 : Int) < 1; omega), rfl⟩
  case round =>
    obtain ⟨k, y, hk, hk9, rfl, rfl, hy0, hy1, hg⟩ := hrel
    by_cases hlt : k < zs.length
    · have hce := HC.out k hlt
      obtain ⟨hx0, hx1⟩ := HR.out k
      obtain ⟨x, HX⟩ : ∃ x, Hid (zs.getD k 0 = x) := ⟨_, rfl⟩
      rw [HX.out] at hce hx0 hx1
      have HD := hide' (drop_cons zs k x hlt HX.out)
      by_cases h9 : k = 9
      · have h9' : ((k : Int) == 9) = true := by simp; omega
        have H9 := hide' h9
        clear h9
        by_cases hx : 1 < x
        · go_wp2
          go_ret3
          exact ⟨ret3 (by rw [← hg.out, HD.out, H9.out, getF_over _ _ _ hx]), rfl⟩
        · have HO := hide' (get_or k y x hk9 hy0 hy1.out hx0 (by omega))
          by_cases h0 : x = 0
          · have h0' : (x == 0) = true := by simp; omega
            have hk0 : 0 < k := by have := H9.out; omega
            go_wp2
            go_ret3
            exact ⟨ret3 (by rw [← hg.out, HD.out, h0, getF_nought _ _ _ hk0]), rfl⟩
          · have h0' : (x == 0) = false := by simp; omega
            go_wp2
            go_ret3
            exact ⟨ret3 (by rw [← hg.out, HD.out, getF_end k y x _ (by omega) (by omega) (by omega), HO.out]), rfl⟩
      · have h9' : ((k : Int) == 9) = false := by simp; omega
        have HO := hide' (get_or k y x hk9 hy0 hy1.out hx0 (by omega))
        by_cases h128 : 128 ≤ x
        · go_wp2
          go_round
          case rel =>
            refine ⟨k + 1, y + x % 128 * 128 ^ k, by omega, by omega, by go_num, by rw [HO.out], ?_, ?_, ?_⟩
            · have := mul_lt_pow 0 k (x % 128) (by omega) (by omega); omega
            · have := mul_lt_pow (x % 128) k 127 (by omega) (by omega)
              have h5 := hy1.out
              show _ < _
              rw [pow_s128]; omega
            · show _ = _
              rw [← hg.out, HD.out, getF_on k y x _ h9 h128]
          case measure => simp [intOf]; omega
        · by_cases h0 : x = 0
          · have h0' : (x == 0) = true := by simp; omega
            by_cases hk0 : 0 < k
            · go_wp2
              go_ret3
              exact ⟨ret3 (by rw [← hg.out, HD.out, h0, getF_nought _ _ _ hk0]), rfl⟩
            · have hy : Hid (y + x % 128 * 128 ^ k = bits .or .u64 y 0) := by
                obtain rfl : k = 0 := by omega
                obtain rfl : y = 0 := by have := hy1.out; simp at this; omega
                subst h0
                show (0 : Int) + 0 % 128 * 128 ^ 0 = bits .or .u64 0 0
                decide
              go_wp2
              go_ret3
              exact ⟨ret3 (by rw [← hg.out, HD.out, getF_end k y x _ (by omega) (by omega) (by omega), hy.out]), rfl⟩
          · have h0' : (x == 0) = false := by simp; omega
            go_wp2
            go_ret3
            exact ⟨ret3 (by rw [← hg.out, HD.out, getF_end k y x _ (by omega) (by omega) (by omega), HO.out]), rfl⟩
    · go_wp2
      go_ret3
      exact ⟨ret3 (by rw [← hg.out, List.drop_of_length_le (by omega)]; rfl), rfl⟩

theorem get_none (a : Option Addr) (c : Nat) (w : World) :
    Calls Try.prog 22 #[.slice a 0 c] w fun e w' => e = .returned (getV (getL [])) ∧ w' = w := by
  go_enter Try.func22, Try.ntmps22
  go_wp2
  refine wp_loop_rounds 1 ?_
  rw [rounds_succ]
  go_wp2
  go_ret3
  exact ⟨ret3 rfl, rfl⟩

/-- Get, of whatever bytes. -/
theorem get_any (v : Value) (zs : List Int) (w : World) (hs : Sl .u8 w v zs) (hr : ∀ x ∈ zs, 0 ≤ x ∧ x ≤ 255) :
    Calls Try.prog 22 #[v] w fun e w' => e = .returned (getV (getL zs)) ∧ w' = w := by
  obtain ⟨a, c, rfl, h1, h2, _, h3⟩ := hs
  rcases h3 with rfl | ⟨b, off, rfl, h5⟩
  · exact get_none a c w
  · refine get_some b off c zs w (by omega) (fun i => ?_) h5
    by_cases hi : i < zs.length
    · have := hr zs[i] (List.getElem_mem hi)
      simpa [List.getD, List.getElem?_eq_getElem hi] using this
    · simp [List.getD, List.getElem?_eq_none (Nat.le_of_not_lt hi)]
end Go.Proofs.Ythdndcoannigmaa
