/- Plain mathematics of varint numbers: no program, no conditions. -/
import Derived.KernelRfl
namespace Go.Proofs.Ytaklgnjdehmbaaa
set_option linter.unusedVariables false
set_option linter.unusedSimpArgs false

def putF : Nat → Int → List Int
  | 0, v => [v]
  | f + 1, v => if v < 128 then [v] else (v % 128 + 128) :: putF f (v / 128)

def putL (v : Int) : List Int := putF 9 v

theorem putF_len (f : Nat) (v : Int) : 1 ≤ (putF f v).length ∧ (putF f v).length ≤ f + 1 := by
  induction f generalizing v with
  | zero => simp [putF]
  | succ f ih =>
    simp only [putF]
    split
    · simp
    · have := ih (v / 128); simp; omega

theorem putF_range (f : Nat) (v : Int) (h0 : 0 ≤ v) (h1 : v < 128 * 128 ^ f) : ∀ x ∈ putF f v, 0 ≤ x ∧ x ≤ 255 := by
  induction f generalizing v with
  | zero => simp [putF]; omega
  | succ f ih =>
    simp only [putF]
    split
    · simp; omega
    · intro x hx
      simp only [List.mem_cons] at hx
      rcases hx with rfl | hx
      · omega
      · refine ih (v / 128) (by omega) ?_ x hx
        have : (128 : Int) ^ (f + 1) = 128 ^ f * 128 := Int.pow_succ _ _
        omega

theorem putF_small (f : Nat) (v : Int) (h : v < 128) : putF f v = [v] := by
  cases f <;> simp [putF, h]

theorem putF_big (f : Nat) (v : Int) (h : 128 ≤ v) (hf : v < 128 * 128 ^ f) : ∃ g, f = g + 1 ∧ putF f v = (v % 128 + 128) :: putF g (v / 128) ∧ v / 128 < 128 * 128 ^ g := by
  cases f with
  | zero => omega
  | succ g =>
    refine ⟨g, rfl, ?_, ?_⟩
    · simp only [putF]; rw [if_neg (by omega)]
    · have : (128 : Int) ^ (g + 1) = 128 ^ g * 128 := Int.pow_succ _ _
      omega

/-- What Get answers: the bytes, from number i on, v what was before. -/
def getF : Nat → Int → List Int → Int × Int × Bool
  | _, _, [] => (0, 0, false)
  | i, v, x :: r =>
    if i = 9 ∧ 1 < x then (0, 0, false)
    else if 128 ≤ x then getF (i + 1) (v + x % 128 * 128 ^ i) r
    else if x = 0 ∧ 0 < i then (0, 0, false)
    else (v + x % 128 * 128 ^ i, i + 1, true)

def getL (zs : List Int) : Int × Int × Bool := getF 0 0 zs

theorem getF_over (y x : Int) (r : List Int) (h : 1 < x) : getF 9 y (x :: r) = (0, 0, false) := by simp [getF, h]
theorem getF_on (k : Nat) (y x : Int) (r : List Int) (h9 : k ≠ 9) (h : 128 ≤ x) : getF k y (x :: r) = getF (k + 1) (y + x % 128 * 128 ^ k) r := by
  simp [getF, h9, h]
theorem getF_nought (k : Nat) (y : Int) (r : List Int) (h : 0 < k) : getF k y (0 :: r) = (0, 0, false) := by simp [getF, h]
theorem getF_end (k : Nat) (y x : Int) (r : List Int) (h9 : k = 9 → x ≤ 1) (h : x < 128) (h0 : x = 0 → k = 0) : getF k y (x :: r) = (y + x % 128 * 128 ^ k, (k : Int) + 1, true) := by
  simp only [getF]
  rw [if_neg (by omega), if_neg (by omega), if_neg (by omega)]
theorem drop_cons (zs : List Int) (k : Nat) (x : Int) (h : k < zs.length) (hx : zs.getD k 0 = x) : zs.drop k = x :: zs.drop (k + 1) := by
  rw [List.drop_eq_getElem_cons h]
  simp [List.getD, List.getElem?_eq_getElem h] at hx
  rw [hx]
theorem pow_le9 (k : Nat) (h : k ≤ 9) : (128 : Int) ^ k ≤ 9223372036854775808 := by
  have : (128 : Nat) ^ k ≤ 128 ^ 9 := Nat.pow_le_pow_right (by omega) h
  have e : ((128 ^ k : Nat) : Int) = (128 : Int) ^ k := by rw [Int.natCast_pow]; rfl
  omega
theorem pow_pos128 (k : Nat) : 0 < (128 : Int) ^ k := Int.pow_pos (by omega)
theorem pow_s128 (k : Nat) : (128 : Int) ^ (k + 1) = 128 ^ k * 128 := Int.pow_succ _ _
theorem mul_lt_pow (x : Int) (k : Nat) (c : Int) (_h0 : 0 ≤ x) (h : x ≤ c) : x * 128 ^ k ≤ c * 128 ^ k := Int.mul_le_mul_of_nonneg_right h (Int.le_of_lt (pow_pos128 k))
end Go.Proofs.Ytaklgnjdehmbaaa
