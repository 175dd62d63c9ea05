/- Plain mathematics of varint numbers: no program, no conditions. -/
import Derived.KernelRfl
namespace Go.Proofs.Ythdndcoannigmaa
set_option linter.unusedVariables false
set_option linter.unusedSimpArgs false

def putF : Nat → Int → List Int
  | 0, v => [v]
  | f + 1, v => if v < 128 then [v] else (v % 128 + 128) :: putF f (v / 128)

def putL (v : Int) : List Int := putF 9 v

theorem putF_len (f : Nat) (v : Int) : 1 ≤ (putF f v).length ∧ (putF f v).length ≤ f + 1 := by
  induction f generalizing v with
  | zero => simp [putF]
  | succ f ih =>
    simp only [putF]
    split
    · simp
    · have := ih (v / 128); simp; omega

theorem putF_range (f : Nat) (v : Int) (h0 : 0 ≤ v) (h1 : v < 128 * 128 ^ f) : ∀ x ∈ putF f v, 0 ≤ x ∧ x ≤ 255 := by
  induction f generalizing v with
  | zero => simp [putF]; omega
  | succ f ih =>
    simp only [putF]
    split
    · simp; omega
    · intro x hx
      simp only [List.mem_cons] at hx
      rcases hx with rfl | hx
      · omega
      · refine ih (v / 128) (by omega) ?_ x hx
        have : (128 : Int) ^ (f + 1) = 128 ^ f * 128 := Int.pow_succ _ _
        omega

theorem putF_small (f : Nat) (v : Int) (h : v < 128) : putF f v = [v] := by
  cases f <;> simp [putF, h]

theorem putF_big (f : Nat) (v : Int) (h : 128 ≤ v) (hf : v < 128 * 128 ^ f) : ∃ g, f = g + 1 ∧ putF f v = (v % 128 + 128) :: putF g (v / 128) ∧ v / 128 < 128 * 128 ^ g := by
  cases f with
  | zero => omega
  | succ g =>
    refine ⟨g, rfl, ?_, ?_⟩
    · simp only [putF]; rw [if_neg (by omega)]
    · have : (128 : Int) ^ (g + 1) = 128 ^ g * 128 := Int.pow_succ _ _
      omega

/-- What Get answers: the bytes, from number i on, v what was before. -/
def getF : Nat → Int → List Int → Int × Int × Bool
  | _, _, [] => (0, 0, false)
  | i, v, x :: r =>
    if i = 9 ∧ 1 < x then (0, 0, false)
    else if 128 ≤ x then getF (i + 1) (v + x % 128 * 128 ^ i) r
    else if x = 0 ∧ 0 < i then (0, 0, false)
    else (v + x % 128 * 128 ^ i, i + 1, true)

def getL (zs : List Int) : Int × Int × Bool := getF 0 0 zs

theorem getF_over (y x : Int) (r : List Int) (h : 1 < x) : getF 9 y (x :: r) = (0, 0, false) := by simp [getF, h]
theorem getF_on (k : Nat) (y x : Int) (r : List Int) (h9 : k ≠ 9) (h : 128 ≤ x) : getF k y (x :: r) = getF (k + 1) (y + x % 128 * 128 ^ k) r := by
  simp [getF, h9, h]
theorem getF_nought (k : Nat) (y : Int) (r : List Int) (h : 0 < k) : getF k y (0 :: r) = (0, 0, false) := by simp [getF, h]
theorem getF_end (k : Nat) (y x : Int) (r : List Int) (h9 : k = 9 → x ≤ 1) (h : x < 128) (h0 : x = 0 → k = 0) : getF k y (x :: r) = (y + x % 128 * 128 ^ k, (k : Int) + 1, true) := by
  simp only [getF]
  rw [if_neg (by omega), if_neg (by omega), if_neg (by omega)]
theorem drop_cons (zs : List Int) (k : Nat) (x : Int) (h : k < zs.length) (hx : zs.getD k 0 = x) : zs.drop k = x :: zs.drop (k + 1) := by
  rw [List.drop_eq_getElem_cons h]
  simp [List.getD, List.getElem?_eq_getElem h] at hx
  rw [hx]
theorem pow_le9 (k : Nat) (h : k ≤ 9) : (128 : Int) ^ k ≤ 9223372036854775808 := by
  have : (128 : Nat) ^ k ≤ 128 ^ 9 := Nat.pow_le_pow_right (by omega) h
  have e : ((128 ^ k : Nat) : Int) = (128 : Int) ^ k := by rw [Int.natCast_pow]; rfl
  omega
theorem pow_pos128 (k : Nat) : 0 < (128 : Int) ^ k := Int.pow_pos (by omega)
theorem pow_s128 (k : Nat) : (128 : Int) ^ (k + 1) = 128 ^ k * 128 := Int.pow_succ _ _
theorem mul_lt_pow (x : Int) (k : Nat) (c : Int) (_h0 : 0 ≤ x) (h : x ≤ c) : x * 128 ^ k ≤ c * 128 ^ k := Int.mul_le_mul_of_nonneg_right h (Int.le_of_lt (pow_pos128 k))

/-- The number that bytes say, seven digits each, the lowest first. -/
def valL : List Int → Int
  | [] => 0
  | p :: r => p % 128 + 128 * valL r

theorem valL_snoc (P : List Int) (x : Int) : valL (P ++ [x]) = valL P + x % 128 * 128 ^ P.length := by
  induction P with
  | nil => simp [valL]
  | cons p P ih =>
    simp only [List.cons_append, valL, ih, List.length_cons]
    rw [pow_s128, Int.mul_add, Int.mul_comm (128 ^ P.length) 128, ← Int.mul_assoc, ← Int.mul_assoc, Int.mul_comm 128 (x % 128)]
    omega

theorem valL_bound (P : List Int) : 0 ≤ valL P ∧ valL P < 128 ^ P.length := by
  induction P with
  | nil => simp [valL]
  | cons p P ih =>
    simp only [valL, List.length_cons, pow_s128]
    omega

theorem valL_pos (P : List Int) (x : Int) (h0 : 0 < x) (h1 : x < 128) : 0 < valL (P ++ [x]) := by
  rw [valL_snoc]
  have := valL_bound P
  have h2 := pow_pos128 P.length
  have : x % 128 = x := by omega
  rw [this]
  have : 0 < x * 128 ^ P.length := Int.mul_pos h0 h2
  omega

theorem putF_valL (P : List Int) (x : Int) (f : Nat) (hf : P.length ≤ f) (hP : ∀ p ∈ P, 128 ≤ p ∧ p ≤ 255) (h0 : 0 ≤ x) (h1 : x < 128) (h2 : x = 0 → P = []) : putF f (valL (P ++ [x])) = P ++ [x] := by
  induction P generalizing f with
  | nil =>
    have : valL ([] ++ [x]) = x := by simp [valL]; omega
    rw [this, putF_small _ _ h1]; rfl
  | cons p P ih =>
    obtain ⟨f, rfl⟩ : ∃ g, f = g + 1 := ⟨f - 1, by simp at hf; omega⟩
    have hp := hP p (by simp)
    have hx : x ≠ 0 := fun e => by have := h2 e; simp at this
    have hpos := valL_pos P x (by omega) h1
    simp only [List.cons_append, valL, putF]
    rw [if_neg (by omega)]
    have e1 : (p % 128 + 128 * valL (P ++ [x])) % 128 + 128 = p := by omega
    have e2 : (p % 128 + 128 * valL (P ++ [x])) / 128 = valL (P ++ [x]) := by omega
    rw [e1, e2, ih f (by simp at hf; omega) (fun q hq => hP q (by simp [hq])) (fun e => absurd e hx)]

theorem valL_putF (f : Nat) (v : Int) (h0 : 0 ≤ v) (h1 : v < 128 * 128 ^ f) : valL (putF f v) = v := by
  induction f generalizing v with
  | zero => simp [putF, valL]; omega
  | succ f ih =>
    simp only [putF]
    split
    · simp [valL]; omega
    · have := ih (v / 128) (by omega) (by have := pow_s128 f; omega)
      simp only [valL, this]
      omega

theorem putF_last (f : Nat) (v : Int) (P : List Int) (h0 : 0 ≤ v) (h1 : v < 128 * 128 ^ f) (h : putF f v = P ++ [0]) : P = [] := by
  induction f generalizing v P with
  | zero =>
    simp only [putF] at h
    cases P with
    | nil => rfl
    | cons p P => simp at h
  | succ f ih =>
    cases P with
    | nil => rfl
    | cons p P =>
      simp only [putF] at h
      split at h
      · simp at h
      · simp only [List.cons_append, List.cons.injEq] at h
        have hP := ih (v / 128) P (by omega) (by have := pow_s128 f; omega) h.2
        subst hP
        have h3 := valL_putF f (v / 128) (by omega) (by have := pow_s128 f; omega)
        rw [h.2] at h3
        simp [valL] at h3
        omega

/-- Behind bytes that each say that another follows. -/
theorem getF_run (P r : List Int) (hP : ∀ p ∈ P, 128 ≤ p) (k : Nat) (y : Int) (hk : k + P.length ≤ 9) : getF k y (P ++ r) = getF (k + P.length) (y + valL P * 128 ^ k) r := by
  induction P generalizing k y with
  | nil => simp [valL]
  | cons p P ih =>
    simp only [List.cons_append, List.length_cons] at *
    rw [getF_on k y p _ (by omega) (hP p (by simp)), ih (fun q hq => hP q (by simp [hq])) (k + 1) _ (by omega)]
    congr 1
    · omega
    · simp only [valL]
      rw [pow_s128, Int.add_mul, Int.mul_comm (128 ^ k) 128, ← Int.mul_assoc, Int.mul_comm 128 (valL P)]
      omega

theorem getF_putF (f : Nat) (k : Nat) (y v : Int) (r : List Int) (hk : k + f ≤ 9) (h0 : 0 ≤ v) (h1 : v < 128 * 128 ^ f) (h2 : v * 128 ^ k < 18446744073709551616) (h3 : v = 0 → k = 0) :
    getF k y (putF f v ++ r) = (y + v * 128 ^ k, (k : Int) + ((putF f v).length : Int), true) := by
  have e9 : (128 : Int) ^ 9 = 9223372036854775808 := by decide
  induction f generalizing k y v with
  | zero =>
    simp only [putF, List.cons_append, List.nil_append]
    have : v < 128 := by simpa using h1
    rw [getF_end k y v r (fun e => by subst e; rw [e9] at h2; omega) this h3, Int.emod_eq_of_lt h0 this]
    rfl
  | succ f ih =>
    by_cases hv : v < 128
    · rw [putF_small _ _ hv]
      simp only [List.cons_append, List.nil_append]
      rw [getF_end k y v r (fun e => by subst e; rw [e9] at h2; omega) hv h3, Int.emod_eq_of_lt h0 hv]
      rfl
    · obtain ⟨g, hg, hp, hb⟩ := putF_big (f + 1) v (by omega) h1
      obtain rfl : f = g := by omega
      rw [hp]
      simp only [List.cons_append, List.length_cons]
      have hpp := pow_pos128 k
      have hq := pow_s128 k
      have hm : v / 128 * 128 ^ (k + 1) ≤ v * 128 ^ k := by
        rw [hq, Int.mul_comm (128 ^ k) 128, ← Int.mul_assoc]
        exact Int.mul_le_mul_of_nonneg_right (by omega) (by omega)
      rw [getF_on k y _ _ (fun e => by subst e; rw [e9] at h2; omega) (by omega), ih (k + 1) _ (v / 128) (by omega) (by omega) hb (by omega) (by omega)]
      congr 1
      · have e1 : (v % 128 + 128) % 128 = v % 128 := by omega
        have e2 : v = v % 128 + v / 128 * 128 := by omega
        rw [e1, hq, Int.mul_comm (128 ^ k) 128, ← Int.mul_assoc]
        have e3 : v * 128 ^ k = v % 128 * 128 ^ k + v / 128 * 128 * 128 ^ k := by rw [← Int.add_mul, ← e2]
        omega
      · congr 1
        omega

theorem getL_putL (v : Int) (r : List Int) (h0 : 0 ≤ v) (h1 : v < 18446744073709551616) (h2 : v < 128 * 128 ^ 9) : getL (putL v ++ r) = (v, ((putL v).length : Int), true) := by
  have := getF_putF 9 0 0 v r (by omega) h0 h2 (by simpa using h1) (fun _ => rfl)
  unfold getL putL
  rw [this]
  simp

theorem getF_all (P : List Int) (hP : ∀ p ∈ P, 128 ≤ p) (r : List Int) (hr : r = [] ∨ (P ≠ [] ∧ r = [0])) : getL (P ++ r) = (0, 0, false) := by
  unfold getL
  by_cases hl : P.length ≤ 9
  · rw [getF_run P r hP 0 0 (by omega)]
    rcases hr with rfl | ⟨h1, rfl⟩
    · rfl
    · have : 0 < P.length := List.length_pos_iff.2 h1
      rw [getF_nought _ _ _ (by omega)]
  · have h9 : 9 < P.length := by omega
    have e : P = P.take 9 ++ (P.getD 9 0 :: P.drop 10) := by
      rw [← drop_cons P 9 _ h9 rfl, List.take_append_drop]
    have hl9 : (P.take 9).length = 9 := by simp; omega
    have h10 := hP (P.getD 9 0) (by simp [List.getD, List.getElem?_eq_getElem h9])
    rw [e, List.append_assoc, getF_run (P.take 9) _ (fun p hp => hP p (List.mem_of_mem_take hp)) 0 0 (by omega), hl9, List.cons_append, getF_over _ _ _ (by omega)]

/-- All bytes of a number but the last say that another follows; the last does not. -/
theorem putF_split (f : Nat) (v : Int) (h0 : 0 ≤ v) (h1 : v < 128 * 128 ^ f) : ∃ P d, putF f v = P ++ [d] ∧ (∀ p ∈ P, 128 ≤ p ∧ p ≤ 255) ∧ 0 ≤ d ∧ d < 128 := by
  induction f generalizing v with
  | zero => exact ⟨[], v, rfl, by simp, h0, by simpa using h1⟩
  | succ f ih =>
    by_cases hv : v < 128
    · exact ⟨[], v, by rw [putF_small _ _ hv]; rfl, by simp, h0, hv⟩
    · obtain ⟨g, hg, hp, hb⟩ := putF_big (f + 1) v (by omega) h1
      obtain rfl : f = g := by omega
      obtain ⟨P, d, h2, h3, h4, h5⟩ := ih (v / 128) (by omega) hb
      refine ⟨(v % 128 + 128) :: P, d, by rw [hp, h2]; rfl, ?_, h4, h5⟩
      intro p hp
      simp only [List.mem_cons] at hp
      rcases hp with rfl | hp
      · omega
      · exact h3 p hp
end Go.Proofs.Ythdndcoannigmaa
