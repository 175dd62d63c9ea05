/- The sum of 32 digits over plain numbers; no program. No conditions. -/
import Derived.Laws.BitsAllLaws
namespace Go.Proofs.Ytkeelcjfpnbfkaa
set_option linter.unusedVariables false

def stp (x : Nat) : Nat := if x % 2 = 1 then (x / 2) ^^^ 3988292384 else x / 2
def stpN : Nat → Nat → Nat
  | 0, x => x
  | n + 1, x => stpN n (stp x)
/-- The table's number at x. -/
def tab (x : Nat) : Nat := stpN 8 x
def crcStep (x b : Nat) : Nat := (x / 256) ^^^ tab ((x % 256) ^^^ b)
def crcFold (x : Nat) : List Int → Nat
  | [] => x
  | z :: zs => crcFold (crcStep x z.toNat) zs
/-- The sum of the bytes zs. -/
def sumN (zs : List Int) : Nat := 4294967295 - crcFold 4294967295 zs

theorem xor_lt32 {a b : Nat} (ha : a < 4294967296) (hb : b < 4294967296) : a ^^^ b < 4294967296 := Nat.xor_lt_two_pow (n := 32) ha hb
theorem xor_lt8 {a b : Nat} (ha : a < 256) (hb : b < 256) : a ^^^ b < 256 := Nat.xor_lt_two_pow (n := 8) ha hb

theorem stp_lt {x : Nat} (h : x < 4294967296) : stp x < 4294967296 := by
  unfold stp
  split
  · exact xor_lt32 (by omega) (by omega)
  · omega
theorem stpN_lt (n : Nat) {x : Nat} (h : x < 4294967296) : stpN n x < 4294967296 := by
  induction n generalizing x with
  | zero => exact h
  | succ n ih => exact ih (stp_lt h)
theorem tab_lt {x : Nat} (h : x < 4294967296) : tab x < 4294967296 := stpN_lt 8 h
theorem crcStep_lt {x b : Nat} (h : x < 4294967296) (hb : b < 256) : crcStep x b < 4294967296 :=
  xor_lt32 (by omega) (tab_lt (Nat.lt_of_lt_of_le (xor_lt8 (by omega) hb) (by omega)))
theorem crcFold_lt {x : Nat} (h : x < 4294967296) (zs : List Int) (hz : ∀ z ∈ zs, 0 ≤ z ∧ z ≤ 255) : crcFold x zs < 4294967296 := by
  induction zs generalizing x with
  | nil => exact h
  | cons z zs ih =>
    have := hz z (by simp)
    exact ih (crcStep_lt h (by omega)) (fun y hy => hz y (by simp [hy]))
theorem crcFold_append (x : Nat) (xs ys : List Int) : crcFold x (xs ++ ys) = crcFold (crcFold x xs) ys := by
  induction xs generalizing x with
  | nil => rfl
  | cons z zs ih => exact ih _
theorem crcFold_snoc (x : Nat) (xs : List Int) (z : Int) : crcFold x (xs ++ [z]) = crcStep (crcFold x xs) z.toNat := crcFold_append x xs [z]

/-- All ones less a number is the number turned. -/
theorem ones_xor {x : Nat} (h : x < 4294967296) : 4294967295 ^^^ x = 4294967295 - x := by
  apply Nat.eq_of_testBit_eq
  intro i
  have h1 : Nat.testBit 4294967295 i = decide (i < 32) := by
    rw [show (4294967295 : Nat) = 2 ^ 32 - 1 by decide, Nat.testBit_two_pow_sub_one]
  have h2 := Nat.testBit_two_pow_sub_succ (n := 32) h i
  rw [show 2 ^ 32 - (x + 1) = 4294967295 - x by omega] at h2
  rw [Nat.testBit_xor, h1, h2]
  by_cases hi : i < 32
  · simp [hi]
  · have : x.testBit i = false := Nat.testBit_lt_two_pow (Nat.lt_of_lt_of_le h (by
      have : 2 ^ 32 ≤ 2 ^ i := Nat.pow_le_pow_right (by omega) (by omega)
      simpa using this))
    simp [hi, this]

theorem sum_known : sumN [49, 50, 51, 52, 53, 54, 55, 56, 57] = 3421780262 := by decide +kernel
theorem sum_nil : sumN [] = 0 := rfl
theorem sum_lt (zs : List Int) : sumN zs < 4294967296 := by unfold sumN; omega

/-- Which number of the table has this top byte. -/
def backL : List Nat := [0, 65, 195, 130, 134, 199, 69, 4, 77, 12, 142, 207, 203, 138, 8, 73, 154, 219, 89, 24, 28, 93, 223, 158, 215, 150, 20, 85, 81, 16, 146, 211, 117, 52, 182, 247, 243, 178, 48, 113, 56, 121, 251, 186, 190, 255, 125, 60, 239, 174, 44, 109, 105, 40, 170, 235, 162, 227, 97, 32, 36, 101, 231, 166, 234, 171, 41, 104, 108, 45, 175, 238, 167, 230, 100, 37, 33, 96, 226, 163, 112, 49, 179, 242, 246, 183, 53, 116, 61, 124, 254, 191, 187, 250, 120, 57, 159, 222, 92, 29, 25, 88, 218, 155, 210, 147, 17, 80, 84, 21, 151, 214, 5, 68, 198, 135, 131, 194, 64, 1, 72, 9, 139, 202, 206, 143, 13, 76, 149, 212, 86, 23, 19, 82, 208, 145, 216, 153, 27, 90, 94, 31, 157, 220, 15, 78, 204, 141, 137, 200, 74, 11, 66, 3, 129, 192, 196, 133, 7, 70, 224, 161, 35, 98, 102, 39, 165, 228, 173, 236, 110, 47, 43, 106, 232, 169, 122, 59, 185, 248, 252, 189, 63, 126, 55, 118, 244, 181, 177, 240, 114, 51, 127, 62, 188, 253, 249, 184, 58, 123, 50, 115, 241, 176, 180, 245, 119, 54, 229, 164, 38, 103, 99, 34, 160, 225, 168, 233, 107, 42, 46, 111, 237, 172, 10, 75, 201, 136, 140, 205, 79, 14, 71, 6, 132, 197, 193, 128, 2, 67, 144, 209, 83, 18, 22, 87, 213, 148, 221, 156, 30, 95, 91, 26, 152, 217]
theorem back_tab : ∀ i, i < 256 → backL.getD (tab i / 16777216) 0 = i := by
  have h : (List.range 256).all (fun i => backL.getD (tab i / 16777216) 0 == i) = true := by decide +kernel
  intro i hi
  have := List.all_eq_true.1 h i (List.mem_range.2 hi)
  simpa using this

/-- The top byte of a sum's step is the table's. -/
theorem step_top (x b : Nat) (hx : x < 4294967296) (hb : b < 256) : crcStep x b / 16777216 = tab ((x % 256) ^^^ b) / 16777216 := by
  unfold crcStep
  have h1 : ∀ a c : Nat, (a ^^^ c) / 16777216 = (a / 16777216) ^^^ (c / 16777216) := fun a c => by
    have := Nat.shiftRight_xor_distrib (a := a) (b := c) (i := 24)
    simpa [Nat.shiftRight_eq_div_pow] using this
  rw [h1, show x / 256 / 16777216 = 0 by omega, Nat.zero_xor]

theorem xor_cancel_left {a b c : Nat} (h : a ^^^ b = a ^^^ c) : b = c := by
  have := congrArg (fun y => a ^^^ y) h
  simpa [← Nat.xor_assoc] using this
theorem xor_cancel_right {a b c : Nat} (h : a ^^^ c = b ^^^ c) : a = b := by
  rw [Nat.xor_comm a, Nat.xor_comm b] at h
  exact xor_cancel_left h

theorem step_index {x y b c : Nat} (hx : x < 4294967296) (hy : y < 4294967296) (hb : b < 256) (hc : c < 256) (h : crcStep x b = crcStep y c) : (x % 256) ^^^ b = (y % 256) ^^^ c := by
  have h1 := step_top x b hx hb
  have h2 := step_top y c hy hc
  rw [h, h2] at h1
  have h3 := back_tab ((x % 256) ^^^ b) (xor_lt8 (by omega) hb)
  have h4 := back_tab ((y % 256) ^^^ c) (xor_lt8 (by omega) hc)
  rw [← h1, h4] at h3
  exact h3.symm

/-- One byte, two sums: they stay two. -/
theorem step_inj {x y b : Nat} (hx : x < 4294967296) (hy : y < 4294967296) (hb : b < 256) (h : crcStep x b = crcStep y b) : x = y := by
  have h1 := step_index hx hy hb hb h
  have h2 := xor_cancel_right h1
  unfold crcStep at h
  rw [h1] at h
  have h3 := xor_cancel_right h
  omega
/-- One sum, two bytes: they become two. -/
theorem step_inj' {x b c : Nat} (hx : x < 4294967296) (hb : b < 256) (hc : c < 256) (h : crcStep x b = crcStep x c) : b = c :=
  xor_cancel_left (step_index hx hx hb hc h)

theorem fold_inj {x y : Nat} (hx : x < 4294967296) (hy : y < 4294967296) (zs : List Int) (hz : ∀ z ∈ zs, 0 ≤ z ∧ z ≤ 255) (h : crcFold x zs = crcFold y zs) : x = y := by
  induction zs generalizing x y with
  | nil => exact h
  | cons z zs ih =>
    have h1 := hz z (by simp)
    exact step_inj hx hy (by omega) (ih (crcStep_lt hx (by omega)) (crcStep_lt hy (by omega)) (fun y hy => hz y (by simp [hy])) h)

/-- A byte turned turns the sum. -/
theorem sum_turned (zs : List Int) (hz : ∀ z ∈ zs, 0 ≤ z ∧ z ≤ 255) (k : Nat) (hk : k < zs.length) (v : Int) (hv : 0 ≤ v ∧ v ≤ 255) (hne : v ≠ zs.getD k 0) : sumN (zs.set k v) ≠ sumN zs := by
  have e1 : zs = zs.take k ++ zs.getD k 0 :: zs.drop (k + 1) := by
    rw [List.getD_eq_getElem?_getD, List.getElem?_eq_getElem hk, Option.getD_some]
    conv => lhs; rw [← List.take_append_drop k zs]
    rw [← List.getElem_cons_drop hk]
  have e2 : zs.set k v = zs.take k ++ v :: zs.drop (k + 1) := List.set_eq_take_append_cons_drop ▸ by simp [hk]
  have r0 : ∀ z ∈ zs.take k, 0 ≤ z ∧ z ≤ 255 := fun z h => hz z (List.mem_of_mem_take h)
  have r1 : ∀ z ∈ zs.drop (k + 1), 0 ≤ z ∧ z ≤ 255 := fun z h => hz z (List.mem_of_mem_drop h)
  have r2 : 0 ≤ zs.getD k 0 ∧ zs.getD k 0 ≤ 255 := by
    rw [List.getD_eq_getElem?_getD, List.getElem?_eq_getElem hk, Option.getD_some]
    exact hz _ (List.getElem_mem hk)
  have hl := crcFold_lt (x := 4294967295) (by omega) (zs.take k) r0
  intro h
  have l1 : crcFold 4294967295 (zs.set k v) < 4294967296 := by
    rw [e2, crcFold_append]
    exact crcFold_lt (crcStep_lt hl (by omega)) _ r1
  have l2 := crcFold_lt (x := 4294967295) (by omega) zs hz
  unfold sumN at h
  have h2 : crcFold 4294967295 (zs.set k v) = crcFold 4294967295 zs := by omega
  rw [e2] at h2
  rw [show crcFold 4294967295 zs = crcFold 4294967295 (zs.take k ++ zs.getD k 0 :: zs.drop (k + 1)) from congrArg _ e1, crcFold_append, crcFold_append] at h2
  have h3 := fold_inj (crcStep_lt hl (by omega)) (crcStep_lt hl (by omega)) _ r1 h2
  have h4 := step_inj' hl (by omega) (by omega) h3
  omega
end Go.Proofs.Ytkeelcjfpnbfkaa
