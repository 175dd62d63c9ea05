/- What each taking answers, and leaves: plain numbers. -/
import Derived.Test.YthdndcoannigmaaVarMath
import Derived.WalkKit
namespace Go.Proofs.Ythdndcoannigmaa
set_option linter.unusedVariables false

theorem getF_ok : ∀ (r : List Int) (k : Nat) (y : Int), 0 ≤ y → (∀ z ∈ r, 0 ≤ z) → (getF k y r).2.2 = true → 0 ≤ (getF k y r).1 ∧ (k : Int) + 1 ≤ (getF k y r).2.1 ∧ (getF k y r).2.1 ≤ (k : Int) + (r.length : Int)
  | [], k, y, _, _, h => by simp [getF] at h
  | x :: r, k, y, hy, hr, h => by
    have hx := hr x (by simp)
    have hp := pow_pos128 k
    have hm : 0 ≤ x % 128 * 128 ^ k := Int.mul_nonneg (by omega) (by omega)
    simp only [getF] at h ⊢
    split at h
    · simp at h
    · rename_i h1
      rw [if_neg h1]
      split at h
      · rename_i h2
        rw [if_pos h2]
        have := getF_ok r (k + 1) _ (by omega) (fun z hz => hr z (by simp [hz])) h
        simp only [List.length_cons]
        omega
      · rename_i h2
        rw [if_neg h2]
        split at h
        · simp at h
        · rename_i h3
          rw [if_neg h3]
          simp only [List.length_cons]
          omega

theorem getL_ok {zs : List Int} {x n : Int} (hr : ∀ z ∈ zs, 0 ≤ z ∧ z ≤ 255) (h : getL zs = (x, n, true)) : 0 ≤ x ∧ 1 ≤ n ∧ n ≤ (zs.length : Int) := by
  have := getF_ok zs 0 0 (by omega) (fun z hz => (hr z hz).1) (by show (getL zs).2.2 = true; rw [h])
  have e : getF 0 0 zs = (x, n, true) := h
  rw [e] at this
  simp only at this
  omega

def byteL : List Int → Int × Bool × List Int
  | [] => (0, false, [])
  | z :: r => (z, true, r)
def takeL (n : Int) (zs : List Int) : List Int × Bool × List Int := if 0 ≤ n ∧ n ≤ (zs.length : Int) then (zs.take n.toNat, true, zs.drop n.toNat) else ([], false, zs)
def varL (most : Int) (zs : List Int) : Int × Bool × List Int := if (getL zs).2.2 = true ∧ 0 ≤ most ∧ (getL zs).1 ≤ most then ((getL zs).1, true, zs.drop (getL zs).2.1.toNat) else (0, false, zs)
def fourV (a b c d : Int) : Int := bits .or .u32 (bits .or .u32 (bits .or .u32 a (b * 256)) (c * 65536)) (d * 16777216)
def fourL (zs : List Int) : Int × Bool × List Int :=
  match zs with
  | a :: b :: c :: d :: r => (fourV a b c d, true, r)
  | _ => (0, false, zs)

theorem takeL_in {n : Int} {zs : List Int} (h0 : 0 ≤ n) (h1 : n ≤ (zs.length : Int)) : takeL n zs = (zs.take n.toNat, true, zs.drop n.toNat) := if_pos ⟨h0, h1⟩
theorem takeL_all (zs : List Int) : takeL (zs.length : Int) zs = (zs, true, []) := by
  rw [takeL_in (by omega) (by omega), Int.toNat_natCast, List.take_length, List.drop_length]
theorem takeL_out {n : Int} {zs : List Int} (h : ¬ (0 ≤ n ∧ n ≤ (zs.length : Int))) : takeL n zs = ([], false, zs) := if_neg h
theorem varL_in {most x n : Int} {zs : List Int} (h : getL zs = (x, n, true)) (h0 : 0 ≤ most) (h1 : x ≤ most) : varL most zs = (x, true, zs.drop n.toNat) := by
  unfold varL; rw [h]; exact if_pos ⟨rfl, h0, h1⟩
theorem varL_no {most x n : Int} {zs : List Int} (h : getL zs = (x, n, false)) : varL most zs = (0, false, zs) := by
  unfold varL; rw [h]; exact if_neg (fun h => by cases h.1)
theorem varL_out {most x n : Int} {b : Bool} {zs : List Int} (h : getL zs = (x, n, b)) (h0 : ¬ (0 ≤ most ∧ x ≤ most)) : varL most zs = (0, false, zs) := by
  unfold varL; rw [h]; exact if_neg (fun h => h0 h.2)
theorem fourL_short {zs : List Int} (h : zs.length < 4) : fourL zs = (0, false, zs) := by
  match zs, h with
  | [], _ => rfl
  | [_], _ => rfl
  | [_, _], _ => rfl
  | [_, _, _], _ => rfl
end Go.Proofs.Ythdndcoannigmaa
