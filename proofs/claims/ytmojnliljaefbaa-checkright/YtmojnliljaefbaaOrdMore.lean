/- The order of one number again and again, and of numbers spread apart. Plain numbers, no conditions. -/
import Derived.Test.YtmojnliljaefbaaOrdMath
import Derived.Test.YtmojnliljaefbaaBktMath
namespace Go.Proofs.Ytmojnliljaefbaa
set_option linter.unusedVariables false
set_option linter.unusedSimpArgs false

theorem same_lt {n : Nat} {z : Int} : ∀ (d a b : Nat), n - a = d → b < a → a ≤ n → ltE (List.replicate n z) a b := by
  intro d
  induction d with
  | zero =>
    intro a b h1 h2 h3
    exact ltE_end (by rw [List.length_replicate]; omega) (by rw [List.length_replicate]; omega)
  | succ d ih =>
    intro a b h1 h2 h3
    rw [ltE_same (by rw [List.length_replicate]; omega) (by rw [List.length_replicate]; omega) (by simp [List.getD, show a < n by omega, show b < n by omega])]
    exact ih (a + 1) (b + 1) (by omega) (by omega) (by omega)
theorem same_ord (n : Nat) (z : Int) : InOrd (List.replicate n z) (List.range n).reverse := by
  refine ⟨by rw [List.length_replicate]; exact List.reverse_perm _, ?_⟩
  rw [List.pairwise_reverse]
  refine (List.pairwise_lt_range (n := n)).imp_of_mem fun ha hb hab => ?_
  exact same_lt _ _ _ rfl hab (by have := List.mem_range.1 hb; omega)
theorem revN_at {n i : Nat} (h : i < n) : (List.range n).reverse.getD i 0 = n - 1 - i := by
  simp [List.getD, h]

theorem cmpI_map {f : Int → Int} (hf : ∀ x y, x < y → f x < f y) : ∀ (x y : List Int), cmpI (x.map f) (y.map f) = cmpI x y
  | [], [] => rfl
  | [], _ :: _ => rfl
  | _ :: _, [] => rfl
  | a :: x, b :: y => by
    rw [List.map_cons, List.map_cons, cmpI, cmpI, cmpI_map hf x y]
    rcases Int.lt_trichotomy a b with h | h | h
    · rw [if_pos h, if_pos (hf _ _ h)]
    · subst h
      rw [if_neg (by omega), if_neg (by omega), if_neg (by omega), if_neg (by omega)]
    · have := hf _ _ h
      rw [if_neg (by omega), if_pos this, if_neg (by omega), if_pos h]
theorem InOrd.map {f : Int → Int} (hf : ∀ x y, x < y → f x < f y) {s : List Int} {R : List Nat} (h : InOrd s R) : InOrd (s.map f) R := by
  refine ⟨by rw [List.length_map]; exact h.1, h.2.imp fun hab => ?_⟩
  unfold ltE at *
  rw [← List.map_drop, ← List.map_drop, cmpI_map hf]
  exact hab
theorem spread_lt {b m : Int} (hb : 1 ≤ b) : ∀ x y : Int, x < y → x * b + m < y * b + m := fun x y h => by
  have := Int.mul_lt_mul_of_pos_right h (show 0 < b by omega)
  omega
theorem spread_in {z b : Int} (h0 : 0 ≤ z) (h1 : z ≤ 200) (hb0 : 1 ≤ b) (hb1 : b ≤ 9) : 0 ≤ z * b ∧ z * b ≤ 200 * b := by
  refine ⟨Int.mul_nonneg h0 (by omega), ?_⟩
  exact Int.mul_le_mul_of_nonneg_right h1 (by omega)
theorem rowI_ext {l l' : List Int} (hl : l.length = l'.length) (h : ∀ i, i < l.length → l.getD i 0 = l'.getD i 0) : l = l' := by
  refine List.ext_getElem hl fun i h1 h2 => ?_
  have := h i h1
  simpa [List.getD, List.getElem?_eq_getElem h1, List.getElem?_eq_getElem h2] using this
end Go.Proofs.Ytmojnliljaefbaa
