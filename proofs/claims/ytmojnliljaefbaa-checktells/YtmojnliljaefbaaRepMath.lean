/- A row of numbers again and again. Plain numbers, no conditions. -/
import Derived.Test.YtmojnliljaefbaaLexMath
namespace Go.Proofs.Ytmojnliljaefbaa
set_option linter.unusedVariables false
set_option linter.unusedSimpArgs false

def repI (x : List Int) (n : Nat) : List Int := (List.replicate n x).flatten

theorem repI_zero (x : List Int) : repI x 0 = [] := rfl
theorem repI_succ (x : List Int) (n : Nat) : repI x (n + 1) = repI x n ++ x := by
  unfold repI
  rw [List.replicate_succ', List.flatten_append]
  simp
theorem repI_cons (x : List Int) (n : Nat) : repI x (n + 1) = x ++ repI x n := by
  unfold repI
  rw [List.replicate_succ, List.flatten_cons]
theorem repI_len (x : List Int) (n : Nat) : (repI x n).length = n * x.length := by
  induction n with
  | zero => simp [repI]
  | succ n ih => rw [repI_succ, List.length_append, ih, Nat.succ_mul]
theorem repI_at (x : List Int) (n k : Nat) (h : k < n * x.length) : (repI x n).getD k 0 = x.getD (k % x.length) 0 := by
  induction n generalizing k with
  | zero => omega
  | succ n ih =>
    rw [repI_cons]
    by_cases hk : k < x.length
    · rw [Nat.mod_eq_of_lt hk]
      simp only [List.getD_eq_getElem?_getD]
      rw [List.getElem?_append_left hk]
    · have e : k % x.length = (k - x.length) % x.length := Nat.mod_eq_sub_mod (by omega)
      rw [e, ← ih (k - x.length) (by rw [Nat.succ_mul] at h; omega)]
      simp only [List.getD_eq_getElem?_getD]
      rw [List.getElem?_append_right (by omega)]
theorem getD_ext {x y : List Int} (hl : x.length = y.length) (h : ∀ k, k < x.length → x.getD k 0 = y.getD k 0) : x = y := by
  refine List.ext_getElem hl fun k h1 h2 => ?_
  have := h k h1
  simpa [List.getD, List.getElem?_eq_getElem h1, List.getElem?_eq_getElem h2] using this
/-- Rotations of a row again and again are the same, a row apart. -/
theorem turnI_rep (x : List Int) (n i : Nat) (hi : i < n * x.length) : turnI (repI x n) i = turnI (repI x n) ((i + x.length) % (n * x.length)) := by
  have hN := repI_len x n
  have hj : (i + x.length) % (n * x.length) < n * x.length := Nat.mod_lt _ (by omega)
  have hm : 0 < x.length := Nat.pos_of_ne_zero fun h => by rw [h] at hi; omega
  refine getD_ext (by rw [turnI_len (by omega), turnI_len (by omega)]) fun k hk => ?_
  rw [turnI_len (by omega), hN] at hk
  rw [turnI_at (by omega) (by omega), turnI_at (by omega) (by omega), hN, repI_at _ _ _ (Nat.mod_lt _ (by omega)), repI_at _ _ _ (Nat.mod_lt _ (by omega))]
  congr 1
  rw [Nat.mod_add_mod, Nat.mod_mul_left_mod, Nat.mod_mul_left_mod, show i + x.length + k = i + k + x.length by omega, Nat.add_mod_right]
end Go.Proofs.Ytmojnliljaefbaa
