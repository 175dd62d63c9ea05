/- Rings in order: the numbers. Plain numbers, no conditions. -/
import Derived.Test.YtjccpkekhjhafaaLeaMath
import Derived.Test.YtjccpkekhjhafaaPerMath
namespace Go.Proofs.Ytjccpkekhjhafaa
set_option linter.unusedVariables false
set_option linter.unusedSimpArgs false

/-- A word's root, and how many times it is it. -/
def rtI (x : List Int) : List Int := x.take (rootN x)
def tmI (x : List Int) : Nat := x.length / rootN x
/-- By root, then by times. -/
def keyC (r s : List Int) (n m : Nat) : Int := if cmpI r s = 0 then (if (n : Int) < m then -1 else if (m : Int) < n then 1 else 0) else cmpI r s
def rcI (x y : List Int) : Int := keyC (rtI x) (rtI y) (tmI x) (tmI y)

theorem rtI_rep {x : List Int} (h : 0 < x.length) : repI (rtI x) (tmI x) = x := by
  obtain ⟨a1, a2, a3, a4, _⟩ := rootN_spec h
  have hl : (rtI x).length = rootN x := by unfold rtI; rw [List.length_take]; omega
  have hm : tmI x * rootN x = x.length := Nat.div_mul_cancel a3
  refine getD_ext (by rw [repI_len, hl, hm]) fun k hk => ?_
  rw [repI_len, hl, hm] at hk
  rw [repI_at _ _ _ (by rw [hl, hm]; exact hk), hl]
  unfold rtI
  rw [take_getD _ _ _ (Nat.mod_lt _ a1), ← a4.mod a1 k hk]

theorem keyC_self (r : List Int) (n : Nat) : keyC r r n n = 0 := by unfold keyC; simp [cmpI_self]
theorem keyC_zero {r s : List Int} {n m : Nat} (h : keyC r s n m = 0) : r = s ∧ n = m := by
  unfold keyC at h
  split at h
  · rename_i h0
    refine ⟨cmpI_zero h0, ?_⟩
    split at h
    · omega
    · split at h
      · omega
      · omega
  · omega
theorem keyC_swap (r s : List Int) (n m : Nat) : keyC s r m n = - keyC r s n m := by
  unfold keyC
  rw [cmpI_swap r s]
  by_cases h : cmpI r s = 0
  · rw [h, if_pos (by omega), if_pos rfl]
    split <;> split <;> omega
  · rw [if_neg (by omega), if_neg h]
theorem keyC_trans {r s t : List Int} {n m p : Nat} (h : keyC r s n m ≤ 0) (k : keyC s t m p ≤ 0) : keyC r t n p ≤ 0 := by
  unfold keyC at *
  by_cases h1 : cmpI r s = 0
  · have := cmpI_zero h1
    subst this
    rw [if_pos h1] at h
    by_cases h2 : cmpI r t = 0
    · rw [if_pos h2] at k ⊢
      split at h <;> split at k <;> split <;> omega
    · rw [if_neg h2] at k ⊢
      exact k
  · rw [if_neg h1] at h
    by_cases h2 : cmpI s t = 0
    · have := cmpI_zero h2
      subst this
      rw [if_neg h1]
      exact h
    · rw [if_neg h2] at k
      have := cmpI_lt_trans (x := r) (y := s) (z := t) (by omega) k
      rw [if_neg (by omega)]
      omega

theorem rcI_self (x : List Int) : rcI x x = 0 := keyC_self _ _
theorem rcI_swap (x y : List Int) : rcI y x = - rcI x y := keyC_swap _ _ _ _
theorem rcI_trans {x y z : List Int} (h : rcI x y ≤ 0) (k : rcI y z ≤ 0) : rcI x z ≤ 0 := keyC_trans h k
theorem rcI_zero {x y : List Int} (hx : 0 < x.length) (hy : 0 < y.length) (h : rcI x y = 0) : x = y := by
  obtain ⟨h1, h2⟩ := keyC_zero h
  rw [← rtI_rep hx, ← rtI_rep hy, h1, h2]

/-- The least rotations of all words but the empty ones. -/
def baseL (zss : List (List Int)) : List (List Int) := (zss.filter fun x => decide (0 < x.length)).map ofI
def canonL (zss : List (List Int)) : List (List Int) := (baseL zss).mergeSort fun x y => decide (rcI x y ≤ 0)
theorem baseL_mem {zss : List (List Int)} {x : List Int} (h : x ∈ baseL zss) : 0 < x.length ∧ ∃ y ∈ zss, x = ofI y := by
  obtain ⟨y, hy, rfl⟩ := List.mem_map.1 h
  obtain ⟨h1, h2⟩ := List.mem_filter.1 hy
  rw [ofI_len]
  exact ⟨by simpa using h2, y, h1, rfl⟩
theorem canonL_perm (zss : List (List Int)) : (canonL zss).Perm (baseL zss) := List.mergeSort_perm _ _
theorem canonL_sorted (zss : List (List Int)) : (canonL zss).Pairwise fun x y => rcI x y ≤ 0 := by
  have := List.pairwise_mergeSort (le := fun x y => decide (rcI x y ≤ 0)) (fun a b c h k => by simp only [decide_eq_true_eq] at *; exact rcI_trans h k)
    (fun a b => by
      have := rcI_swap a b
      simp only [Bool.or_eq_true, decide_eq_true_eq]
      omega) (baseL zss)
  exact this.imp fun h => by simpa using h
/-- In order there is just one such row. -/
theorem canonL_eq {zss l : List (List Int)} (hp : l.Perm (baseL zss)) (hs : l.Pairwise fun x y => rcI x y ≤ 0) : l = canonL zss := by
  refine List.Perm.eq_of_pairwise (le := fun x y => rcI x y ≤ 0) (fun a b ha hb h k => ?_) hs (canonL_sorted zss) (hp.trans (canonL_perm zss).symm)
  have h1 := (baseL_mem (hp.mem_iff.1 ha)).1
  have h2 := (baseL_mem ((canonL_perm zss).mem_iff.1 hb)).1
  have := rcI_swap a b
  exact rcI_zero h1 h2 (by omega)
theorem canonL_mem {zss : List (List Int)} {x : List Int} (h : x ∈ canonL zss) : 0 < x.length ∧ ∃ y ∈ zss, x = ofI y := baseL_mem ((canonL_perm zss).mem_iff.1 h)
theorem canonL_perm_eq {zss yss : List (List Int)} (h : (baseL zss).Perm (baseL yss)) : canonL zss = canonL yss := canonL_eq ((canonL_perm zss).trans h) (canonL_sorted zss)
theorem canonL_len (zss : List (List Int)) : (canonL zss).length = (baseL zss).length := (canonL_perm zss).length_eq

theorem baseL_nil : baseL [] = [] := rfl
theorem baseL_app (a b : List (List Int)) : baseL (a ++ b) = baseL a ++ baseL b := by unfold baseL; rw [List.filter_append, List.map_append]
theorem baseL_one {x : List Int} (h : 0 < x.length) : baseL [x] = [ofI x] := by unfold baseL; simp [h]
theorem baseL_none {x : List Int} (h : x.length = 0) : baseL [x] = [] := by unfold baseL; simp [List.length_eq_zero_iff.1 h]
theorem ofI_ofI (x : List Int) : ofI (ofI x) = ofI x := by
  have h := atI_of x
  rw [show ofI (ofI x) = turnI (ofI x) (atI (ofI x)) from rfl, h, turn_zero]
/-- Of rings the rings are themselves. -/
theorem baseL_rings : ∀ {l : List (List Int)}, (∀ x ∈ l, 0 < x.length ∧ ofI x = x) → baseL l = l
  | [], _ => rfl
  | x :: l, h => by
    have h1 := h x (by simp)
    rw [show x :: l = [x] ++ l from rfl, baseL_app, baseL_one h1.1, h1.2, baseL_rings fun y hy => h y (by simp [hy])]
theorem canonL_rings (zss : List (List Int)) : ∀ x ∈ canonL zss, 0 < x.length ∧ ofI x = x := fun x hx => by
  obtain ⟨h1, y, _, rfl⟩ := canonL_mem hx
  exact ⟨h1, ofI_ofI y⟩
theorem canonL_twice (zss : List (List Int)) : canonL (canonL zss) = canonL zss :=
  (canonL_eq (by rw [baseL_rings (canonL_rings zss)]) (canonL_sorted zss)).symm
theorem canonL_parts (a b : List (List Int)) : canonL (a ++ b) = canonL (canonL a ++ canonL b) :=
  canonL_perm_eq (by
    rw [baseL_app, baseL_app, baseL_rings (canonL_rings a), baseL_rings (canonL_rings b)]
    exact ((canonL_perm a).append (canonL_perm b)).symm)
/-- A word more, wherever: a ring more. -/
theorem baseL_snoc_perm {l : List (List Int)} {x : List Int} {zss : List (List Int)} (h : l.Perm (baseL zss)) (hx : 0 < x.length) (j : Nat) : (l.take j ++ [ofI x] ++ l.drop j).Perm (baseL (zss ++ [x])) := by
  rw [baseL_app, baseL_one hx]
  have h1 : (l.take j ++ [ofI x] ++ l.drop j).Perm (l ++ [ofI x]) := by
    rw [List.append_assoc]
    refine List.Perm.trans (List.Perm.append_left _ List.perm_append_comm) ?_
    rw [← List.append_assoc, List.take_append_drop]
  exact h1.trans (h.append_right _)
/-- The place of one more: what is behind it is greater. -/
def InsR (out : List (List Int)) (x : List Int) (j : Nat) : Prop := ∀ m, j ≤ m → m < out.length → rcI x (out.getD m []) < 0
theorem InsR.place {out : List (List Int)} {x : List Int} {j : Nat} (h : InsR out x j) (hj : j ≤ out.length) (hs : out.Pairwise fun x y => rcI x y ≤ 0) (hstop : j = 0 ∨ ¬ rcI x (out.getD (j - 1) []) < 0) :
    (out.take j ++ [x] ++ out.drop j).Pairwise fun x y => rcI x y ≤ 0 := by
  have hgt : ∀ y ∈ out.drop j, rcI x y ≤ 0 := fun y hy => by
    obtain ⟨i, hi, e⟩ := List.mem_iff_getElem.1 hy
    rw [List.length_drop] at hi
    have := h (j + i) (by omega) (by omega)
    rw [List.getD_eq_getElem?_getD, List.getElem?_eq_getElem (by omega), Option.getD_some] at this
    rw [List.getElem_drop] at e
    rw [e] at this
    omega
  have hle : ∀ y ∈ out.take j, rcI y x ≤ 0 := fun y hy => by
    rcases hstop with h0 | hstop
    · subst h0; simp at hy
    · obtain ⟨i, hi, e⟩ := List.mem_iff_getElem.1 hy
      rw [List.length_take] at hi
      rw [List.getElem_take] at e
      have hlast : rcI (out.getD (j - 1) []) x ≤ 0 := by have := rcI_swap x (out.getD (j - 1) []); omega
      by_cases hij : i = j - 1
      · rw [List.getD_eq_getElem?_getD, List.getElem?_eq_getElem (by omega), Option.getD_some] at hlast
        subst hij
        rw [← e]; exact hlast
      · have h1 := List.pairwise_iff_getElem.1 hs i (j - 1) (by omega) (by omega) (by omega)
        rw [List.getD_eq_getElem?_getD, List.getElem?_eq_getElem (by omega), Option.getD_some] at hlast
        rw [e] at h1
        exact rcI_trans h1 hlast
  rw [List.append_assoc, List.pairwise_append]
  refine ⟨hs.sublist (List.take_sublist _ _), ?_, fun a ha b hb => ?_⟩
  · rw [List.pairwise_append]
    exact ⟨List.pairwise_singleton _ _, hs.sublist (List.drop_sublist _ _), fun a ha b hb => by simp at ha; subst ha; exact hgt b hb⟩
  · rcases List.mem_append.1 hb with hb | hb
    · simp at hb; subst hb; exact hle a ha
    · exact rcI_trans (hle a ha) (hgt b hb)
end Go.Proofs.Ytjccpkekhjhafaa
