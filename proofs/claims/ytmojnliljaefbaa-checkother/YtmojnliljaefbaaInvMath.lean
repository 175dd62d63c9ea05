/- Where each stands, twice; a row with one number another. Plain numbers, no conditions. -/
import Derived.Test.YtmojnliljaefbaaPermMath
namespace Go.Proofs.Ytmojnliljaefbaa
set_option linter.unusedVariables false
set_option linter.unusedSimpArgs false

theorem invI_back {l : List Int} (h : ordB l = true) {p : Nat} (hp : p < l.length) : ∃ q : Nat, q < l.length ∧ (invI l).getD p 0 = (q : Int) ∧ l.getD q 0 = (p : Int) := by
  have hm : (p : Int) ∈ l := (ordB_mem h).2 ⟨by omega, by omega⟩
  obtain ⟨q, hq, e⟩ := mem_getI hm
  exact ⟨q, hq, invI_at h hq e, e⟩
theorem ordB_inv {l : List Int} (h : ordB l = true) : ordB (invI l) = true := by
  have hl := invI_len h
  rw [ordB_iff]
  have hnd : (invI l).Nodup := by
    rw [List.Nodup, List.pairwise_iff_getElem]
    intro i j hi hj hij e
    rw [hl] at hi hj
    obtain ⟨q, _, e1, e2⟩ := invI_back h hi
    obtain ⟨r, _, e3, e4⟩ := invI_back h hj
    have e5 : (invI l).getD i 0 = (invI l).getD j 0 := by
      rw [List.getD_eq_getElem?_getD, List.getD_eq_getElem?_getD, List.getElem?_eq_getElem (by rw [hl]; exact hi), List.getElem?_eq_getElem (by rw [hl]; exact hj), e]
    rw [e1, e3] at e5
    have : q = r := by omega
    subst this
    rw [e2] at e4
    omega
  refine nodup_perm hnd (fun z hz => natL_mem.2 ?_) (by rw [natL_len, List.length_range]; exact Nat.le_refl _)
  obtain ⟨p, hp, rfl⟩ := mem_getI hz
  rw [hl] at hp
  obtain ⟨q, hq, e1, _⟩ := invI_back h hp
  exact ⟨q, List.mem_range.2 (by rw [hl]; exact hq), e1⟩
theorem inv_twice {l : List Int} (h : ordB l = true) : invI (invI l) = l := by
  have hl := invI_len h
  refine (invI_eq (ordB_inv h) hl.symm fun i p hi hp => ?_).symm
  rw [hl] at hi
  obtain ⟨q, _, e1, e2⟩ := invI_back h hi
  rw [hp] at e1
  have : p = q := by omega
  rw [this, e2]
theorem setI_self {l : List Int} {i : Nat} (hi : i < l.length) : l.set i (l.getD i 0) = l := by
  refine List.ext_getElem (by rw [List.length_set]) fun j h1 h2 => ?_
  rw [List.getElem_set]
  split
  · rename_i e
    subst e
    rw [List.getD_eq_getElem?_getD, List.getElem?_eq_getElem h2]
    rfl
  · rfl
theorem ordB_set {l : List Int} (h : ordB l = true) {i : Nat} (hi : i < l.length) (v : Int) : ordB (l.set i v) = decide (v = l.getD i 0) := by
  by_cases e : v = l.getD i 0
  · rw [decide_eq_true e, e, setI_self hi, h]
  · rw [decide_eq_false e, Bool.eq_false_iff]
    intro ho
    have hm : v ∈ l.set i v := List.mem_iff_getElem.2 ⟨i, by rw [List.length_set]; exact hi, by simp⟩
    have h1 := (ordB_mem ho).1 hm
    rw [List.length_set] at h1
    obtain ⟨j, hj, ej⟩ := mem_getI ((ordB_mem h).2 h1)
    have hij : i ≠ j := fun e2 => by
      subst e2
      exact e ej.symm
    have := nodup_getI (ordB_nodup ho) (i := i) (j := j) (by rw [List.length_set]; exact hi) (by rw [List.length_set]; exact hj) (by rw [setI_same hi, setI_other hij, ej])
    exact hij this
end Go.Proofs.Ytmojnliljaefbaa
