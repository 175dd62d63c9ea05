/- Places in order of their endings: there is just one such row. Plain numbers, no conditions. -/
import Derived.Test.YtmojnliljaefbaaRepMath
import Derived.Test.YtmojnliljaefbaaBktMath
namespace Go.Proofs.Ytmojnliljaefbaa
set_option linter.unusedVariables false
set_option linter.unusedSimpArgs false

/-- Endings in order. -/
def ltE (s : List Int) (a b : Nat) : Prop := cmpI (s.drop a) (s.drop b) < 0
theorem ltE_less {s : List Int} {a b : Nat} (ha : a < s.length) (hb : b < s.length) (h : s.getD a 0 < s.getD b 0) : ltE s a b := by
  unfold ltE
  rw [drop_getD ha, drop_getD hb, cmpI, if_pos h]
  decide
theorem ltE_same {s : List Int} {a b : Nat} (ha : a < s.length) (hb : b < s.length) (h : s.getD a 0 = s.getD b 0) : ltE s a b ↔ ltE s (a + 1) (b + 1) := by
  unfold ltE
  rw [drop_getD ha, drop_getD hb, cmpI, if_neg (by omega), if_neg (by omega)]
theorem ltE_end {s : List Int} {a b : Nat} (ha : s.length ≤ a) (hb : b < s.length) : ltE s a b := by
  unfold ltE
  rw [List.drop_of_length_le ha, drop_getD hb, cmpI]
  decide
theorem ltE_irrefl {s : List Int} {a : Nat} : ¬ ltE s a a := by
  unfold ltE
  rw [cmpI_self]
  omega
theorem ltE_trans {s : List Int} {a b c : Nat} (h1 : ltE s a b) (h2 : ltE s b c) : ltE s a c := by
  unfold ltE at *
  have h3 := cmpI_trans (s.drop a) (s.drop b) (s.drop c) (by omega) (by omega)
  by_cases e : cmpI (s.drop a) (s.drop c) = 0
  · have e2 := cmpI_zero e
    rw [← e2, cmpI_swap] at h2
    omega
  · omega
theorem ltE_total {s : List Int} {a b : Nat} (ha : a ≤ s.length) (hb : b ≤ s.length) (hne : a ≠ b) (h : ¬ ltE s a b) : ltE s b a := by
  unfold ltE at *
  rw [cmpI_swap]
  by_cases e : cmpI (s.drop a) (s.drop b) = 0
  · have e2 := congrArg List.length (cmpI_zero e)
    rw [List.length_drop, List.length_drop] at e2
    omega
  · omega
/-- Each place once, in order of endings. -/
def InOrd (s : List Int) (R : List Nat) : Prop := R.Perm (List.range s.length) ∧ R.Pairwise (ltE s)
theorem InOrd.eq {s : List Int} {R R' : List Nat} (h : InOrd s R) (h' : InOrd s R') : R = R' :=
  List.Perm.eq_of_pairwise (fun a b _ _ h3 h4 => absurd (ltE_trans h3 h4) ltE_irrefl) h.2 h'.2 (h.1.trans h'.1.symm)
theorem InOrd.len {s : List Int} {R : List Nat} (h : InOrd s R) : R.length = s.length := by rw [h.1.length_eq, List.length_range]
theorem InOrd.mem {s : List Int} {R : List Nat} (h : InOrd s R) {i : Nat} (hi : i < s.length) : R.getD i 0 < s.length := List.mem_range.1 (h.1.mem_iff.1 (getN_mem (by rw [h.len]; exact hi)))
/-- A place put into its place. -/
theorem ins_ord {s : List Int} {out : List Nat} {i j : Nat} (h : out.Pairwise (ltE s)) (hp : out.Perm (List.range i)) (hi : i < s.length) (hj : j ≤ out.length) (h1 : ∀ q, j ≤ q → q < out.length → ltE s i (out.getD q 0)) (h2 : j = 0 ∨ ¬ ltE s i (out.getD (j - 1) 0)) :
    (out.take j ++ [i] ++ out.drop j).Pairwise (ltE s) ∧ (out.take j ++ [i] ++ out.drop j).Perm (List.range (i + 1)) := by
  have ht : ∀ a ∈ out.take j, ltE s a i := fun a ha => by
    obtain ⟨q, hq, rfl⟩ := mem_getN ha
    rw [List.length_take] at hq
    have e : (out.take j).getD q 0 = out.getD q 0 := by
      simp only [List.getD_eq_getElem?_getD, List.getElem?_take]
      rw [if_pos (by omega)]
    rw [e]
    rcases h2 with h2 | h2
    · omega
    · have hm := List.mem_range.1 (hp.mem_iff.1 (getN_mem (l := out) (i := j - 1) (by omega)))
      have h3 := ltE_total (a := i) (by omega) (by omega) (by omega) h2
      by_cases e2 : q = j - 1
      · rw [e2]; exact h3
      · exact ltE_trans (pairN_at h (show q < j - 1 by omega) (by omega)) h3
  have hd : ∀ a ∈ out.drop j, ltE s i a := fun a ha => by
    obtain ⟨q, hq, rfl⟩ := mem_getN ha
    rw [List.length_drop] at hq
    have e : (out.drop j).getD q 0 = out.getD (j + q) 0 := by simp only [List.getD_eq_getElem?_getD, List.getElem?_drop]
    rw [e]
    exact h1 (j + q) (by omega) (by omega)
  constructor
  · rw [List.append_assoc, List.pairwise_append]
    refine ⟨h.sublist (List.take_sublist _ _), ?_, fun a ha b hb => ?_⟩
    · rw [List.singleton_append, List.pairwise_cons]
      exact ⟨hd, h.sublist (List.drop_sublist _ _)⟩
    · rcases List.mem_append.1 hb with hb | hb
      · rw [List.mem_singleton.1 hb]; exact ht a ha
      · exact ltE_trans (ht a ha) (hd b hb)
  · rw [List.range_succ]
    have e : out ++ [i] = out.take j ++ (out.drop j ++ [i]) := by rw [← List.append_assoc, List.take_append_drop]
    refine List.Perm.trans ?_ (hp.append_right [i])
    rw [e, List.append_assoc]
    exact List.Perm.append_left _ List.perm_append_comm
end Go.Proofs.Ytmojnliljaefbaa
