/- An order of places is that of their endings just if it comes out again, where the places ahead of its own are sorted by their bytes, the last place first. Plain numbers, no conditions. -/
import Derived.Test.YtmojnliljaefbaaChMath
import Derived.Test.YtmojnliljaefbaaBktMath
import Derived.Test.YtmojnliljaefbaaByt
namespace Go.Proofs.Ytmojnliljaefbaa
set_option linter.unusedVariables false
set_option linter.unusedSimpArgs false

/-- The places ahead of a row's. -/
def bhF (l : List Nat) : List Nat := l.filterMap fun p => if 0 < p then some (p - 1) else none
theorem bhF_snoc_pos {l : List Nat} {p : Nat} (h : 0 < p) : bhF (l ++ [p]) = bhF l ++ [p - 1] := by
  unfold bhF
  rw [List.filterMap_append]
  simp [h]
theorem bhF_snoc_zero {l : List Nat} : bhF (l ++ [0]) = bhF l := by
  unfold bhF
  rw [List.filterMap_append]
  simp
theorem bhF_le (l : List Nat) : (bhF l).length ≤ l.length := List.length_filterMap_le _ _
theorem bhF_range (n : Nat) : bhF (List.range (n + 1)) = List.range n := by
  unfold bhF
  rw [List.range_succ_eq_map, List.filterMap_cons]
  simp only [Nat.lt_irrefl, if_false]
  rw [List.filterMap_map]
  have : ((fun p => if 0 < p then some (p - 1) else none) ∘ Nat.succ) = (some : Nat → Option Nat) := by
    funext p
    simp
  rw [this, List.filterMap_some]
/-- The last place, and those ahead. -/
def bhL (l : List Nat) : List Nat := if l.length = 0 then [] else (l.length - 1) :: bhF l
theorem bhL_perm {R : List Nat} {n : Nat} (h : R.Perm (List.range n)) : (bhL R).Perm (List.range n) := by
  have hl : R.length = n := by rw [h.length_eq, List.length_range]
  unfold bhL
  rw [hl]
  cases n with
  | zero => exact List.Perm.refl _
  | succ n =>
    rw [if_neg (by omega), Nat.add_sub_cancel]
    have h1 : (bhF R).Perm (List.range n) := by
      have := h.filterMap fun p => if 0 < p then some (p - 1) else none
      rwa [show List.filterMap (fun p => if 0 < p then some (p - 1) else none) (List.range (n + 1)) = List.range n from bhF_range n] at this
    rw [List.range_succ]
    exact (h1.cons n).trans (List.perm_append_comm (l₁ := [n]) (l₂ := List.range n))
theorem bhL_pairs (R : List Nat) : (bhL R).Pairwise fun a b => a + 1 = R.length ∨ [a + 1, b + 1].Sublist R := by
  unfold bhL
  split
  · exact List.Pairwise.nil
  · rename_i h
    rw [List.pairwise_cons]
    refine ⟨fun b _ => .inl (by omega), ?_⟩
    unfold bhF
    rw [List.pairwise_filterMap]
    rw [List.pairwise_iff_forall_sublist]
    intro a a' hs b hb b' hb'
    refine .inr ?_
    have h1 : a = b + 1 := by
      by_cases h : 0 < a
      · rw [if_pos h] at hb
        have := Option.some.inj hb
        omega
      · rw [if_neg h] at hb
        cases hb
    have h2 : a' = b' + 1 := by
      by_cases h : 0 < a'
      · rw [if_pos h] at hb'
        have := Option.some.inj hb'
        omega
      · rw [if_neg h] at hb'
        cases hb'
    rw [← h1, ← h2]
    exact hs
theorem keyN_bytes {s : List Int} (h8 : Bytes8 s) {p : Nat} : (keyN s p : Int) = s.getD p 0 ∧ keyN s p < 256 := by
  have := h8.get p
  unfold keyN
  omega
/-- What comes out of a pass over what stands ahead. -/
def againL (s : List Int) (R : List Nat) : List Nat := csort 256 (bhL R) (keyN s)
theorem again_pairs {s : List Int} (R : List Nat) : (againL s R).Pairwise fun a b => keyN s a < keyN s b ∨ (keyN s a = keyN s b ∧ (a + 1 = R.length ∨ [a + 1, b + 1].Sublist R)) :=
  csort_sorted 256 (keyN s) (bhL_pairs R)
theorem again_perm {s : List Int} (h8 : Bytes8 s) {R : List Nat} (h : R.Perm (List.range s.length)) : (againL s R).Perm (List.range s.length) :=
  (csort_perm fun p _ => (keyN_bytes h8).2).trans (bhL_perm h)
theorem sub_two {R : List Nat} {a b n : Nat} (h : R.Perm (List.range n)) (hs : [a, b].Sublist R) : a < n ∧ b < n ∧ a ≠ b := by
  refine ⟨List.mem_range.1 (h.mem_iff.1 (hs.subset (by simp))), List.mem_range.1 (h.mem_iff.1 (hs.subset (by simp))), ?_⟩
  have := hs.nodup (h.nodup_iff.2 List.nodup_range)
  simpa using this
theorem step_lt {s : List Int} (h8 : Bytes8 s) {R : List Nat} (hp : R.Perm (List.range s.length)) {a b : Nat} (ha : a < s.length) (hb : b < s.length) (hne : a ≠ b)
    (h : keyN s a < keyN s b ∨ (keyN s a = keyN s b ∧ (a + 1 = R.length ∨ [a + 1, b + 1].Sublist R))) (ih : [a + 1, b + 1].Sublist R → ltE s (a + 1) (b + 1)) : ltE s a b := by
  have k1 := (keyN_bytes h8 (p := a)).1
  have k2 := (keyN_bytes h8 (p := b)).1
  have hl : R.length = s.length := by rw [hp.length_eq, List.length_range]
  rcases h with h | ⟨h, h2⟩
  · exact ltE_less ha hb (by omega)
  · rw [ltE_same ha hb (by omega)]
    rcases h2 with h2 | h2
    · exact ltE_end (by omega) (by omega)
    · exact ih h2
theorem again_iff {s : List Int} (h8 : Bytes8 s) {R : List Nat} (hp : R.Perm (List.range s.length)) : againL s R = R ↔ InOrd s R := by
  constructor
  · intro he
    refine ⟨hp, ?_⟩
    have h1 := again_pairs (s := s) R
    rw [he] at h1
    rw [List.pairwise_iff_forall_sublist] at h1 ⊢
    have h2 : ∀ m a b, s.length - a ≤ m → [a, b].Sublist R → ltE s a b := by
      intro m
      induction m with
      | zero =>
        intro a b hm hs
        have := (sub_two hp hs).1
        omega
      | succ m ih =>
        intro a b hm hs
        obtain ⟨ha, hb, hne⟩ := sub_two hp hs
        exact step_lt h8 hp ha hb hne (h1 hs) fun h => ih _ _ (by omega) h
    intro a b hs
    exact h2 _ a b (Nat.le_refl _) hs
  · intro ho
    refine InOrd.eq ⟨again_perm h8 hp, ?_⟩ ho
    have h1 := again_pairs (s := s) R
    rw [List.pairwise_iff_forall_sublist] at h1 ⊢
    intro a b hs
    obtain ⟨ha, hb, hne⟩ := sub_two (again_perm h8 hp) hs
    exact step_lt h8 hp ha hb hne (h1 hs) fun h => (List.pairwise_iff_forall_sublist.1 ho.2) h
theorem saB_again {s : List Int} (h8 : Bytes8 s) {R : List Nat} (hp : R.Perm (List.range s.length)) : saB s (natL R) = decide (natL (againL s R) = natL R) := by
  have h1 : saB s (natL R) = true ↔ natL (againL s R) = natL R := by
    constructor
    · intro h
      have h2 := saB_iff.1 h
      have h3 : R = sortE s := by rw [← toN_nat R, h2, toN_nat]
      rw [(again_iff h8 hp).2 (by rw [h3]; exact sortE_ord s)]
    · intro h
      have h3 : againL s R = R := by rw [← toN_nat (againL s R), h, toN_nat]
      exact saB_yes ((again_iff h8 hp).1 h3)
  cases h : saB s (natL R)
  · rw [eq_comm, decide_eq_false_iff_not, ← h1, h]
    exact Bool.false_ne_true
  · rw [eq_comm, decide_eq_true_iff, ← h1, h]
theorem saB_noperm {s a : List Int} (h : ordB a = false) : saB s a = false := by
  rw [Bool.eq_false_iff]
  intro e
  have h2 := saB_iff.1 e
  have := (sortE_ord s)
  rw [h2, ordB_nat (n := s.length) this.1] at h
  cases h
end Go.Proofs.Ytmojnliljaefbaa
