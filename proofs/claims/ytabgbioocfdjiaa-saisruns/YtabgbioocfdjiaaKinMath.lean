/- Small and large endings. Plain numbers, no conditions. -/
import Derived.Test.YtabgbioocfdjiaaRepMath
import Derived.Test.YtabgbioocfdjiaaCsMath
namespace Go.Proofs.Ytabgbioocfdjiaa
set_option linter.unusedVariables false
set_option linter.unusedSimpArgs false

/-- Is place i small: is its ending less than the next place's one? -/
def smB (s : List Int) (i : Nat) : Bool := decide (cmpI (s.drop i) (s.drop (i + 1)) < 0)

def smallI (s : List Int) : List Bool := (List.range s.length).map (smB s)

theorem smallI_len (s : List Int) : (smallI s).length = s.length := by simp [smallI]
theorem smallI_at {s : List Int} {i : Nat} (h : i < s.length) : (smallI s).getD i false = smB s i := by simp [smallI, List.getD, h]

theorem smB_lt {s : List Int} {i : Nat} (hi : i + 1 < s.length) (h : s.getD i 0 < s.getD (i + 1) 0) : smB s i = true := by
  unfold smB
  rw [drop_getD (show i < s.length by omega), drop_getD hi, cmpI, if_pos h]; rfl
theorem smB_gt {s : List Int} {i : Nat} (hi : i + 1 < s.length) (h : s.getD (i + 1) 0 < s.getD i 0) : smB s i = false := by
  unfold smB
  rw [drop_getD (show i < s.length by omega), drop_getD hi, cmpI, if_neg (by omega), if_pos h]; rfl
theorem smB_eq {s : List Int} {i : Nat} (hi : i + 1 < s.length) (h : s.getD i 0 = s.getD (i + 1) 0) : smB s i = smB s (i + 1) := by
  unfold smB
  rw [drop_getD (show i < s.length by omega), drop_getD hi, cmpI, if_neg (by omega), if_neg (by omega), ← drop_getD hi]
theorem smB_last {s : List Int} {i : Nat} (hi : s.length ≤ i + 1) : smB s i = false := by
  unfold smB
  rw [List.drop_of_length_le hi]
  by_cases h : i < s.length
  · rw [drop_getD h]; rfl
  · rw [List.drop_of_length_le (by omega)]; rfl
/-- A place by its number and the next one. -/
theorem smB_next {s : List Int} {i : Nat} (hi : i + 1 < s.length) : smB s i = (decide (s.getD i 0 < s.getD (i + 1) 0) || (decide (s.getD i 0 = s.getD (i + 1) 0) && smB s (i + 1))) := by
  rcases Int.lt_trichotomy (s.getD i 0) (s.getD (i + 1) 0) with h | h | h
  · rw [smB_lt hi h, decide_eq_true h]; rfl
  · rw [smB_eq hi h, decide_eq_false (by omega), decide_eq_true h]; rfl
  · rw [smB_gt hi h, decide_eq_false (by omega), decide_eq_false (by omega)]; rfl

/-- Does place i begin small ones? -/
def fsB (s : List Int) (i : Nat) : Bool := decide (1 ≤ i) && (smB s i && !smB s (i - 1))

/-- The places below k that begin small ones. -/
def firN (s : List Int) (k : Nat) : List Nat := (List.range k).filter (fsB s)
/-- The places that begin small ones. -/
def firstN (s : List Int) : List Nat := firN s s.length

theorem firN_zero (s : List Int) : firN s 0 = [] := rfl
theorem firN_one (s : List Int) : firN s 1 = [] := rfl
theorem firN_yes {s : List Int} {k : Nat} (h : fsB s k = true) : firN s (k + 1) = firN s k ++ [k] := by simp [firN, List.range_succ, h]
theorem firN_no {s : List Int} {k : Nat} (h : fsB s k = false) : firN s (k + 1) = firN s k := by simp [firN, List.range_succ, h]
theorem firN_len (s : List Int) (k : Nat) : (firN s k).length ≤ k := by
  have := List.length_filter_le (fsB s) (List.range k)
  rw [List.length_range] at this
  exact this
theorem firN_mem {s : List Int} {k i : Nat} : i ∈ firN s k ↔ i < k ∧ fsB s i = true := by simp [firN]
theorem natL_snoc (l : List Nat) (i : Nat) : natL l ++ [(i : Int)] = natL (l ++ [i]) := by simp [natL]

/-- What begins small ones is followed by none that does. -/
theorem fsB_apart {s : List Int} {i : Nat} (h : fsB s i = true) : fsB s (i + 1) = false := by
  unfold fsB at *
  simp only [Bool.and_eq_true, decide_eq_true_eq, Bool.not_eq_true'] at h
  rw [Nat.add_sub_cancel, h.2.1]
  simp
theorem firN_sorted (s : List Int) (k : Nat) : (firN s k).Pairwise (· < ·) := List.Pairwise.filter _ List.pairwise_lt_range
/-- Those that begin small ones are at most half as many. -/
theorem firN_half (s : List Int) : ∀ k, 2 * (firN s k).length ≤ k ∧ (fsB s k = true → 2 * (firN s (k + 1)).length ≤ k + 1) := by
  have key : ∀ k, (fsB s k = true → 2 * (firN s k).length + 1 ≤ k) ∧ 2 * (firN s k).length ≤ k + 1 - 1 := by
    intro k
    induction k with
    | zero => exact ⟨fun h => absurd h (by simp [fsB]), by simp [firN]⟩
    | succ k ih =>
      by_cases hk : fsB s k = true
      · have hn := fsB_apart hk
        have h1 := ih.1 hk
        rw [firN_yes hk, List.length_append]
        exact ⟨fun h => absurd (hn.symm.trans h) (by simp), by simp; omega⟩
      · have hk' : fsB s k = false := by simpa using hk
        rw [firN_no hk']
        have := ih.2
        exact ⟨fun _ => by omega, by omega⟩
  intro k
  refine ⟨by have := (key k).2; omega, fun h => by have := (key (k + 1)).2; omega⟩
theorem firstN_half (s : List Int) : 2 * (firstN s).length ≤ s.length := (firN_half s _).1
/-- Two of them lie two apart. -/
theorem firN_two {s : List Int} {k j : Nat} (hj : j + 1 < (firN s k).length) : (firN s k).getD j 0 + 2 ≤ (firN s k).getD (j + 1) 0 := by
  have h1 := List.pairwise_iff_getElem.1 (firN_sorted s k) j (j + 1) (by omega) hj (by omega)
  have m1 := (firN_mem (s := s) (k := k)).1 (List.getElem_mem (show j < (firN s k).length by omega))
  have m2 := (firN_mem (s := s) (k := k)).1 (List.getElem_mem hj)
  simp only [List.getD, List.getElem?_eq_getElem hj, List.getElem?_eq_getElem (show j < (firN s k).length by omega), Option.getD_some]
  generalize (firN s k)[j] = x at *
  generalize (firN s k)[j + 1] = y at *
  by_cases e : y = x + 1
  · rw [e, fsB_apart m1.2] at m2
    cases m2.2
  · omega
theorem firN_in {s : List Int} {k j : Nat} (hj : j < (firN s k).length) : 1 ≤ (firN s k).getD j 0 ∧ (firN s k).getD j 0 < k := by
  have m1 := (firN_mem (s := s) (k := k)).1 (List.getElem_mem hj)
  simp only [List.getD, List.getElem?_eq_getElem hj, Option.getD_some]
  refine ⟨?_, m1.1⟩
  have := m1.2
  unfold fsB at this
  simp only [Bool.and_eq_true, decide_eq_true_eq] at this
  exact this.1

/-- Numbers that rise: all but the last are small. -/
theorem smB_rise {s : List Int} (h : ∀ i, i + 1 < s.length → s.getD i 0 < s.getD (i + 1) 0) (i : Nat) : smB s i = decide (i + 1 < s.length) := by
  by_cases hi : i + 1 < s.length
  · rw [smB_lt hi (h i hi), decide_eq_true hi]
  · rw [smB_last (by omega), decide_eq_false hi]
/-- Numbers that fall: none is small. -/
theorem smB_fall {s : List Int} (h : ∀ i, i + 1 < s.length → s.getD (i + 1) 0 < s.getD i 0) (i : Nat) : smB s i = false := by
  by_cases hi : i + 1 < s.length
  · exact smB_gt hi (h i hi)
  · exact smB_last (by omega)
theorem firN_none {s : List Int} {k : Nat} (h : ∀ i, fsB s i = false) : firN s k = [] := by
  unfold firN
  rw [List.filter_eq_nil_iff]
  intro i _
  rw [h i]; simp
theorem fsB_rise {s : List Int} (h : ∀ i, i + 1 < s.length → s.getD i 0 < s.getD (i + 1) 0) (i : Nat) : fsB s i = false := by
  unfold fsB
  rw [smB_rise h, smB_rise h]
  by_cases h1 : 1 ≤ i
  · by_cases h2 : i + 1 < s.length
    · rw [decide_eq_true (p := i - 1 + 1 < s.length) (by omega)]; simp
    · rw [decide_eq_false h2]; simp
  · rw [decide_eq_false h1]; rfl
theorem fsB_fall {s : List Int} (h : ∀ i, i + 1 < s.length → s.getD (i + 1) 0 < s.getD i 0) (i : Nat) : fsB s i = false := by
  unfold fsB
  rw [smB_fall h]; simp
end Go.Proofs.Ytabgbioocfdjiaa
