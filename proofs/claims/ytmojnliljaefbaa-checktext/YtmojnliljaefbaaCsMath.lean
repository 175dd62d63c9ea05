/- Sorting by counting, and the order that it makes. Plain numbers, no conditions. -/
import Derived.Test.YtmojnliljaefbaaRepMath
namespace Go.Proofs.Ytmojnliljaefbaa
set_option linter.unusedVariables false
set_option linter.unusedSimpArgs false

/-- Natural numbers as Go's. -/
def natL (l : List Nat) : List Int := l.map fun (n : Nat) => (n : Int)
theorem natL_len (l : List Nat) : (natL l).length = l.length := List.length_map _
theorem natL_at (l : List Nat) (i : Nat) : (natL l).getD i 0 = ((l.getD i 0 : Nat) : Int) := by
  simp only [natL, List.getD_eq_getElem?_getD, List.getElem?_map]
  cases l[i]? <;> rfl
theorem natL_set (l : List Nat) (i x : Nat) : natL (l.set i x) = (natL l).set i (x : Int) := by simp [natL, List.map_set]
theorem natL_ext {l l' : List Nat} (hl : l.length = l'.length) (h : ∀ i, i < l.length → l.getD i 0 = l'.getD i 0) : l = l' := by
  refine List.ext_getElem hl fun k h1 h2 => ?_
  have := h k h1
  simpa [List.getD, List.getElem?_eq_getElem h1, List.getElem?_eq_getElem h2] using this
theorem set_same {l : List Nat} {i x : Nat} (h : i < l.length) : (l.set i x).getD i 0 = x := by simp [List.getD, h]
theorem set_other {l : List Nat} {i j x : Nat} (h : i ≠ j) : (l.set i x).getD j 0 = l.getD j 0 := by
  simp only [List.getD_eq_getElem?_getD]
  rw [List.getElem?_set_ne h]
theorem getN_mem {l : List Nat} {i : Nat} (h : i < l.length) : l.getD i 0 ∈ l := by
  rw [List.getD_eq_getElem?_getD, List.getElem?_eq_getElem h]
  exact List.getElem_mem h
theorem mem_getN {l : List Nat} {x : Nat} (h : x ∈ l) : ∃ i, i < l.length ∧ l.getD i 0 = x := by
  obtain ⟨i, hi, e⟩ := List.mem_iff_getElem.1 h
  exact ⟨i, hi, by rw [List.getD_eq_getElem?_getD, List.getElem?_eq_getElem hi]; exact e⟩
theorem takeN_succ {l : List Nat} {i : Nat} (h : i < l.length) : l.take (i + 1) = l.take i ++ [l.getD i 0] := by
  rw [List.take_add_one, List.getElem?_eq_getElem h, List.getD_eq_getElem?_getD, List.getElem?_eq_getElem h]
  rfl
theorem dropN_cons {l : List Nat} {i : Nat} (h : i < l.length) : l.drop i = l.getD i 0 :: l.drop (i + 1) := by
  rw [List.drop_eq_getElem_cons h, List.getD_eq_getElem?_getD, List.getElem?_eq_getElem h]
  rfl
theorem rangeN_at {n i : Nat} (h : i < n) : (List.range n).getD i 0 = i := by simp [List.getD, h]

/-- Those of one key, as they stand. -/
def pick (ps : List Nat) (key : Nat → Nat) (k : Nat) : List Nat := ps.filter fun p => key p == k
/-- Key by key. -/
def csort (K : Nat) (ps : List Nat) (key : Nat → Nat) : List Nat := (List.range K).flatMap (pick ps key)
/-- How many have a less key. -/
def offs (ps : List Nat) (key : Nat → Nat) (k : Nat) : Nat := (csort k ps key).length

theorem csort_succ (K : Nat) (ps : List Nat) (key : Nat → Nat) : csort (K + 1) ps key = csort K ps key ++ pick ps key K := by
  unfold csort
  rw [List.range_succ, List.flatMap_append]
  simp
theorem offs_succ (ps : List Nat) (key : Nat → Nat) (k : Nat) : offs ps key (k + 1) = offs ps key k + (pick ps key k).length := by
  unfold offs
  rw [csort_succ, List.length_append]
theorem offs_zero (ps : List Nat) (key : Nat → Nat) : offs ps key 0 = 0 := rfl
theorem offs_mono (ps : List Nat) (key : Nat → Nat) : ∀ {k l : Nat}, k ≤ l → offs ps key k ≤ offs ps key l := by
  intro k l h
  induction h with
  | refl => exact Nat.le_refl _
  | step _ ih => rw [offs_succ]; omega
theorem offs_in (ps : List Nat) (key : Nat → Nat) {k l t : Nat} (h : k < l) (ht : t < (pick ps key k).length) : offs ps key k + t < offs ps key l := by
  have := offs_mono ps key (show k + 1 ≤ l from h)
  rw [offs_succ] at this
  omega
/-- No two places of the keys' rows are one. -/
theorem offs_inj (ps : List Nat) (key : Nat → Nat) {k l t u : Nat} (ht : t < (pick ps key k).length) (hu : u < (pick ps key l).length) (h : offs ps key k + t = offs ps key l + u) : k = l ∧ t = u := by
  rcases Nat.lt_trichotomy k l with g | g | g
  · have := offs_in ps key g ht; omega
  · subst g; omega
  · have := offs_in ps key g hu; omega
theorem csort_at (ps : List Nat) (key : Nat → Nat) : ∀ {K k t : Nat}, k < K → t < (pick ps key k).length → (csort K ps key).getD (offs ps key k + t) 0 = (pick ps key k).getD t 0 := by
  intro K
  induction K with
  | zero => intro k t h _; omega
  | succ K ih =>
    intro k t hk ht
    rw [csort_succ]
    by_cases h : k < K
    · have hlt : offs ps key k + t < (csort K ps key).length := offs_in ps key h ht
      rw [← ih h ht]
      simp only [List.getD_eq_getElem?_getD]
      rw [List.getElem?_append_left hlt]
    · have e : k = K := by omega
      subst e
      simp only [List.getD_eq_getElem?_getD]
      rw [List.getElem?_append_right (by unfold offs; omega)]
      congr 2
      unfold offs; omega
theorem csort_split (ps : List Nat) (key : Nat → Nat) : ∀ {K j : Nat}, j < (csort K ps key).length → ∃ k t, k < K ∧ t < (pick ps key k).length ∧ j = offs ps key k + t := by
  intro K
  induction K with
  | zero => intro j h; simp [csort] at h
  | succ K ih =>
    intro j hj
    by_cases h : j < (csort K ps key).length
    · obtain ⟨k, t, h1, h2, h3⟩ := ih h
      exact ⟨k, t, by omega, h2, h3⟩
    · refine ⟨K, j - offs ps key K, by omega, ?_, by unfold offs; omega⟩
      rw [csort_succ, List.length_append] at hj
      unfold offs; omega
theorem csort_perm_lt (ps : List Nat) (key : Nat → Nat) : ∀ K, (csort K ps key).Perm (ps.filter fun p => decide (key p < K)) := by
  intro K
  induction K with
  | zero =>
    have : (ps.filter fun p => decide (key p < 0)) = [] := by rw [List.filter_eq_nil_iff]; intro a _; simp
    rw [this]
    exact List.Perm.refl _
  | succ K ih =>
    rw [csort_succ]
    have h := List.filter_append_perm (fun p => decide (key p < K)) (ps.filter fun p => decide (key p < K + 1))
    rw [List.filter_filter, List.filter_filter] at h
    have e1 : (ps.filter fun a => decide (key a < K) && decide (key a < K + 1)) = ps.filter fun p => decide (key p < K) := by
      congr 1; funext a; rw [Bool.eq_iff_iff]; simp; omega
    have e2 : (ps.filter fun a => !decide (key a < K) && decide (key a < K + 1)) = pick ps key K := by
      unfold pick; congr 1; funext a; rw [Bool.eq_iff_iff]; simp; omega
    rw [e1, e2] at h
    exact (ih.append_right _).trans h
theorem csort_perm {K : Nat} {ps : List Nat} {key : Nat → Nat} (h : ∀ p ∈ ps, key p < K) : (csort K ps key).Perm ps := by
  have := csort_perm_lt ps key K
  have e : (ps.filter fun p => decide (key p < K)) = ps := by
    rw [List.filter_eq_self]; intro a ha; simpa using h a ha
  rwa [e] at this
theorem csort_len {K : Nat} {ps : List Nat} {key : Nat → Nat} (h : ∀ p ∈ ps, key p < K) : offs ps key K = ps.length := (csort_perm h).length_eq
/-- By key; those of one key as they stood. -/
theorem csort_sorted (K : Nat) {ps : List Nat} (key : Nat → Nat) {Q : Nat → Nat → Prop} (h : ps.Pairwise Q) : (csort K ps key).Pairwise fun p q => key p < key q ∨ (key p = key q ∧ Q p q) := by
  unfold csort
  rw [List.pairwise_flatMap]
  have hk : ∀ {k p}, p ∈ pick ps key k → key p = k := fun hp => by
    have := (List.mem_filter.1 hp).2
    simpa using this
  constructor
  · intro k _
    refine (List.Pairwise.imp_of_mem ?_ (h.filter (p := fun p => key p == k)))
    intro a b ha hb hq
    exact .inr ⟨(hk ha).trans (hk hb).symm, hq⟩
  · refine List.pairwise_lt_range.imp ?_
    intro a b hab x hx y hy
    rw [hk hx, hk hy]
    exact .inl hab

/-- How many of the first i have key k. -/
def cntN (ks : List Nat) (i k : Nat) : Nat := (pick (List.range i) (fun p => ks.getD p 0) k).length
theorem cntN_zero (ks : List Nat) (k : Nat) : cntN ks 0 k = 0 := rfl
theorem cntN_same {ks : List Nat} {i k : Nat} (h : ks.getD i 0 = k) : cntN ks (i + 1) k = cntN ks i k + 1 := by
  unfold cntN pick
  rw [List.range_succ, List.filter_append, List.length_append, List.filter_cons_of_pos (by simpa using h)]
  rfl
theorem cntN_other {ks : List Nat} {i k : Nat} (h : ks.getD i 0 ≠ k) : cntN ks (i + 1) k = cntN ks i k := by
  unfold cntN pick
  rw [List.range_succ, List.filter_append, List.length_append]
  have : ([i].filter fun p => ks.getD p 0 == k) = [] := by
    rw [List.filter_eq_nil_iff]; intro a ha; simp only [List.mem_singleton] at ha; subst ha; simpa using h
  rw [this]; rfl
theorem cntN_all {ks ps : List Nat} {n : Nat} (h : ps.Perm (List.range n)) (k : Nat) : cntN ks n k = (pick ps (fun p => ks.getD p 0) k).length := ((h.filter _).length_eq).symm

theorem pick_snoc_same {ps : List Nat} {key : Nat → Nat} {p k : Nat} (h : key p = k) : pick (ps ++ [p]) key k = pick ps key k ++ [p] := by
  unfold pick
  rw [List.filter_append]
  congr 1
  simp [h]
theorem pick_snoc_other {ps : List Nat} {key : Nat → Nat} {p k : Nat} (h : key p ≠ k) : pick (ps ++ [p]) key k = pick ps key k := by
  unfold pick
  rw [List.filter_append]
  have : ([p].filter fun q => key q == k) = [] := by
    rw [List.filter_eq_nil_iff]; intro a ha; simp only [List.mem_singleton] at ha; subst ha; simpa using h
  rw [this, List.append_nil]
theorem pick_split (ps : List Nat) (key : Nat → Nat) (i k : Nat) : pick ps key k = pick (ps.take i) key k ++ pick (ps.drop i) key k := by
  unfold pick
  rw [← List.filter_append, List.take_append_drop]
theorem pick_le (ps : List Nat) (key : Nat → Nat) (i k : Nat) : (pick (ps.take i) key k).length ≤ (pick ps key k).length := by
  rw [pick_split ps key i k, List.length_append]; omega
/-- The next of a key's row. -/
theorem pick_next {ps : List Nat} {key : Nat → Nat} {i : Nat} (hi : i < ps.length) : (pick (ps.take i) key (key (ps.getD i 0))).length < (pick ps key (key (ps.getD i 0))).length ∧
    (pick ps key (key (ps.getD i 0))).getD (pick (ps.take i) key (key (ps.getD i 0))).length 0 = ps.getD i 0 := by
  have e : pick (ps.drop i) key (key (ps.getD i 0)) = ps.getD i 0 :: pick (ps.drop (i + 1)) key (key (ps.getD i 0)) := by
    rw [dropN_cons hi]
    unfold pick
    rw [List.filter_cons_of_pos (by simp)]
  have e2 := pick_split ps key i (key (ps.getD i 0))
  rw [e] at e2
  constructor
  · rw [e2, List.length_append, List.length_cons]; omega
  · conv => lhs; rw [e2]
    simp only [List.getD_eq_getElem?_getD]
    rw [List.getElem?_append_right (Nat.le_refl _)]
    simp

/-- What the last loop of the sort keeps. -/
def Fill (ps : List Nat) (key : Nat → Nat) (K i : Nat) (fr row : List Nat) : Prop :=
  (∀ k, k < K → fr.getD k 0 = offs ps key k + (pick (ps.take i) key k).length) ∧
  ∀ k t, k < K → t < (pick (ps.take i) key k).length → row.getD (offs ps key k + t) 0 = (pick ps key k).getD t 0

theorem Fill.start {ps : List Nat} {key : Nat → Nat} {K : Nat} {fr row : List Nat} (h : ∀ k, k < K → fr.getD k 0 = offs ps key k) : Fill ps key K 0 fr row :=
  ⟨fun k hk => by rw [h k hk]; simp [pick], fun k t _ ht => by simp [pick] at ht⟩
theorem Fill.at {ps : List Nat} {key : Nat → Nat} {K i : Nat} {fr row : List Nat} (h : Fill ps key K i fr row) (hK : ∀ p ∈ ps, key p < K) (hi : i < ps.length) : fr.getD (key (ps.getD i 0)) 0 < ps.length := by
  have hk := hK _ (getN_mem hi)
  rw [h.1 _ hk, ← csort_len hK]
  exact offs_in ps key hk (pick_next hi).1
theorem Fill.next {ps : List Nat} {key : Nat → Nat} {K i : Nat} {fr row : List Nat} (h : Fill ps key K i fr row) (hK : ∀ p ∈ ps, key p < K) (hi : i < ps.length) (hr : row.length = ps.length) (hf : K ≤ fr.length) :
    Fill ps key K (i + 1) (fr.set (key (ps.getD i 0)) (fr.getD (key (ps.getD i 0)) 0 + 1)) (row.set (fr.getD (key (ps.getD i 0)) 0) (ps.getD i 0)) := by
  have hk := hK _ (getN_mem hi)
  have hat := h.at hK hi
  obtain ⟨n1, n2⟩ := pick_next (key := key) hi
  generalize hp : ps.getD i 0 = p at *
  have hs : ∀ k, key p = k → pick (ps.take (i + 1)) key k = pick (ps.take i) key k ++ [p] := fun k e => by rw [takeN_succ hi, hp, pick_snoc_same e]
  have ho : ∀ k, key p ≠ k → pick (ps.take (i + 1)) key k = pick (ps.take i) key k := fun k e => by rw [takeN_succ hi, hp, pick_snoc_other e]
  constructor
  · intro k hk2
    by_cases e : key p = k
    · rw [hs k e, ← e, set_same (by omega), h.1 _ hk, List.length_append]
      simp; omega
    · rw [ho k e, set_other e, h.1 k hk2]
  · intro k t hk2 ht
    by_cases e : key p = k
    · rw [hs k e, List.length_append] at ht
      simp at ht
      by_cases et : t = (pick (ps.take i) key k).length
      · have : offs ps key k + t = fr.getD (key p) 0 := by rw [h.1 _ hk, e, et]
        rw [this, set_same (by omega), et, ← e, n2]
      · rw [set_other ?_]
        · exact h.2 k t hk2 (by omega)
        · rw [h.1 _ hk]
          intro e2
          have := offs_inj ps key (k := key p) (l := k) n1 (by have := pick_le ps key i k; omega) e2
          rw [e] at this
          omega
    · rw [ho k e] at ht
      rw [set_other ?_]
      · exact h.2 k t hk2 ht
      · rw [h.1 _ hk]
        intro e2
        exact e (offs_inj ps key (k := key p) (l := k) n1 (by have := pick_le ps key i k; omega) e2).1
theorem Fill.done {ps : List Nat} {key : Nat → Nat} {K : Nat} {fr row : List Nat} (h : Fill ps key K ps.length fr row) (hK : ∀ p ∈ ps, key p < K) (hr : row.length = ps.length) : row = csort K ps key := by
  have hl : (csort K ps key).length = ps.length := csort_len hK
  refine natL_ext (by omega) fun j hj => ?_
  obtain ⟨k, t, h1, h2, rfl⟩ := csort_split ps key (K := K) (j := j) (by omega)
  rw [csort_at ps key h1 h2, h.2 k t h1 (by rwa [List.take_length])]
theorem nodup_getN {l : List Nat} (h : l.Nodup) {i j : Nat} (hi : i < l.length) (hj : j < l.length) (e : l.getD i 0 = l.getD j 0) : i = j := by
  rw [List.getD_eq_getElem?_getD, List.getD_eq_getElem?_getD, List.getElem?_eq_getElem hi, List.getElem?_eq_getElem hj] at e
  exact (List.getElem_inj h).1 e
theorem natL_snoc (l : List Nat) (i : Nat) : natL l ++ [(i : Int)] = natL (l ++ [i]) := by simp [natL]
end Go.Proofs.Ytmojnliljaefbaa
