/- Ranks by counting; a row's numbers in order, of like ones as they stand. Plain numbers, no conditions. -/
import Derived.Test.YtmojnliljaefbaaPermMath
namespace Go.Proofs.Ytmojnliljaefbaa
set_option linter.unusedVariables false
set_option linter.unusedSimpArgs false

theorem nodup_permN {l : List Nat} : ∀ {l' : List Nat}, l.Nodup → (∀ x ∈ l, x ∈ l') → l'.length ≤ l.length → l.Perm l' := by
  induction l with
  | nil => intro l' _ _ h; rw [List.length_eq_zero_iff.1 (Nat.le_zero.1 h)]
  | cons a l ih =>
    intro l' hn hs hl
    rw [List.nodup_cons] at hn
    have ha := hs a List.mem_cons_self
    have h2 := List.length_erase_of_mem ha
    rw [List.length_cons] at hl
    have h1 := ih (l' := l'.erase a) hn.2 (fun x hx => by
      have hne : x ≠ a := fun e => hn.1 (e ▸ hx)
      exact (List.mem_erase_of_ne hne).2 (hs x (List.mem_cons_of_mem _ hx))) (by omega)
    exact (List.Perm.cons a h1).trans (List.perm_cons_erase ha).symm
theorem inj_permN {f : Nat → Nat} {n : Nat} (h : ∀ i, i < n → f i < n) (hi : ∀ i j, i < n → j < n → f i = f j → i = j) : ((List.range n).map f).Perm (List.range n) := by
  refine nodup_permN ?_ (fun x hx => ?_) (by simp)
  · rw [List.Nodup, List.pairwise_map]
    refine List.Pairwise.imp_of_mem ?_ List.nodup_range
    intro a b ha hb hab e
    exact hab (hi a b (List.mem_range.1 ha) (List.mem_range.1 hb) e)
  · obtain ⟨a, ha, rfl⟩ := List.mem_map.1 hx
    exact List.mem_range.2 (h a (List.mem_range.1 ha))

/-- How many there are ahead tells the place. -/
theorem rank_at {R : Nat → Nat → Bool} {S : List Nat} {n i : Nat} (hp : S.Perm (List.range n)) (hs : S.Pairwise fun a b => R a b = true) (hirr : ∀ a, R a a = false) (hasym : ∀ a b, R a b = true → R b a = false) (hi : i < n) :
    ((List.range n).filter fun j => R j (S.getD i 0)).length = i := by
  have hl : S.length = n := by rw [hp.length_eq, List.length_range]
  rw [← (hp.filter _).length_eq]
  have e : S.filter (fun j => R j (S.getD i 0)) = (S.take i).filter (fun j => R j (S.getD i 0)) ++ (S.drop i).filter (fun j => R j (S.getD i 0)) := by rw [← List.filter_append, List.take_append_drop]
  rw [e]
  have e1 : (S.take i).filter (fun j => R j (S.getD i 0)) = S.take i := by
    rw [List.filter_eq_self]
    intro a ha
    obtain ⟨q, hq, rfl⟩ := mem_getN ha
    rw [List.length_take] at hq
    have e2 : (S.take i).getD q 0 = S.getD q 0 := by
      simp only [List.getD_eq_getElem?_getD, List.getElem?_take]
      rw [if_pos (by omega)]
    rw [e2]
    exact pairN_at hs (show q < i by omega) (by omega)
  have e2 : (S.drop i).filter (fun j => R j (S.getD i 0)) = [] := by
    rw [List.filter_eq_nil_iff]
    intro a ha
    obtain ⟨q, hq, rfl⟩ := mem_getN ha
    rw [List.length_drop] at hq
    have e2 : (S.drop i).getD q 0 = S.getD (i + q) 0 := by simp only [List.getD_eq_getElem?_getD, List.getElem?_drop]
    rw [e2]
    by_cases h0 : q = 0
    · subst h0
      rw [Nat.add_zero, hirr]
      decide
    · rw [hasym _ _ (pairN_at hs (show i < i + q by omega) (by omega))]
      decide
  rw [e1, e2, List.append_nil, List.length_take]
  omega

/-- Less; of like ones the one ahead. -/
abbrev Lt1 (l : List Int) (a b : Nat) : Prop := l.getD a 0 < l.getD b 0 ∨ (l.getD a 0 = l.getD b 0 ∧ a < b)
theorem Lt1.irr {l : List Int} {a : Nat} : ¬ Lt1 l a a := by unfold Lt1; omega
theorem Lt1.asymm {l : List Int} {a b : Nat} (h : Lt1 l a b) : ¬ Lt1 l b a := by unfold Lt1 at *; omega
theorem Lt1.trans {l : List Int} {a b c : Nat} (h : Lt1 l a b) (k : Lt1 l b c) : Lt1 l a c := by unfold Lt1 at *; omega
theorem Lt1.total {l : List Int} {a b : Nat} (h : a ≠ b) : Lt1 l a b ∨ Lt1 l b a := by unfold Lt1; omega
/-- How many are less, or like it and ahead of it. -/
def rkN (l : List Int) (k : Nat) : Nat := ((List.range l.length).filter fun j => decide (Lt1 l j k)).length
def lfN (l : List Int) : List Nat := (List.range l.length).map (rkN l)
theorem lfN_len (l : List Int) : (lfN l).length = l.length := by simp [lfN]
theorem lfN_at {l : List Int} {k : Nat} (h : k < l.length) : (lfN l).getD k 0 = rkN l k := mapI_at _ _ h
/-- All places, in order of their numbers. -/
def stN (l : List Int) : List Nat := (List.range l.length).mergeSort fun a b => decide (¬ Lt1 l b a)
theorem stN_perm (l : List Int) : (stN l).Perm (List.range l.length) := List.mergeSort_perm _ _
theorem stN_len (l : List Int) : (stN l).length = l.length := by rw [(stN_perm l).length_eq, List.length_range]
theorem stN_sorted (l : List Int) : (stN l).Pairwise (Lt1 l) := by
  have h := List.pairwise_mergeSort (le := fun a b => decide (¬ Lt1 l b a)) (fun a b c h1 h2 => by
    simp only [decide_eq_true_eq] at *
    unfold Lt1 at *
    omega) (fun a b => by
    simp only [Bool.or_eq_true, decide_eq_true_eq]
    by_cases h : Lt1 l b a
    · exact .inr (fun k => h.asymm k)
    · exact .inl h) (List.range l.length)
  have hn : (stN l).Nodup := (stN_perm l).nodup_iff.2 List.nodup_range
  have h2 : (stN l).Pairwise fun a b => a ≠ b ∧ (decide (¬ Lt1 l b a)) = true := hn.and h
  refine h2.imp fun ⟨h3, h4⟩ => ?_
  simp only [decide_eq_true_eq] at h4
  exact (Lt1.total h3).resolve_right h4
theorem stN_lt {l : List Int} {i : Nat} (h : i < l.length) : (stN l).getD i 0 < l.length := List.mem_range.1 ((stN_perm l).mem_iff.1 (getN_mem (by rw [stN_len]; exact h)))
theorem rk_st {l : List Int} {i : Nat} (h : i < l.length) : rkN l ((stN l).getD i 0) = i :=
  rank_at (R := fun a b => decide (Lt1 l a b)) (stN_perm l) ((stN_sorted l).imp fun h => decide_eq_true h) (fun a => decide_eq_false Lt1.irr) (fun a b h => decide_eq_false (of_decide_eq_true h).asymm) h
theorem st_on {l : List Int} {k : Nat} (h : k < l.length) : ∃ i, i < l.length ∧ (stN l).getD i 0 = k := by
  obtain ⟨i, hi, e⟩ := mem_getN ((stN_perm l).mem_iff.2 (List.mem_range.2 h))
  exact ⟨i, by rw [stN_len] at hi; exact hi, e⟩
theorem rk_lt {l : List Int} {k : Nat} (h : k < l.length) : rkN l k < l.length := by
  obtain ⟨i, hi, rfl⟩ := st_on h
  rw [rk_st hi]
  exact hi
theorem st_rk {l : List Int} {k : Nat} (h : k < l.length) : (stN l).getD (rkN l k) 0 = k := by
  obtain ⟨i, hi, rfl⟩ := st_on h
  rw [rk_st hi]
theorem rk_iff {l : List Int} {j k : Nat} (hj : j < l.length) (hk : k < l.length) : rkN l j < rkN l k ↔ Lt1 l j k := by
  obtain ⟨i, hi, rfl⟩ := st_on hj
  obtain ⟨m, hm, rfl⟩ := st_on hk
  rw [rk_st hi, rk_st hm]
  constructor
  · intro h
    exact pairN_at (stN_sorted l) h (by rw [stN_len]; exact hm)
  · intro h
    rcases Nat.lt_trichotomy i m with g | g | g
    · exact g
    · subst g; exact absurd h Lt1.irr
    · exact absurd (pairN_at (stN_sorted l) g (by rw [stN_len]; exact hi)) h.asymm
theorem rk_inj {l : List Int} {j k : Nat} (hj : j < l.length) (hk : k < l.length) (h : rkN l j = rkN l k) : j = k := by
  rw [← st_rk hj, h, st_rk hk]
theorem lfN_perm (l : List Int) : (lfN l).Perm (List.range l.length) := inj_permN (fun _ h => rk_lt h) (fun _ _ h k e => rk_inj h k e)
end Go.Proofs.Ytmojnliljaefbaa
