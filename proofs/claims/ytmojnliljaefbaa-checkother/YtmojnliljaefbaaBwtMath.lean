/- What stands ahead of a text's endings, in order, and the text out of it. Plain numbers, no conditions. -/
import Derived.Test.YtmojnliljaefbaaOrdMore
import Derived.Test.YtmojnliljaefbaaRankMath
namespace Go.Proofs.Ytmojnliljaefbaa
set_option linter.unusedVariables false
set_option linter.unusedSimpArgs false

/-- The rows that have a byte ahead of them. -/
def aheadN (n : Nat) (A : List Nat) : List Nat := (n :: A).filter fun p => decide (p ≠ 0)
/-- What stands ahead of the endings. -/
def bwL (s : List Int) (A : List Nat) : List Int := (aheadN s.length A).map fun p => s.getD (p - 1) 0
/-- Which row the whole text is. -/
def bwAt (s : List Int) (A : List Nat) : Nat := (s.length :: A).idxOf 0

theorem ends_mem {n x : Nat} {A : List Nat} (hA : A.Perm (List.range n)) : x ∈ n :: A ↔ x ≤ n := by
  rw [List.mem_cons, hA.mem_iff, List.mem_range]
  omega
theorem ends_nodup {n : Nat} {A : List Nat} (hA : A.Perm (List.range n)) : (n :: A).Nodup := by
  rw [List.nodup_cons]
  exact ⟨fun h => by have := List.mem_range.1 (hA.mem_iff.1 h); omega, hA.nodup_iff.2 List.nodup_range⟩
theorem ends_len {n : Nat} {A : List Nat} (hA : A.Perm (List.range n)) : (n :: A).length = n + 1 := by
  rw [List.length_cons, hA.length_eq, List.length_range]
theorem ends_le {n : Nat} {A : List Nat} (hA : A.Perm (List.range n)) {r : Nat} (hr : r ≤ n) : (n :: A).getD r 0 ≤ n := (ends_mem hA).1 (getN_mem (by rw [ends_len hA]; omega))
theorem at_le {n : Nat} {A : List Nat} (hA : A.Perm (List.range n)) : (n :: A).idxOf 0 ≤ n := by
  have := List.idxOf_lt_length_of_mem ((ends_mem hA).2 (Nat.zero_le n))
  rw [ends_len hA] at this
  omega
theorem at_is {n : Nat} {A : List Nat} (hA : A.Perm (List.range n)) {r : Nat} (hr : r ≤ n) : (n :: A).getD r 0 = 0 ↔ r = (n :: A).idxOf 0 := by
  have h1 := at_le hA
  have h2 : (n :: A).getD ((n :: A).idxOf 0) 0 = 0 := by
    rw [List.getD_eq_getElem?_getD, List.getElem?_eq_getElem (by rw [ends_len hA]; omega)]
    exact List.getElem_idxOf _
  constructor
  · intro h
    exact nodup_getN (ends_nodup hA) (by rw [ends_len hA]; omega) (by rw [ends_len hA]; omega) (by rw [h, h2])
  · intro h
    rw [h, h2]
theorem ahead_erase {n : Nat} {A : List Nat} (hA : A.Perm (List.range n)) : aheadN n A = (n :: A).eraseIdx ((n :: A).idxOf 0) := by
  unfold aheadN
  have h1 := (ends_nodup hA).erase_eq_filter 0
  have h2 : (n :: A).filter (fun p => decide (p ≠ 0)) = (n :: A).filter (· != 0) := List.filter_congr fun x _ => by
    by_cases h : x = 0 <;> simp [h]
  rw [h2, ← h1]
  exact List.erase_eq_eraseIdx_of_idxOf rfl
theorem ahead_len {n : Nat} {A : List Nat} (hA : A.Perm (List.range n)) : (aheadN n A).length = n := by
  rw [ahead_erase hA, List.length_eraseIdx_of_lt (by have := at_le hA; rw [ends_len hA]; omega), ends_len hA]
  omega
/-- Which row such a one is. -/
def rowOf (at' k : Nat) : Nat := if k < at' then k else k + 1
theorem ahead_at {n : Nat} {A : List Nat} (hA : A.Perm (List.range n)) (k : Nat) : (aheadN n A).getD k 0 = (n :: A).getD (rowOf ((n :: A).idxOf 0) k) 0 := by
  rw [ahead_erase hA]
  simp only [List.getD_eq_getElem?_getD, List.getElem?_eraseIdx, rowOf]
  split <;> rfl
theorem ahead_pos {n : Nat} {A : List Nat} (hA : A.Perm (List.range n)) {k : Nat} (hk : k < n) : 1 ≤ (aheadN n A).getD k 0 ∧ (aheadN n A).getD k 0 ≤ n := by
  have hm := getN_mem (l := aheadN n A) (i := k) (by rw [ahead_len hA]; exact hk)
  unfold aheadN at hm ⊢
  rw [List.mem_filter] at hm
  have h1 := (ends_mem hA).1 hm.1
  have h2 := of_decide_eq_true hm.2
  omega
theorem ahead_perm {n : Nat} {A : List Nat} (hA : A.Perm (List.range n)) : ((List.range n).map fun j => (aheadN n A).getD j 0 - 1).Perm (List.range n) := by
  have hn : (aheadN n A).Nodup := List.Pairwise.sublist List.filter_sublist (ends_nodup hA)
  refine inj_permN (fun j hj => ?_) (fun i j hi hj e => ?_)
  · have := ahead_pos hA hj
    omega
  · have h1 := ahead_pos hA hi
    have h2 := ahead_pos hA hj
    exact nodup_getN hn (by rw [ahead_len hA]; exact hi) (by rw [ahead_len hA]; exact hj) (by omega)
theorem bw_len {s : List Int} {A : List Nat} (hA : A.Perm (List.range s.length)) : (bwL s A).length = s.length := by
  unfold bwL
  rw [List.length_map, ahead_len hA]
theorem bw_at {s : List Int} {A : List Nat} (hA : A.Perm (List.range s.length)) {k : Nat} (hk : k < s.length) : (bwL s A).getD k 0 = s.getD ((aheadN s.length A).getD k 0 - 1) 0 := by
  have h : k < (aheadN s.length A).length := by rw [ahead_len hA]; exact hk
  simp [bwL, List.getD, List.getElem?_eq_getElem h]

def ltD (s : List Int) (a b : Nat) : Bool := decide (cmpI (s.drop a) (s.drop b) < 0)
theorem ltD_iff {s : List Int} {a b : Nat} : ltD s a b = true ↔ ltE s a b := decide_eq_true_iff
theorem ltE_asymm {s : List Int} {a b : Nat} (h : ltE s a b) (k : ltE s b a) : False := ltE_irrefl (ltE_trans h k)
theorem ahead_sorted {s : List Int} {A : List Nat} (h : InOrd s A) : (aheadN s.length A).Pairwise (ltE s) := by
  refine List.Pairwise.sublist List.filter_sublist (List.pairwise_cons.2 ⟨fun b hb => ?_, h.2⟩)
  exact ltE_end (Nat.le_refl _) (List.mem_range.1 (h.1.mem_iff.1 hb))
/-- From the last letters to the first: a step back in the text. -/
theorem bw_step {s : List Int} {A : List Nat} (h : InOrd s A) {k i : Nat} (hk : k < s.length) (hF : (aheadN s.length A).getD k 0 = i + 1) : rkN (bwL s A) k < s.length ∧ A.getD (rkN (bwL s A) k) 0 = i := by
  have hA := h.1
  have hi : i < s.length := by have := ahead_pos hA hk; omega
  have hS := ahead_sorted h
  have hFl := ahead_len hA
  have key : ∀ j, j < s.length → (Lt1 (bwL s A) j k ↔ ltE s ((aheadN s.length A).getD j 0 - 1) i) := fun j hj => by
    have hp := ahead_pos hA hj
    obtain ⟨p, hp1⟩ : ∃ p, (aheadN s.length A).getD j 0 = p + 1 := ⟨(aheadN s.length A).getD j 0 - 1, by omega⟩
    have hjk : j < k ↔ ltE s (p + 1) (i + 1) := by
      rw [← hp1, ← hF]
      constructor
      · intro g
        exact pairN_at hS g (by rw [hFl]; exact hk)
      · intro g
        rcases Nat.lt_trichotomy j k with g2 | g2 | g2
        · exact g2
        · subst g2; exact absurd g ltE_irrefl
        · exact (ltE_asymm g (pairN_at hS g2 (by rw [hFl]; exact hj))).elim
    unfold Lt1
    rw [bw_at hA hj, bw_at hA hk, hp1, hF, hjk]
    simp only [Nat.add_sub_cancel]
    rcases Int.lt_trichotomy (s.getD p 0) (s.getD i 0) with g | g | g
    · exact ⟨fun _ => ltE_less (by omega) hi g, fun _ => .inl g⟩
    · rw [← ltE_same (by omega) hi g]
      constructor
      · rintro (g2 | g2)
        · omega
        · exact g2.2
      · exact fun g2 => .inr ⟨g, g2⟩
    · constructor
      · rintro (g2 | g2) <;> omega
      · intro g2
        exact (ltE_asymm g2 (ltE_less hi (by omega) g)).elim
  obtain ⟨m, hm, em⟩ := mem_getN (hA.mem_iff.2 (List.mem_range.2 hi))
  rw [h.len] at hm
  have hr : rkN (bwL s A) k = m := by
    unfold rkN
    rw [bw_len hA]
    have e1 : (List.range s.length).filter (fun j => decide (Lt1 (bwL s A) j k)) = (List.range s.length).filter ((fun p => decide (cmpI (s.drop p) (s.drop i) < 0)) ∘ fun j => (aheadN s.length A).getD j 0 - 1) :=
      List.filter_congr fun j hj => by
        rw [Function.comp, Bool.eq_iff_iff, decide_eq_true_eq, decide_eq_true_eq]
        exact key j (List.mem_range.1 hj)
    have e2 := congrArg List.length (List.filter_map (f := fun j => (aheadN s.length A).getD j 0 - 1) (p := fun p => decide (cmpI (s.drop p) (s.drop i) < 0)) (l := List.range s.length))
    rw [List.length_map] at e2
    rw [e1, ← e2, ((ahead_perm hA).filter _).length_eq]
    have := rank_at (R := ltD s) hA (h.2.imp fun g => ltD_iff.2 g) (fun a => Bool.eq_false_iff.2 fun g => ltE_irrefl (ltD_iff.1 g)) (fun a b g => Bool.eq_false_iff.2 fun k => ltE_asymm (ltD_iff.1 g) (ltD_iff.1 k)) hm
    rw [em] at this
    exact this
  rw [hr]
  exact ⟨hm, em⟩

/-- Which of the bytes a row has ahead of it. -/
def byteOf (at' row : Nat) : Nat := if at' < row then row - 1 else row
theorem row_byte {at' row : Nat} (h : row ≠ at') : rowOf at' (byteOf at' row) = row := by
  unfold rowOf byteOf
  split <;> split <;> omega
/-- Letter by letter from the end. -/
def bkGo (l : List Int) (at' : Nat) : Nat → Nat → List Int → Option (List Int)
  | 0, _, out => some out
  | i + 1, row, out => if row = at' then none else bkGo l at' i (rkN l (byteOf at' row) + 1) (l.getD (byteOf at' row) 0 :: out)
theorem byte_lt {n at' row : Nat} (hr : row ≤ n) (ha : at' ≤ n) (hne : row ≠ at') : byteOf at' row < n := by
  unfold byteOf
  split <;> omega
theorem bkGo_text {s : List Int} {A : List Nat} (h : InOrd s A) : ∀ (i row : Nat), row ≤ s.length → (s.length :: A).getD row 0 = i → bkGo (bwL s A) (bwAt s A) i row (s.drop i) = some s := by
  intro i
  induction i with
  | zero => intro row _ _; rw [bkGo, List.drop_zero]
  | succ i ih =>
    intro row hr he
    have hA := h.1
    have hne : row ≠ bwAt s A := fun e => by
      have := (at_is hA hr).2 e
      omega
    have hk : byteOf (bwAt s A) row < s.length := byte_lt hr (at_le hA) hne
    have hF : (aheadN s.length A).getD (byteOf (bwAt s A) row) 0 = i + 1 := by
      rw [ahead_at hA]
      show (s.length :: A).getD (rowOf (bwAt s A) (byteOf (bwAt s A) row)) 0 = i + 1
      rw [row_byte hne, he]
    obtain ⟨h1, h2⟩ := bw_step h hk hF
    have hi : i < s.length := by have := ends_le hA hr; omega
    rw [bkGo, if_neg hne, bw_at hA hk, hF, Nat.add_sub_cancel, ← drop_getD hi]
    exact ih _ (by omega) h2

/-- All places in order of endings. -/
def sortE (s : List Int) : List Nat := (List.range s.length).mergeSort fun a b => decide (¬ cmpI (s.drop b) (s.drop a) < 0)
theorem sortE_ord (s : List Int) : InOrd s (sortE s) := by
  have hp : (sortE s).Perm (List.range s.length) := List.mergeSort_perm _ _
  have h := List.pairwise_mergeSort (le := fun a b => decide (¬ cmpI (s.drop b) (s.drop a) < 0)) (fun a b c h1 h2 => by
    simp only [decide_eq_true_eq] at *
    rw [cmpI_swap] at h1 h2 ⊢
    have := cmpI_trans (s.drop a) (s.drop b) (s.drop c) (by omega) (by omega)
    omega) (fun a b => by
    simp only [Bool.or_eq_true, decide_eq_true_eq]
    rw [cmpI_swap (s.drop a) (s.drop b)]
    omega) (List.range s.length)
  refine ⟨hp, ?_⟩
  have hn : (sortE s).Nodup := hp.nodup_iff.2 List.nodup_range
  have h2 : (sortE s).Pairwise fun a b => a ≠ b ∧ (decide (¬ cmpI (s.drop b) (s.drop a) < 0)) = true := hn.and h
  refine h2.imp_of_mem fun {a b} ha hb ⟨h3, h4⟩ => ?_
  simp only [decide_eq_true_eq] at h4
  have g1 := List.mem_range.1 (hp.mem_iff.1 ha)
  have g2 := List.mem_range.1 (hp.mem_iff.1 hb)
  by_cases g : ltE s a b
  · exact g
  · exact absurd (ltE_total (by omega) (by omega) h3 g) h4
/-- A text turned: its bytes, and which row it is. -/
def turnB (s : List Int) : List Int × Int := (bwL s (sortE s), (bwAt s (sortE s) : Int))
theorem turnB_eq {s : List Int} {A : List Nat} (h : InOrd s A) : turnB s = (bwL s A, (bwAt s A : Int)) := by
  unfold turnB
  rw [(sortE_ord s).eq h]
theorem turnB_len (s : List Int) : (turnB s).1.length = s.length := bw_len (sortE_ord s).1
def rowMayB (l : List Int) (at' : Int) : Bool := decide (0 ≤ at' ∧ at' ≤ l.length ∧ (l.length = 0 ∨ at' ≠ 0))
theorem turnB_may (s : List Int) : rowMayB (turnB s).1 (turnB s).2 = true := by
  unfold rowMayB
  have h := sortE_ord s
  have h1 := at_le h.1
  rw [turnB_len]
  refine decide_eq_true ⟨by unfold turnB; omega, by unfold turnB bwAt; omega, ?_⟩
  by_cases h0 : s.length = 0
  · exact .inl h0
  · refine .inr fun e => ?_
    have e2 : bwAt s (sortE s) = 0 := by unfold turnB at e; omega
    have := (at_is h.1 (Nat.zero_le _)).2 e2.symm
    exact h0 this
/-- The text that is turned to these, or none (5). -/
def backB (l : List Int) (at' : Int) : List Int × Int :=
  if rowMayB l at' = true then
    match bkGo l at'.toNat l.length 0 [] with
    | none => ([], 5)
    | some out => if turnB out = (l, at') then (out, 0) else ([], 5)
  else ([], 5)
theorem back_yes {s l : List Int} {at' : Int} (h : turnB s = (l, at')) : backB l at' = (s, 0) := by
  have ho := sortE_ord s
  have hm := turnB_may s
  have hl := turnB_len s
  have hgo := bkGo_text ho s.length 0 (Nat.zero_le _) rfl
  rw [h] at hm hl
  have e : bwL s (sortE s) = l ∧ (bwAt s (sortE s) : Int) = at' := by
    unfold turnB at h
    exact Prod.mk.inj h
  unfold backB
  rw [if_pos hm, show l.length = s.length from hl, ← e.2, ← e.1, Int.toNat_natCast]
  rw [List.drop_of_length_le (Nat.le_refl _)] at hgo
  rw [hgo]
  show (if turnB s = _ then _ else _) = _
  rw [h, e.1, e.2, if_pos rfl]
theorem back_no {l : List Int} {at' : Int} (h : ∀ s, turnB s ≠ (l, at')) : backB l at' = ([], 5) := by
  unfold backB
  split
  · split
    · rfl
    · rw [if_neg (h _)]
  · rfl
theorem back_iff {s l : List Int} {at' : Int} : backB l at' = (s, 0) ↔ turnB s = (l, at') := by
  refine ⟨fun h => ?_, back_yes⟩
  unfold backB at h
  split at h
  · split at h
    · cases h
    · split at h
      · rename_i e
        cases h
        exact e
      · cases h
  · cases h
theorem turnB_inj {s t : List Int} (h : turnB s = turnB t) : s = t := by
  have h1 := back_yes (s := s) (l := (turnB t).1) (at' := (turnB t).2) h
  have h2 := back_yes (s := t) (l := (turnB t).1) (at' := (turnB t).2) rfl
  rw [h1] at h2
  exact (Prod.mk.inj h2).1
end Go.Proofs.Ytmojnliljaefbaa
