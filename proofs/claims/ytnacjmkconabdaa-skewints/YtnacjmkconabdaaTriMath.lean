/- Endings in order by thirds: triples, names of triples, ranks behind one or two numbers, two rows in order as one. Plain numbers, no conditions. -/
import Derived.Test.YtnacjmkconabdaaOrdMath
import Derived.Test.YtnacjmkconabdaaBktMath
namespace Go.Proofs.Ytnacjmkconabdaa
set_option linter.unusedVariables false
set_option linter.unusedSimpArgs false

/-- A number, one more; behind the end nothing. -/
def padI (s : List Int) (i : Nat) : Int := if i < s.length then s.getD i 0 + 1 else 0
theorem padI_in {s : List Int} {i : Nat} (h : i < s.length) : padI s i = s.getD i 0 + 1 := if_pos h
theorem padI_out {s : List Int} {i : Nat} (h : s.length ≤ i) : padI s i = 0 := if_neg (by omega)
/-- No number is below 0. -/
def NonNeg (s : List Int) : Prop := ∀ i, i < s.length → 0 ≤ s.getD i 0
theorem padI_pos {s : List Int} (hs : NonNeg s) {i : Nat} : 0 < padI s i ↔ i < s.length := by
  by_cases h : i < s.length
  · rw [padI_in h]
    have := hs i h
    exact ⟨fun _ => h, fun _ => by omega⟩
  · rw [padI_out (by omega)]
    omega
theorem pad_lt {s : List Int} (hs : NonNeg s) {a b : Nat} (h : padI s a < padI s b) : ltE s a b := by
  by_cases hb : b < s.length
  · by_cases ha : a < s.length
    · rw [padI_in ha, padI_in hb] at h
      exact ltE_less ha hb (by omega)
    · exact ltE_end (by omega) hb
  · rw [padI_out (s := s) (i := b) (by omega)] at h
    by_cases ha : a < s.length
    · have := (padI_pos hs).2 ha
      omega
    · rw [padI_out (by omega)] at h
      omega
theorem pad_same {s : List Int} (hs : NonNeg s) {a b : Nat} (ha : a < s.length) (h : padI s a = padI s b) : b < s.length ∧ (ltE s a b ↔ ltE s (a + 1) (b + 1)) := by
  have hb : b < s.length := (padI_pos hs).1 (by rw [← h]; exact (padI_pos hs).2 ha)
  rw [padI_in ha, padI_in hb] at h
  exact ⟨hb, ltE_same ha hb (by omega)⟩
/-- By the first number, then by what stands behind it. -/
theorem pad_iff {s : List Int} (hs : NonNeg s) {a b : Nat} (h : a < s.length ∨ b < s.length) : ltE s a b ↔ padI s a < padI s b ∨ (padI s a = padI s b ∧ ltE s (a + 1) (b + 1)) := by
  rcases Int.lt_trichotomy (padI s a) (padI s b) with g | g | g
  · exact ⟨fun _ => .inl g, fun _ => pad_lt hs g⟩
  · have ha : a < s.length := by
      rcases h with h | h
      · exact h
      · exact (padI_pos hs).1 (by rw [g]; exact (padI_pos hs).2 h)
    rw [(pad_same hs ha g).2]
    exact ⟨fun k => .inr ⟨g, k⟩, fun k => by rcases k with k | k; exact absurd k (by omega); exact k.2⟩
  · refine ⟨fun k => absurd (ltE_trans k (pad_lt hs g)) ltE_irrefl, fun k => ?_⟩
    rcases k with k | k
    · omega
    · omega
/-- Is one triple less, are two the same? -/
def triLt (s : List Int) (a b : Nat) : Prop := padI s a < padI s b ∨ (padI s a = padI s b ∧ (padI s (a + 1) < padI s (b + 1) ∨ (padI s (a + 1) = padI s (b + 1) ∧ padI s (a + 2) < padI s (b + 2))))
def triEq (s : List Int) (a b : Nat) : Prop := padI s a = padI s b ∧ padI s (a + 1) = padI s (b + 1) ∧ padI s (a + 2) = padI s (b + 2)
theorem tri_lt {s : List Int} (hs : NonNeg s) {a b : Nat} (h : triLt s a b) : ltE s a b := by
  rcases h with h | ⟨h1, h⟩
  · exact pad_lt hs h
  · by_cases ha : a < s.length
    · rw [(pad_same hs ha h1).2]
      rcases h with h | ⟨h2, h⟩
      · exact pad_lt hs h
      · by_cases ha1 : a + 1 < s.length
        · rw [(pad_same hs ha1 h2).2]
          exact pad_lt hs h
        · rw [padI_out (s := s) (i := a + 2) (by omega)] at h
          have hb := (padI_pos hs).1 h
          have := (padI_pos hs).2 (show b + 1 < s.length by omega)
          rw [← h2, padI_out (by omega)] at this
          omega
    · have hb : ¬ b < s.length := fun hb => by
        have := (padI_pos hs).2 hb
        rw [← h1, padI_out (by omega)] at this
        omega
      rw [padI_out (s := s) (i := a + 1) (by omega), padI_out (s := s) (i := a + 2) (by omega), padI_out (s := s) (i := b + 1) (by omega), padI_out (s := s) (i := b + 2) (by omega)] at h
      omega
/-- Where two triples are the same, all of their numbers are there or the places are one. -/
theorem tri_same {s : List Int} (hs : NonNeg s) {a b : Nat} (ha : a < s.length) (hab : a ≠ b) (h : triEq s a b) : a + 2 < s.length ∧ b + 2 < s.length ∧ (ltE s a b ↔ ltE s (a + 3) (b + 3)) := by
  obtain ⟨h1, h2, h3⟩ := h
  obtain ⟨hb, e1⟩ := pad_same hs ha h1
  have step : ∀ {x y : Nat}, x < s.length → y < s.length → x ≠ y → padI s (x + 1) = padI s (y + 1) → x + 1 < s.length := fun {x y} hx hy hne h => by
    apply Nat.lt_of_not_le
    intro hle
    rw [padI_out hle] at h
    have : ¬ 0 < padI s (y + 1) := by omega
    rw [padI_pos hs] at this
    omega
  have ha1 := step ha hb hab h2
  obtain ⟨hb1, e2⟩ := pad_same hs ha1 h2
  have ha2 := step ha1 hb1 (by omega) h3
  obtain ⟨hb2, e3⟩ := pad_same hs ha2 h3
  exact ⟨ha2, hb2, by rw [e1, e2, e3]⟩

/-- A row of names: less ones are of less endings, same ones go on three places on. -/
structure Names3 (s N : List Int) (pl : Nat → Nat) : Prop where
  less : ∀ i j, i < N.length → j < N.length → N.getD i 0 < N.getD j 0 → ltE s (pl i) (pl j)
  same : ∀ i j, i < N.length → j < N.length → i ≠ j → N.getD i 0 = N.getD j 0 → (i + 1 < N.length ∧ j + 1 < N.length ∧ (ltE s (pl i) (pl j) ↔ ltE s (pl (i + 1)) (pl (j + 1)))) ∨ (i + 1 = N.length ∧ ltE s (pl i) (pl j)) ∨ (j + 1 = N.length ∧ ltE s (pl j) (pl i))
theorem ltE_no {s : List Int} {a b : Nat} (hb : s.length ≤ b) : ¬ ltE s a b := by
  unfold ltE
  rw [List.drop_of_length_le hb]
  cases s.drop a with
  | nil => decide
  | cons x l => simp [cmpI]
theorem Names3.lt {s N : List Int} {pl : Nat → Nat} (h : Names3 s N pl) : ∀ d i j, N.length - i = d → i < N.length → j < N.length → ltE N i j → ltE s (pl i) (pl j) := by
  intro d
  induction d with
  | zero => intro i j h1 h2; omega
  | succ d ih =>
    intro i j hd hi hj hlt
    rcases Int.lt_trichotomy (N.getD i 0) (N.getD j 0) with g | g | g
    · exact h.less i j hi hj g
    · have hne : i ≠ j := fun e => by
        subst e
        exact ltE_irrefl hlt
      rw [ltE_same hi hj g] at hlt
      rcases h.same i j hi hj hne g with ⟨h1, h2, h3⟩ | ⟨h1, h2⟩ | ⟨h1, h2⟩
      · exact h3.2 (ih (i + 1) (j + 1) (by omega) h1 h2 hlt)
      · exact h2
      · exact absurd hlt (ltE_no (by omega))
    · exact absurd (ltE_trans hlt (ltE_less hj hi g)) ltE_irrefl
theorem Names3.ord {s N : List Int} {pl : Nat → Nat} (h : Names3 s N pl) {R : List Nat} (hR : InOrd N R) : (R.map pl).Pairwise (ltE s) ∧ (R.map pl).Perm ((List.range N.length).map pl) := by
  refine ⟨?_, hR.1.map _⟩
  rw [List.pairwise_map]
  exact hR.2.imp_of_mem fun ha hb hlt => h.lt _ _ _ rfl (List.mem_range.1 (hR.1.mem_iff.1 ha)) (List.mem_range.1 (hR.1.mem_iff.1 hb)) hlt

/-- Two rows in order, laid together as far as the first i of the one and the first j of the other. -/
structure Merge (lt : Nat → Nat → Prop) (A B : List Nat) (i j : Nat) (out : List Nat) : Prop where
  perm : out.Perm (A.take i ++ B.take j)
  sorted : out.Pairwise lt
  lowA : ∀ x ∈ out, ∀ t, i ≤ t → t < A.length → lt x (A.getD t 0)
  lowB : ∀ x ∈ out, ∀ t, j ≤ t → t < B.length → lt x (B.getD t 0)
theorem Merge.start (lt : Nat → Nat → Prop) (A B : List Nat) : Merge lt A B 0 0 [] := ⟨List.Perm.refl _, List.Pairwise.nil, (fun x hx => by cases hx), (fun x hx => by cases hx)⟩
theorem Merge.len {lt : Nat → Nat → Prop} {A B out : List Nat} {i j : Nat} (h : Merge lt A B i j out) (hi : i ≤ A.length) (hj : j ≤ B.length) : out.length = i + j := by
  rw [h.perm.length_eq, List.length_append, List.length_take, List.length_take]
  omega
theorem Merge.swap {lt : Nat → Nat → Prop} {A B out : List Nat} {i j : Nat} (h : Merge lt A B i j out) : Merge lt B A j i out := ⟨h.perm.trans List.perm_append_comm, h.sorted, h.lowB, h.lowA⟩
/-- The next of the first row comes, if it is less than the next of the second, or there is none. -/
theorem Merge.left {lt : Nat → Nat → Prop} {A B out : List Nat} {i j : Nat} (tr : ∀ a b c, lt a b → lt b c → lt a c) (hA : A.Pairwise lt) (hB : B.Pairwise lt) (h : Merge lt A B i j out) (hi : i < A.length) (hl : j < B.length → lt (A.getD i 0) (B.getD j 0)) : Merge lt A B (i + 1) j (out ++ [A.getD i 0]) := by
  refine ⟨?_, ?_, fun x hx t h1 h2 => ?_, fun x hx t h1 h2 => ?_⟩
  · rw [takeN_succ hi]
    have h1 := h.perm.append_right [A.getD i 0]
    refine h1.trans ?_
    rw [List.append_assoc, List.append_assoc]
    exact List.Perm.append_left _ List.perm_append_comm
  · rw [List.pairwise_append]
    exact ⟨h.sorted, List.pairwise_singleton _ _, fun x hx y hy => by rw [List.mem_singleton.1 hy]; exact h.lowA x hx i (Nat.le_refl _) hi⟩
  · rcases List.mem_append.1 hx with g | g
    · exact h.lowA x g t (by omega) h2
    · rw [List.mem_singleton.1 g]
      exact pairN_at hA (show i < t by omega) h2
  · rcases List.mem_append.1 hx with g | g
    · exact h.lowB x g t h1 h2
    · rw [List.mem_singleton.1 g]
      by_cases e : t = j
      · subst e
        exact hl h2
      · exact tr _ _ _ (hl (by omega)) (pairN_at hB (show j < t by omega) h2)
theorem Merge.right {lt : Nat → Nat → Prop} {A B out : List Nat} {i j : Nat} (tr : ∀ a b c, lt a b → lt b c → lt a c) (hA : A.Pairwise lt) (hB : B.Pairwise lt) (h : Merge lt A B i j out) (hj : j < B.length) (hl : i < A.length → lt (B.getD j 0) (A.getD i 0)) : Merge lt A B i (j + 1) (out ++ [B.getD j 0]) :=
  (h.swap.left tr hB hA hj hl).swap
theorem Merge.done {lt : Nat → Nat → Prop} {A B out : List Nat} (h : Merge lt A B A.length B.length out) : out.Pairwise lt ∧ out.Perm (A ++ B) := by
  have := h.perm
  rw [List.take_length, List.take_length] at this
  exact ⟨h.sorted, this⟩
/-- All that is left of one row, where nothing is left of the other. -/
theorem Merge.rest_left {lt : Nat → Nat → Prop} {A B : List Nat} (tr : ∀ a b c, lt a b → lt b c → lt a c) (hA : A.Pairwise lt) (hB : B.Pairwise lt) : ∀ (d : Nat) {i : Nat} {out : List Nat}, Merge lt A B i B.length out → i + d = A.length → Merge lt A B A.length B.length (out ++ A.drop i) := by
  intro d
  induction d with
  | zero =>
    intro i out h hi
    rw [List.drop_eq_nil_of_le (by omega), List.append_nil]
    rw [show A.length = i by omega]
    exact h
  | succ d ih =>
    intro i out h hi
    have h1 := h.left tr hA hB (show i < A.length by omega) (fun g => by omega)
    have h2 := ih h1 (by omega)
    rw [List.append_assoc, List.singleton_append] at h2
    rw [dropN_cons (show i < A.length by omega)]
    exact h2
theorem Merge.rest_right {lt : Nat → Nat → Prop} {A B : List Nat} (tr : ∀ a b c, lt a b → lt b c → lt a c) (hA : A.Pairwise lt) (hB : B.Pairwise lt) (d : Nat) {j : Nat} {out : List Nat} (h : Merge lt A B A.length j out) (hj : j + d = B.length) : Merge lt A B A.length B.length (out ++ B.drop j) :=
  (Merge.rest_left tr hB hA d h.swap hj).swap
end Go.Proofs.Ytnacjmkconabdaa
