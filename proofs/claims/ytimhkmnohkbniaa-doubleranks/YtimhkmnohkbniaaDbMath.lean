/- Places by the first numbers of their endings: ranks, and what twice as many tell. Plain numbers, no conditions. -/
import Derived.Test.YtimhkmnohkbniaaOrdMath
import Derived.Test.YtimhkmnohkbniaaBktMath
namespace Go.Proofs.Ytimhkmnohkbniaa
set_option linter.unusedVariables false
set_option linter.unusedSimpArgs false

/-- The first h numbers of an ending. -/
def cutI (s : List Int) (h i : Nat) : List Int := (s.drop i).take h
theorem cutI_zero (s : List Int) (i : Nat) : cutI s 0 i = [] := by simp [cutI]
theorem cutI_whole {s : List Int} {h i : Nat} (hh : s.length ≤ h) : cutI s h i = s.drop i := by
  unfold cutI
  exact List.take_of_length_le (by rw [List.length_drop]; omega)
theorem cutI_out {s : List Int} {h i : Nat} (hi : s.length ≤ i) : cutI s h i = [] := by
  unfold cutI
  rw [List.drop_of_length_le hi]
  simp
/-- Less by the first a and b numbers: by the first a, then by b behind them. -/
theorem cmpI_two : ∀ (a b : Nat) (x y : List Int), cmpI (x.take (a + b)) (y.take (a + b)) < 0 ↔ cmpI (x.take a) (y.take a) < 0 ∨ (x.take a = y.take a ∧ cmpI ((x.drop a).take b) ((y.drop a).take b) < 0)
  | 0, b, x, y => by simp [cmpI]
  | a + 1, b, [], [] => by simp [cmpI]
  | a + 1, b, [], v :: y => by
    rw [show a + 1 + b = (a + b) + 1 by omega]
    simp [cmpI]
  | a + 1, b, u :: x, [] => by
    rw [show a + 1 + b = (a + b) + 1 by omega]
    simp [cmpI]
  | a + 1, b, u :: x, v :: y => by
    rw [show a + 1 + b = (a + b) + 1 by omega]
    simp only [List.take_succ_cons, List.drop_succ_cons, cmpI]
    rcases Int.lt_trichotomy u v with g | g | g
    · rw [if_pos g, if_pos g]
      simp
    · subst g
      rw [if_neg (by omega), if_neg (by omega), if_neg (by omega), if_neg (by omega), cmpI_two a b x y]
      simp
    · rw [if_neg (by omega), if_pos g, if_neg (by omega), if_pos g]
      simp
      omega
theorem cut_two (s : List Int) (a b i k : Nat) : cmpI (cutI s (a + b) i) (cutI s (a + b) k) < 0 ↔ cmpI (cutI s a i) (cutI s a k) < 0 ∨ (cutI s a i = cutI s a k ∧ cmpI (cutI s b (i + a)) (cutI s b (k + a)) < 0) := by
  unfold cutI
  rw [cmpI_two, List.drop_drop, List.drop_drop]

/-- Is one less, by the first h numbers? -/
def cutB (s : List Int) (h i k : Nat) : Bool := decide (cmpI (cutI s h i) (cutI s h k) < 0)
theorem cutB_iff {s : List Int} {h i k : Nat} : cutB s h i k = true ↔ cmpI (cutI s h i) (cutI s h k) < 0 := decide_eq_true_iff
theorem cutB_irrefl (s : List Int) (h i : Nat) : cutB s h i i = false := by
  unfold cutB
  rw [cmpI_self]
  rfl
theorem cut_lt_trans {x y z : List Int} (h1 : cmpI x y < 0) (h2 : cmpI y z < 0) : cmpI x z < 0 := by
  have h3 := cmpI_trans x y z (by omega) (by omega)
  by_cases e : cmpI x z = 0
  · have e2 := cmpI_zero e
    rw [← e2, cmpI_swap] at h2
    omega
  · omega
theorem cutB_trans {s : List Int} {h i j k : Nat} (h1 : cutB s h i j = true) (h2 : cutB s h j k = true) : cutB s h i k = true := cutB_iff.2 (cut_lt_trans (cutB_iff.1 h1) (cutB_iff.1 h2))
theorem cut_three (s : List Int) (h i k : Nat) : cutB s h i k = true ∨ cutB s h k i = true ∨ cutI s h i = cutI s h k := by
  rw [cutB_iff, cutB_iff]
  by_cases e : cmpI (cutI s h i) (cutI s h k) = 0
  · exact .inr (.inr (cmpI_zero e))
  · by_cases g : cmpI (cutI s h i) (cutI s h k) < 0
    · exact .inl g
    · refine .inr (.inl ?_)
      rw [cmpI_swap]
      omega

/-- How many of the first t places are less by the first h numbers. -/
def hrN (s : List Int) (h i : Nat) : Nat → Nat
  | 0 => 0
  | t + 1 => hrN s h i t + if cutB s h t i = true then 1 else 0
theorem hrN_yes {s : List Int} {h i t : Nat} (g : cutB s h t i = true) : hrN s h i (t + 1) = hrN s h i t + 1 := by
  show hrN s h i t + _ = _
  rw [if_pos g]
theorem hrN_no {s : List Int} {h i t : Nat} (g : cutB s h t i = false) : hrN s h i (t + 1) = hrN s h i t := by
  show hrN s h i t + _ = _
  rw [g]
  rfl
theorem hrN_le (s : List Int) (h i : Nat) : ∀ t, hrN s h i t ≤ t := by
  intro t
  induction t with
  | zero => exact Nat.le_refl _
  | succ t ih =>
    show hrN s h i t + _ ≤ _
    split <;> omega
theorem hrN_same {s : List Int} {h i k : Nat} (e : cutI s h i = cutI s h k) : ∀ t, hrN s h i t = hrN s h k t := by
  intro t
  induction t with
  | zero => rfl
  | succ t ih =>
    have : cutB s h t i = cutB s h t k := by unfold cutB; rw [e]
    show hrN s h i t + _ = hrN s h k t + _
    rw [ih, this]
theorem hrN_less {s : List Int} {h i k : Nat} (g : cutB s h i k = true) : ∀ t, hrN s h i t ≤ hrN s h k t ∧ (i < t → hrN s h i t < hrN s h k t) := by
  intro t
  induction t with
  | zero => exact ⟨Nat.le_refl _, fun h => by omega⟩
  | succ t ih =>
    cases e : cutB s h t i
    · rw [hrN_no e]
      cases e2 : cutB s h t k
      · rw [hrN_no e2]
        refine ⟨ih.1, fun hi => ih.2 ?_⟩
        have : i ≠ t := fun e3 => by
          subst e3
          rw [g] at e2
          cases e2
        omega
      · rw [hrN_yes e2]
        exact ⟨by omega, fun _ => by omega⟩
    · rw [hrN_yes e, hrN_yes (cutB_trans e g)]
      refine ⟨by omega, fun hi => ?_⟩
      have : i ≠ t := fun e3 => by
        subst e3
        rw [cutB_irrefl] at e
        cases e
      have := ih.2 (by omega)
      omega
/-- A place's rank by the first h numbers. -/
def hrI (s : List Int) (h i : Nat) : Nat := hrN s h i s.length
theorem hrI_lt {s : List Int} {h i k : Nat} (hi : i < s.length) (hk : k < s.length) : hrI s h i < hrI s h k ↔ cutB s h i k = true := by
  unfold hrI
  rcases cut_three s h i k with g | g | g
  · exact ⟨fun _ => g, fun _ => (hrN_less g _).2 hi⟩
  · have := (hrN_less g _).2 hk
    exact ⟨fun _ => by omega, fun g2 => by
      have := cutB_trans g g2
      rw [cutB_irrefl] at this
      cases this⟩
  · rw [hrN_same g]
    exact ⟨fun _ => by omega, fun g2 => by
      have : cutB s h i k = cutB s h k k := by unfold cutB; rw [g]
      rw [this, cutB_irrefl] at g2
      cases g2⟩
theorem hrI_eq {s : List Int} {h i k : Nat} (hi : i < s.length) (hk : k < s.length) : hrI s h i = hrI s h k ↔ cutI s h i = cutI s h k := by
  constructor
  · intro e
    rcases cut_three s h i k with g | g | g
    · have := (hrI_lt hi hk).2 g
      omega
    · have := (hrI_lt hk hi).2 g
      omega
    · exact g
  · intro g
    exact hrN_same g _
theorem hrI_in {s : List Int} {h i : Nat} (hi : i < s.length) : hrI s h i < s.length := by
  have key : ∀ t, i < t → hrN s h i t < t := by
    intro t
    induction t with
    | zero => intro h; omega
    | succ t ih =>
      intro hit
      by_cases e : i = t
      · subst e
        rw [hrN_no (cutB_irrefl s h i)]
        have := hrN_le s h i i
        omega
      · have := ih (by omega)
        show hrN s h i t + _ < _
        split <;> omega
  exact key _ hi
def hrL (s : List Int) (h : Nat) : List Nat := (List.range s.length).map (hrI s h)
theorem hrL_len (s : List Int) (h : Nat) : (hrL s h).length = s.length := by simp [hrL]
theorem hrL_at {s : List Int} {h i : Nat} (hi : i < s.length) : (hrL s h).getD i 0 = hrI s h i := mapI_at _ _ hi
/-- There is just one such row: any row that tells the order and has each number as often as it may. -/
theorem hrI_zero (s : List Int) (i : Nat) : hrI s 0 i = 0 := by
  have key : ∀ t, hrN s 0 i t = 0 := by
    intro t
    induction t with
    | zero => rfl
    | succ t ih =>
      have : cutB s 0 t i = false := by unfold cutB; rw [cutI_zero, cutI_zero]; rfl
      rw [hrN_no this, ih]
  exact key _
/-- By the length, or more: the endings' own order. -/
theorem cutB_whole {s : List Int} {h i k : Nat} (hh : s.length ≤ h) : cutB s h i k = true ↔ ltE s i k := by
  rw [cutB_iff, cutI_whole hh, cutI_whole hh]
  exact Iff.rfl
/-- What stands a places on, by the first h numbers: nothing behind the end. -/
def onI (s : List Int) (h a i : Nat) : Int := if i + a < s.length then (hrI s h (i + a) : Int) else -1
theorem onI_lt {s : List Int} {h a i k : Nat} (hh : 0 < h) : onI s h a i < onI s h a k ↔ cmpI (cutI s h (i + a)) (cutI s h (k + a)) < 0 := by
  unfold onI
  by_cases hi : i + a < s.length
  · rw [if_pos hi]
    by_cases hk : k + a < s.length
    · rw [if_pos hk]
      have := hrI_lt (s := s) (h := h) hi hk
      rw [cutB_iff] at this
      rw [← this]
      omega
    · rw [if_neg hk, cutI_out (s := s) (i := k + a) (by omega)]
      have h2 : ¬ cmpI (cutI s h (i + a)) [] < 0 := by
        cases cutI s h (i + a) with
        | nil => decide
        | cons x l => simp [cmpI]
      exact ⟨fun g => by omega, fun g => absurd g h2⟩
  · rw [if_neg hi, cutI_out (s := s) (i := i + a) (by omega)]
    by_cases hk : k + a < s.length
    · rw [if_pos hk]
      have h2 : cmpI [] (cutI s h (k + a)) < 0 := by
        unfold cutI
        rw [drop_getD hk]
        obtain ⟨h', rfl⟩ : ∃ h', h = h' + 1 := ⟨h - 1, by omega⟩
        rw [List.take_succ_cons, cmpI]
        decide
      exact ⟨fun _ => h2, fun _ => by omega⟩
    · rw [if_neg hk, cutI_out (s := s) (i := k + a) (by omega)]
      exact ⟨fun g => by omega, fun g => absurd g (by decide)⟩
/-- By a numbers and h behind them: as by both. -/
theorem hr_two {s : List Int} {a h i k : Nat} (hh : 0 < h) (hi : i < s.length) (hk : k < s.length) : hrI s (a + h) i < hrI s (a + h) k ↔ hrI s a i < hrI s a k ∨ (hrI s a i = hrI s a k ∧ onI s h a i < onI s h a k) := by
  rw [hrI_lt hi hk, hrI_lt hi hk, hrI_eq hi hk, cutB_iff, cutB_iff, onI_lt hh, cut_two]
theorem onI_zero (s : List Int) (h i k : Nat) (hi : i < s.length) (hk : k < s.length) : onI s 0 0 i = 0 := by
  unfold onI
  rw [if_pos (by omega), hrI_zero]
  rfl
theorem hr_twice {s : List Int} {h i k : Nat} (hi : i < s.length) (hk : k < s.length) : hrI s (2 * h) i < hrI s (2 * h) k ↔ hrI s h i < hrI s h k ∨ (hrI s h i = hrI s h k ∧ onI s h h i < onI s h h k) := by
  by_cases h0 : h = 0
  · subst h0
    rw [hrI_zero, hrI_zero, onI_zero s 0 i k hi hk, onI_zero s 0 k i hk hi]
    omega
  · rw [show 2 * h = h + h by omega]
    exact hr_two (by omega) hi hk
/-- Where no two ranks are the same, the ranks by fewer numbers are those of all. -/
theorem hr_order {s : List Int} {h : Nat} {R : List Nat} (hR : R.Perm (List.range s.length)) (hs : R.Pairwise fun a b => hrI s h a < hrI s h b) : InOrd s R := by
  refine ⟨hR, hs.imp_of_mem fun {a b} ha hb hab => ?_⟩
  have ha2 := List.mem_range.1 (hR.mem_iff.1 ha)
  have hb2 := List.mem_range.1 (hR.mem_iff.1 hb)
  have h1 := cutB_iff.1 ((hrI_lt ha2 hb2).1 hab)
  unfold ltE
  have h2 := cmpI_two h s.length (s.drop a) (s.drop b)
  rw [List.take_of_length_le (by rw [List.length_drop]; omega), List.take_of_length_le (by rw [List.length_drop]; omega)] at h2
  exact h2.2 (.inl h1)
end Go.Proofs.Ytimhkmnohkbniaa
