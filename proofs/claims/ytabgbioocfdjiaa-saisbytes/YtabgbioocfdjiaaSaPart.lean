/- Pieces from one first place to the next, by their numbers alone. Plain numbers, no conditions. -/
import Derived.Test.YtabgbioocfdjiaaSaRed
namespace Go.Proofs.Ytabgbioocfdjiaa
set_option linter.unusedVariables false
set_option linter.unusedSimpArgs false

theorem cutW_run {s : List Int} : ∀ (e a : Nat), 1 ≤ e → a + e < s.length → fsB s (a + e) = true → (∀ x, 1 ≤ x → x < e → fsB s (a + x) = false) → cutW s a = (List.range (e + 1)).map fun (x : Nat) => codeI s (a + x) := by
  intro e
  induction e with
  | zero => intro a h; omega
  | succ e ih =>
    intro a _ hl hf hb
    rw [cutW_cons (by omega), List.range_succ_eq_map]
    simp only [List.map_cons, List.map_map, Nat.add_zero]
    congr 1
    by_cases h0 : e = 0
    · subst h0
      rw [if_pos hf]
      simp [List.range_succ]
    · rw [hb 1 (by omega) (by omega), if_neg (by simp), ih (a + 1) (by omega) (by omega) (by rw [show a + 1 + e = a + (e + 1) by omega]; exact hf) (fun x h1 h2 => by rw [show a + 1 + x = a + (x + 1) by omega]; exact hb (x + 1) (by omega) (by omega))]
      refine List.map_congr_left fun x _ => ?_
      show codeI s (a + 1 + x) = codeI s (a + (x + 1))
      rw [show a + 1 + x = a + (x + 1) by omega]
theorem same_kinds {s : List Int} {a b e : Nat} (hae : a + e < s.length) (hbe : b + e < s.length) (ha : smB s (a + e) = true) (hb : smB s (b + e) = true) (hn : ∀ x, x ≤ e → s.getD (a + x) 0 = s.getD (b + x) 0) : ∀ d x, x + d = e → smB s (a + x) = smB s (b + x) := by
  intro d
  induction d with
  | zero =>
    intro x hx
    rw [show x = e by omega, ha, hb]
  | succ d ih =>
    intro x hx
    rw [smB_next (i := a + x) (by omega), smB_next (i := b + x) (by omega), hn x (by omega), show a + x + 1 = a + (x + 1) by omega, show b + x + 1 = b + (x + 1) by omega, hn (x + 1) (by omega), ih (x + 1) (by omega)]
/-- The numbers from place a to place b. -/
def secI (s : List Int) (a b : Nat) : List Int := (s.take (b + 1)).drop a
theorem secI_len {s : List Int} {a b : Nat} (hab : a ≤ b) (hb : b < s.length) : (secI s a b).length = b - a + 1 := by
  unfold secI
  rw [List.length_drop, List.length_take]
  omega
theorem secI_at {s : List Int} {a b x : Nat} (hab : a ≤ b) (hb : b < s.length) (hx : x ≤ b - a) : (secI s a b).getD x 0 = s.getD (a + x) 0 := by
  unfold secI
  simp only [List.getD, List.getElem?_drop, List.getElem?_take]
  rw [if_pos (by omega)]
theorem rowI_ext {l l' : List Int} (hl : l.length = l'.length) (h : ∀ i, i < l.length → l.getD i 0 = l'.getD i 0) : l = l' := by
  refine List.ext_getElem hl fun i h1 h2 => ?_
  have := h i h1
  simpa [List.getD, List.getElem?_eq_getElem h1, List.getElem?_eq_getElem h2] using this
theorem firstN_gap {s : List Int} {i : Nat} (hi : i + 1 < (firstN s).length) : ∀ x, 1 ≤ x → x < (firstN s).getD (i + 1) 0 - (firstN s).getD i 0 → fsB s ((firstN s).getD i 0 + x) = false := fun x h1 h2 => by
  cases hf : fsB s ((firstN s).getD i 0 + x) with
  | false => rfl
  | true =>
    have hlt : (firstN s).getD i 0 + x < s.length := by have := (firstN_at hi).1; omega
    have hm : (firstN s).getD i 0 + x ∈ firstN s := firN_mem.2 ⟨hlt, hf⟩
    obtain ⟨j, hj, ej⟩ := mem_getN hm
    rcases Nat.lt_or_ge i j with g | g
    · rcases Nat.lt_or_ge j (i + 1) with g2 | g2
      · omega
      · by_cases e : j = i + 1
        · rw [e] at ej; omega
        · have := firstN_lt s (show i + 1 < j by omega) hj; omega
    · by_cases e : j = i
      · rw [e] at ej; omega
      · have := firstN_lt s (show j < i by omega) (by omega); omega
theorem cutW_sec {s : List Int} {i : Nat} (hi : i + 1 < (firstN s).length) : cutW s ((firstN s).getD i 0) = (List.range ((firstN s).getD (i + 1) 0 - (firstN s).getD i 0 + 1)).map fun (x : Nat) => codeI s ((firstN s).getD i 0 + x) := by
  have h1 := firstN_lt s (show i < i + 1 by omega) hi
  have h2 := firstN_at (s := s) hi
  exact cutW_run _ _ (by omega) (by omega) (by rw [show (firstN s).getD i 0 + ((firstN s).getD (i + 1) 0 - (firstN s).getD i 0) = (firstN s).getD (i + 1) 0 by omega]; exact h2.2) (firstN_gap hi)
theorem sec_cut {s : List Int} {i j : Nat} (hi : i + 1 < (firstN s).length) (hj : j + 1 < (firstN s).length) :
    secI s ((firstN s).getD i 0) ((firstN s).getD (i + 1) 0) = secI s ((firstN s).getD j 0) ((firstN s).getD (j + 1) 0) ↔ cutW s ((firstN s).getD i 0) = cutW s ((firstN s).getD j 0) := by
  have i1 := firstN_lt s (show i < i + 1 by omega) hi
  have i2 := firstN_at (s := s) hi
  have j1 := firstN_lt s (show j < j + 1 by omega) hj
  have j2 := firstN_at (s := s) hj
  rw [cutW_sec hi, cutW_sec hj]
  generalize hA : (firstN s).getD i 0 = a at *
  generalize hB : (firstN s).getD (i + 1) 0 = b at *
  generalize hC : (firstN s).getD j 0 = c at *
  generalize hD : (firstN s).getD (j + 1) 0 = d at *
  constructor
  · intro h
    have hl := congrArg List.length h
    rw [secI_len (by omega) i2.1, secI_len (by omega) j2.1] at hl
    have hn : ∀ x, x ≤ b - a → s.getD (a + x) 0 = s.getD (c + x) 0 := fun x hx => by rw [← secI_at (by omega) i2.1 hx, h, secI_at (by omega) j2.1 (by omega)]
    have hk := same_kinds (s := s) (a := a) (b := c) (e := b - a) (by omega) (by omega) (by rw [show a + (b - a) = b by omega]; exact (fsB_iff.1 i2.2).2.1) (by rw [show c + (b - a) = d by omega]; exact (fsB_iff.1 j2.2).2.1) hn
    rw [show d - c = b - a by omega]
    refine List.map_congr_left fun x hx => ?_
    rw [List.mem_range] at hx
    unfold codeI
    rw [hn x (by omega), hk (b - a - x) x (by omega)]
  · intro h
    have hl := congrArg List.length h
    simp only [List.length_map, List.length_range] at hl
    refine rowI_ext (by rw [secI_len (by omega) i2.1, secI_len (by omega) j2.1]; omega) fun x hx => ?_
    rw [secI_len (by omega) i2.1] at hx
    rw [secI_at (by omega) i2.1 (by omega), secI_at (by omega) j2.1 (by omega)]
    have : ((List.range (b - a + 1)).map fun (x : Nat) => codeI s (a + x)).getD x 0 = ((List.range (d - c + 1)).map fun (x : Nat) => codeI s (c + x)).getD x 0 := by rw [h]
    rw [mapI_at _ _ (by omega), mapI_at _ _ (by omega)] at this
    exact (codeI_eq this).1
/-- Are two pieces alike, by their numbers? The last one is like none. -/
def alikeB (s : List Int) (i j : Nat) : Bool := decide (i + 1 < (firstN s).length ∧ j + 1 < (firstN s).length ∧ secI s ((firstN s).getD i 0) ((firstN s).getD (i + 1) 0) = secI s ((firstN s).getD j 0) ((firstN s).getD (j + 1) 0))
theorem alikeB_cut {s : List Int} {i j : Nat} (hi : i < (firstN s).length) (hj : j < (firstN s).length) (hne : i ≠ j) : alikeB s i j = decide (cutW s ((firstN s).getD i 0) = cutW s ((firstN s).getD j 0)) := by
  unfold alikeB
  refine decide_eq_decide.2 ⟨fun h => (sec_cut h.1 h.2.1).1 h.2.2, fun h => ?_⟩
  have fi := firstN_at hi
  have fj := firstN_at hj
  have hne2 : (firstN s).getD i 0 ≠ (firstN s).getD j 0 := fun e => by
    rcases Nat.lt_or_gt_of_ne hne with g | g
    · have := firstN_lt s g hj; omega
    · have := firstN_lt s g hi; omega
  obtain ⟨e, e1, e2, e3, e4, e5⟩ := cut_same _ _ _ rfl fi.1 fj.1 hne2 h
  obtain ⟨n1, _⟩ := firstN_next (s := s) (i := i) hi e1 e2 fun x h1 h2 => (e4 x h1 h2).1
  obtain ⟨n3, _⟩ := firstN_next (s := s) (i := j) hj e1 e3 fun x h1 h2 => (e4 x h1 h2).2
  exact ⟨n1, n3, (sec_cut n1 n3).2 h⟩
end Go.Proofs.Ytabgbioocfdjiaa
