/- Parts of a text from one first place to the next: sorted by induced sorting, named, they tell the order of the endings. Plain numbers, no conditions. -/
import Derived.Test.YtabgbioocfdjiaaIndAll
namespace Go.Proofs.Ytabgbioocfdjiaa
set_option linter.unusedVariables false
set_option linter.unusedSimpArgs false

/-- A place's number and kind as one. -/
def codeI (s : List Int) (a : Nat) : Int := 2 * s.getD a 0 + (if smB s a = true then 1 else 0)
theorem codeI_small {s : List Int} {a : Nat} (h : smB s a = true) : codeI s a = 2 * s.getD a 0 + 1 := by unfold codeI; rw [if_pos h]
theorem codeI_large {s : List Int} {a : Nat} (h : smB s a = false) : codeI s a = 2 * s.getD a 0 := by unfold codeI; rw [if_neg (by rw [h]; simp)]; omega
theorem codeI_eq {s : List Int} {a b : Nat} (h : codeI s a = codeI s b) : s.getD a 0 = s.getD b 0 ∧ smB s a = smB s b := by
  cases ha : smB s a <;> cases hb : smB s b
  · rw [codeI_large ha, codeI_large hb] at h
    exact ⟨by omega, rfl⟩
  · rw [codeI_large ha, codeI_small hb] at h
    omega
  · rw [codeI_small ha, codeI_large hb] at h
    omega
  · rw [codeI_small ha, codeI_small hb] at h
    exact ⟨by omega, rfl⟩
theorem codeI_lt {s : List Int} {a b : Nat} (ha : a < s.length) (hb : b < s.length) (h : codeI s a < codeI s b) : ltE s a b := by
  cases h1 : smB s a <;> cases h2 : smB s b
  · rw [codeI_large h1, codeI_large h2] at h
    exact ltE_less ha hb (by omega)
  · rw [codeI_large h1, codeI_small h2] at h
    by_cases e : s.getD a 0 = s.getD b 0
    · exact ltE_kinds _ a b rfl ha hb e h1 h2
    · exact ltE_less ha hb (by omega)
  · rw [codeI_small h1, codeI_large h2] at h
    exact ltE_less ha hb (by omega)
  · rw [codeI_small h1, codeI_small h2] at h
    exact ltE_less ha hb (by omega)
theorem fsB_out {s : List Int} {a : Nat} (h : s.length ≤ a) : fsB s a = false := by
  unfold fsB
  rw [smB_last (by omega)]
  simp

/-- From a place to the next first one, that one with it; else to the end. -/
def cutF (s : List Int) : Nat → Nat → List Int
  | 0, _ => []
  | d + 1, a => codeI s a :: (if fsB s (a + 1) = true then [codeI s (a + 1)] else cutF s d (a + 1))
def cutW (s : List Int) (a : Nat) : List Int := cutF s (s.length - a) a
theorem cutW_end {s : List Int} {a : Nat} (h : s.length ≤ a) : cutW s a = [] := by
  unfold cutW
  rw [show s.length - a = 0 by omega]
  rfl
theorem cutW_cons {s : List Int} {a : Nat} (h : a < s.length) : cutW s a = codeI s a :: (if fsB s (a + 1) = true then [codeI s (a + 1)] else cutW s (a + 1)) := by
  unfold cutW
  rw [show s.length - a = (s.length - (a + 1)) + 1 by omega]
  rfl
/-- Likewise, a first place alone. -/
def cutL (s : List Int) (a : Nat) : List Int := if fsB s a = true then [codeI s a] else cutW s a
theorem cutW_tail {s : List Int} {a : Nat} (h : a < s.length) : cutW s a = codeI s a :: cutL s (a + 1) := cutW_cons h
theorem cutL_large {s : List Int} {a : Nat} (h : smB s a = false) : cutL s a = cutW s a := by
  unfold cutL
  rw [if_neg]
  intro hf
  have := (fsB_iff.1 hf).2.1
  rw [h] at this
  cases this
theorem cutL_next {s : List Int} {a : Nat} (h : smB s a = true) : cutL s (a + 1) = cutW s (a + 1) := by
  unfold cutL
  rw [if_neg]
  intro hf
  have := (fsB_iff.1 hf).2.2
  rw [Nat.add_sub_cancel, h] at this
  cases this

theorem cmpI_head {x y : Int} {l l' : List Int} (h : x < y) : cmpI (x :: l) (y :: l') = -1 := by rw [cmpI, if_pos h]
theorem cmpI_tail {x : Int} {l l' : List Int} : cmpI (x :: l) (x :: l') = cmpI l l' := by rw [cmpI, if_neg (by omega), if_neg (by omega)]

theorem key_code {s : List Int} {K a b : Nat} (f : Fits s K) (ha : a < s.length) (hb : b < s.length) (h : keyN s a < keyN s b) : codeI s a < codeI s b := by
  have h1 := f.num a ha
  have h2 := f.num b hb
  unfold codeI
  split <;> split <;> omega
theorem kind_code {s : List Int} {K a b : Nat} (f : Fits s K) (ha : a < s.length) (hb : b < s.length) (h : keyN s a = keyN s b) (h1 : smB s a = false) (h2 : smB s b = true) : codeI s a < codeI s b := by
  have h3 := f.num a ha
  have h4 := f.num b hb
  rw [codeI_large h1, codeI_small h2]
  omega
theorem same_code {s : List Int} {K a b : Nat} (f : Fits s K) (ha : a < s.length) (hb : b < s.length) (h : keyN s a = keyN s b) (h1 : smB s a = smB s b) : codeI s a = codeI s b := by
  have h3 := f.num a ha
  have h4 := f.num b hb
  unfold codeI
  rw [h1, h3, h4, h]
theorem cutL_head {s : List Int} {a : Nat} (h : a < s.length) : ∃ l, cutL s a = codeI s a :: l := by
  unfold cutL
  split
  · exact ⟨[], rfl⟩
  · exact ⟨_, cutW_cons h⟩

/-- Whatever the order of the first places, what comes out stands in order of the parts. -/
theorem indI_cut {s : List Int} {K : Nat} {F : List Nat} (f : Fits s K) (hF : Firsts s F) : ∃ R : List Nat, indI s K F = natL R ∧ R.Perm (List.range s.length) ∧ R.Pairwise (fun a b => cmpI (cutW s a) (cutW s b) ≤ 0) := by
  obtain ⟨R, h1, h2, _, h4⟩ := indI_rel f hF
  refine ⟨R, h1, h2, h4 (fun a b => cmpI (cutL s a) (cutL s b) ≤ 0) _ ⟨fun a b ha hb h => ?_, fun a b ha hb h k1 k2 => ?_, fun a b ha hb k1 k2 h h3 => ?_, fun a b ha hb k2 h => ?_, fun q => ?_⟩ (fun a b k1 k2 h => ?_) (fun P hP hp => ⟨fun a b ha hb h => ?_, fun a b ha hb h k1 k2 => ?_, fun a b ha hb k1 k2 h h3 => ?_, (fun a b ha => by cases ha), fun q => ?_⟩) (fun a b ha hb h => ?_) (fun a b ha hb h k1 k2 => ?_)⟩
  · obtain ⟨l, e⟩ := cutL_head ha
    obtain ⟨l', e'⟩ := cutL_head hb
    rw [e, e', cmpI_head (key_code f ha hb h)]
    omega
  · obtain ⟨l, e⟩ := cutL_head ha
    obtain ⟨l', e'⟩ := cutL_head hb
    rw [e, e', cmpI_head (kind_code f ha hb h (by simpa [lgB] using k1) (by simpa [lgB] using k2))]
    omega
  · have k1' : smB s a = false := by simpa [lgB] using k1
    have k2' : smB s b = false := by simpa [lgB] using k2
    rw [cutL_large k1', cutL_large k2', cutW_tail (by omega), cutW_tail (by omega), same_code f (by omega) (by omega) h (by rw [k1', k2']), cmpI_tail]
    exact h3
  · simp only [List.mem_singleton] at ha
    subst ha
    have k1' : smB s (s.length - 1) = false := smB_last (by omega)
    have k2' : smB s b = false := by simpa [lgB] using k2
    have e : cutL s (s.length - 1 + 1) = [] := by
      unfold cutL
      rw [fsB_out (by omega), if_neg (by simp), cutW_end (by omega)]
    obtain ⟨l, e'⟩ := cutL_head hb
    rw [cutL_large k1', cutL_large k2', cutW_tail (by omega), cutW_tail (by omega), same_code f (by omega) (by omega) h (by rw [k1', k2']), cmpI_tail, e, e']
    exact (by decide : (-1 : Int) ≤ 0)
  · refine (List.pairwise_of_forall (R := fun _ _ => True) fun _ _ => trivial).imp_of_mem fun ha hb _ => ?_
    obtain ⟨m1, e1⟩ := pick_mem.1 ha
    obtain ⟨m2, e2⟩ := pick_mem.1 hb
    obtain ⟨n1, f1⟩ := hF.kind _ m1
    obtain ⟨n2, f2⟩ := hF.kind _ m2
    unfold cutL
    rw [if_pos f1, if_pos f2, same_code f n1 n2 (by rw [e1, e2]) (by rw [(fsB_iff.1 f1).2.1, (fsB_iff.1 f2).2.1]), cmpI_self]
    exact Int.le_refl _
  · have k1' : smB s a = false := by simpa [lgB] using k1
    have k2' : smB s b = false := by simpa [lgB] using k2
    rw [cutL_large k1', cutL_large k2'] at h
    exact h
  · have h5 := f.lt a ha
    have h6 := f.lt b hb
    unfold keyM at h
    rw [cutW_tail ha, cutW_tail hb, cmpI_head (key_code f hb ha (by omega))]
    omega
  · have h5 := f.lt a ha
    have h6 := f.lt b hb
    unfold keyM at h
    rw [cutW_tail ha, cutW_tail hb, cmpI_head (kind_code f hb ha (by omega) k2 k1)]
    omega
  · have h5 := f.lt a (by omega)
    have h6 := f.lt b (by omega)
    unfold keyM at h
    rw [cutW_tail (show a < s.length by omega), cutW_tail (show b < s.length by omega), cutL_next k1, cutL_next k2, same_code f (by omega) (by omega) (show keyN s a = keyN s b by omega) (by rw [k1, k2]), cmpI_tail]
    exact h3
  · rw [pick_rev, List.pairwise_reverse]
    by_cases h0 : 0 < (pick P (keyM K (keyN s)) q).length
    · obtain ⟨q', hq, rfl⟩ := pick_mirror_of f.lt (fun p h => (hP p h).1) h0
      rw [pick_mirror f.lt (fun p h => (hP p h).1) hq]
      exact hp q'
    · rw [List.length_eq_zero_iff.1 (show (pick P (keyM K (keyN s)) q).length = 0 by omega)]
      exact List.Pairwise.nil
  · rw [cutW_tail ha, cutW_tail hb, cmpI_head (key_code f ha hb h)]
    omega
  · rw [cutW_tail ha, cutW_tail hb, cmpI_head (kind_code f ha hb h k1 k2)]
    omega

/-- Behind a large place stands a first one, a large one, or nothing. -/
theorem behind_large {s : List Int} {a : Nat} (h : smB s a = false) (hf : fsB s (a + 1) = false) : smB s (a + 1) = false := by
  cases h2 : smB s (a + 1)
  · rfl
  · have : fsB s (a + 1) = true := fsB_iff.2 ⟨by omega, h2, by rw [Nat.add_sub_cancel]; exact h⟩
    rw [hf] at this
    cases this
theorem ahead_first {s : List Int} {a : Nat} (hf : fsB s (a + 1) = true) : smB s a = false ∧ smB s (a + 1) = true ∧ a + 1 < s.length := by
  have h := fsB_iff.1 hf
  rw [Nat.add_sub_cancel] at h
  refine ⟨h.2.2, h.2.1, ?_⟩
  apply Nat.lt_of_not_le
  intro hle
  rw [fsB_out hle] at hf
  cases hf

/-- A less part is of a less ending. -/
theorem cut_lt {s : List Int} : ∀ (d a b : Nat), s.length - a = d → a < s.length → b < s.length → cmpI (cutW s a) (cutW s b) < 0 → ltE s a b := by
  intro d
  induction d with
  | zero => intro a b h1 h2; omega
  | succ d ih =>
    intro a b hd ha hb h
    rw [cutW_cons ha, cutW_cons hb] at h
    rcases Int.lt_trichotomy (codeI s a) (codeI s b) with hc | hc | hc
    · exact codeI_lt ha hb hc
    · obtain ⟨c1, c2⟩ := codeI_eq hc
      rw [hc, cmpI_tail] at h
      rw [ltE_same ha hb c1]
      cases f1 : fsB s (a + 1) <;> cases f2 : fsB s (b + 1) <;> rw [f1, f2] at h <;> simp only [if_true, if_false, Bool.false_eq_true] at h
      · by_cases ha1 : a + 1 < s.length
        · by_cases hb1 : b + 1 < s.length
          · exact ih (a + 1) (b + 1) (by omega) ha1 hb1 h
          · rw [cutW_end (a := b + 1) (by omega), cutW_cons ha1] at h
            exact absurd h (by rw [cmpI]; decide)
        · by_cases hb1 : b + 1 < s.length
          · exact ltE_end (by omega) hb1
          · rw [cutW_end (a := a + 1) (by omega), cutW_end (a := b + 1) (by omega)] at h
            exact absurd h (by decide)
      · obtain ⟨k1, k2, k3⟩ := ahead_first f2
        by_cases ha1 : a + 1 < s.length
        · have k4 := behind_large (by rw [c2]; exact k1) f1
          rw [cutW_cons ha1] at h
          rcases Int.lt_trichotomy (codeI s (a + 1)) (codeI s (b + 1)) with hc2 | hc2 | hc2
          · exact codeI_lt ha1 k3 hc2
          · have := (codeI_eq hc2).2
            rw [k4, k2] at this
            cases this
          · rw [cmpI, if_neg (by omega), if_pos hc2] at h
            omega
        · exact ltE_end (by omega) k3
      · obtain ⟨k1, k2, k3⟩ := ahead_first f1
        by_cases hb1 : b + 1 < s.length
        · have k4 := behind_large (by rw [← c2]; exact k1) f2
          rw [cutW_cons hb1] at h
          rcases Int.lt_trichotomy (codeI s (a + 1)) (codeI s (b + 1)) with hc2 | hc2 | hc2
          · exact codeI_lt k3 hb1 hc2
          · have := (codeI_eq hc2).2
            rw [k4, k2] at this
            cases this
          · rw [cmpI, if_neg (by omega), if_pos hc2] at h
            omega
        · rw [cutW_end (a := b + 1) (by omega)] at h
          exact absurd h (by rw [cmpI]; decide)
      · obtain ⟨k1, k2, k3⟩ := ahead_first f1
        obtain ⟨k4, k5, k6⟩ := ahead_first f2
        rcases Int.lt_trichotomy (codeI s (a + 1)) (codeI s (b + 1)) with hc2 | hc2 | hc2
        · exact codeI_lt k3 k6 hc2
        · rw [hc2, cmpI_tail] at h
          exact absurd h (by decide)
        · rw [cmpI, if_neg (by omega), if_pos hc2] at h
          omega
    · rw [cmpI, if_neg (by omega), if_pos hc] at h
      omega

/-- Parts that are one end as far off, both at a first place. -/
theorem cut_same {s : List Int} : ∀ (d a b : Nat), s.length - a = d → a < s.length → b < s.length → a ≠ b → cutW s a = cutW s b →
    ∃ e, 1 ≤ e ∧ fsB s (a + e) = true ∧ fsB s (b + e) = true ∧ (∀ x, 1 ≤ x → x < e → fsB s (a + x) = false ∧ fsB s (b + x) = false) ∧ (ltE s a b ↔ ltE s (a + e) (b + e)) := by
  intro d
  induction d with
  | zero => intro a b h1 h2; omega
  | succ d ih =>
    intro a b hd ha hb hne h
    rw [cutW_cons ha, cutW_cons hb] at h
    simp only [List.cons.injEq] at h
    obtain ⟨hc, h⟩ := h
    obtain ⟨c1, c2⟩ := codeI_eq hc
    cases f1 : fsB s (a + 1) <;> cases f2 : fsB s (b + 1) <;> rw [f1, f2] at h <;> simp only [if_true, if_false, Bool.false_eq_true] at h
    · by_cases ha1 : a + 1 < s.length
      · by_cases hb1 : b + 1 < s.length
        · obtain ⟨e, e1, e2, e3, e4, e5⟩ := ih (a + 1) (b + 1) (by omega) ha1 hb1 (by omega) h
          refine ⟨e + 1, by omega, ?_, ?_, fun x h1 h2 => ?_, ?_⟩
          · rw [show a + (e + 1) = a + 1 + e by omega]; exact e2
          · rw [show b + (e + 1) = b + 1 + e by omega]; exact e3
          · by_cases hx : x = 1
            · subst hx
              exact ⟨f1, f2⟩
            · have := e4 (x - 1) (by omega) (by omega)
              rw [show a + 1 + (x - 1) = a + x by omega, show b + 1 + (x - 1) = b + x by omega] at this
              exact this
          · rw [ltE_same ha hb c1, e5, show a + (e + 1) = a + 1 + e by omega, show b + (e + 1) = b + 1 + e by omega]
        · rw [cutW_end (a := b + 1) (by omega), cutW_cons ha1] at h
          cases h
      · by_cases hb1 : b + 1 < s.length
        · rw [cutW_end (a := a + 1) (by omega), cutW_cons hb1] at h
          cases h
        · omega
    · obtain ⟨k1, k2, k3⟩ := ahead_first f2
      by_cases ha1 : a + 1 < s.length
      · have k4 := behind_large (by rw [c2]; exact k1) f1
        rw [cutW_cons ha1] at h
        simp only [List.cons.injEq] at h
        have := (codeI_eq h.1).2
        rw [k4, k2] at this
        cases this
      · rw [cutW_end (a := a + 1) (by omega)] at h
        cases h
    · obtain ⟨k1, k2, k3⟩ := ahead_first f1
      by_cases hb1 : b + 1 < s.length
      · have k4 := behind_large (by rw [← c2]; exact k1) f2
        rw [cutW_cons hb1] at h
        simp only [List.cons.injEq] at h
        have := (codeI_eq h.1).2
        rw [k4, k2] at this
        cases this
      · rw [cutW_end (a := b + 1) (by omega)] at h
        cases h
    · exact ⟨1, Nat.le_refl _, f1, f2, fun x h1 h2 => by omega, ltE_same ha hb c1⟩
end Go.Proofs.Ytabgbioocfdjiaa
