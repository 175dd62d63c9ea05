/- The least rotation of a row of numbers. Plain numbers, no conditions. -/
import Derived.Test.YtjccpkekhjhafaaRepMath
namespace Go.Proofs.Ytjccpkekhjhafaa
set_option linter.unusedVariables false
set_option linter.unusedSimpArgs false

/-- The least rotation among the first m + 1, the first such. -/
def atN (s : List Int) : Nat → Nat
  | 0 => 0
  | m + 1 => if cmpI (turnI s (m + 1)) (turnI s (atN s m)) < 0 then m + 1 else atN s m
/-- Where the least rotation begins. -/
def atI (s : List Int) : Nat := atN s (s.length - 1)

/-- Rotation a is the least, and none ahead of it is. -/
def IsAt (s : List Int) (a : Nat) : Prop := a < s.length ∧ ∀ j, j < s.length → cmpI (turnI s a) (turnI s j) ≤ 0 ∧ (j < a → cmpI (turnI s a) (turnI s j) < 0)

theorem cmpI_lt_trans {x y z : List Int} (h : cmpI x y < 0) (k : cmpI y z ≤ 0) : cmpI x z < 0 := by
  have h1 := cmpI_trans x y z (by omega) k
  rcases cmpI_three x z with h2 | h2 | h2
  · omega
  · have := cmpI_zero h2
    subst this
    have := cmpI_swap x y
    omega
  · omega
theorem cmpI_trans_lt {x y z : List Int} (h : cmpI x y ≤ 0) (k : cmpI y z < 0) : cmpI x z < 0 := by
  have h1 := cmpI_trans x y z h (by omega)
  rcases cmpI_three x z with h2 | h2 | h2
  · omega
  · have := cmpI_zero h2
    subst this
    have := cmpI_swap x y
    omega
  · omega

theorem atN_spec (s : List Int) : ∀ m, atN s m ≤ m ∧ ∀ j, j ≤ m → cmpI (turnI s (atN s m)) (turnI s j) ≤ 0 ∧ (j < atN s m → cmpI (turnI s (atN s m)) (turnI s j) < 0) := by
  intro m
  induction m with
  | zero =>
    refine ⟨Nat.le_refl _, fun j hj => ?_⟩
    have : j = 0 := by omega
    subst this
    exact ⟨by rw [atN, cmpI_self]; omega, fun h => by simp [atN] at h⟩
  | succ m ih =>
    obtain ⟨h1, h2⟩ := ih
    unfold atN
    by_cases h : cmpI (turnI s (m + 1)) (turnI s (atN s m)) < 0
    · rw [if_pos h]
      refine ⟨Nat.le_refl _, fun j hj => ?_⟩
      by_cases hjm : j = m + 1
      · subst hjm
        exact ⟨by rw [cmpI_self]; omega, fun h => by omega⟩
      · have := cmpI_lt_trans h (h2 j (by omega)).1
        exact ⟨by omega, fun _ => this⟩
    · rw [if_neg h]
      refine ⟨by omega, fun j hj => ?_⟩
      by_cases hjm : j = m + 1
      · subst hjm
        have := cmpI_swap (turnI s (m + 1)) (turnI s (atN s m))
        exact ⟨by omega, fun h => by omega⟩
      · exact h2 j (by omega)
theorem atI_spec {s : List Int} (h : 0 < s.length) : IsAt s (atI s) := by
  obtain ⟨h1, h2⟩ := atN_spec s (s.length - 1)
  exact ⟨by unfold atI; omega, fun j hj => h2 j (by omega)⟩
theorem IsAt.eq {s : List Int} {a : Nat} (h : IsAt s a) : atI s = a := by
  have k := atI_spec (s := s) (by have := h.1; omega)
  by_cases h1 : atI s < a
  · have := (h.2 _ k.1).2 h1
    have := (k.2 _ h.1).1
    have := cmpI_swap (turnI s a) (turnI s (atI s))
    omega
  · by_cases h2 : a < atI s
    · have := (k.2 _ h.1).2 h2
      have := (h.2 _ k.1).1
      have := cmpI_swap (turnI s a) (turnI s (atI s))
      omega
    · omega
theorem atI_nil : atI [] = 0 := rfl
theorem atI_le (s : List Int) : atI s ≤ s.length := by
  have := (atN_spec s (s.length - 1)).1
  unfold atI
  omega

/-- The first other one tells. -/
theorem cmpI_first {x y : List Int} : ∀ {m : Nat}, m < x.length → m < y.length → (∀ k, k < m → x.getD k 0 = y.getD k 0) → x.getD m 0 < y.getD m 0 → cmpI x y = -1 := by
  intro m hx hy he hl
  have key : ∀ k, k ≤ m → cmpI x y = cmpI (x.drop k) (y.drop k) := by
    intro k
    induction k with
    | zero => intro _; simp
    | succ k ih =>
      intro hk
      rw [ih (by omega), cmpI_same (by omega) (by omega) (he k (by omega))]
  rw [key m (Nat.le_refl _), cmpI_lt hx hy hl]

/-- Rotations i and j differ first at byte m: so do those begun t bytes later. -/
theorem turn_shift {s : List Int} {i j m t : Nat} (hi : i < s.length) (hj : j < s.length) (hm : m < s.length) (ht : t ≤ m) (hjt : j + t < s.length)
    (he : ∀ k, k < m → (turnI s i).getD k 0 = (turnI s j).getD k 0) (hl : (turnI s i).getD m 0 < (turnI s j).getD m 0) : cmpI (turnI s ((i + t) % s.length)) (turnI s (j + t)) < 0 := by
  have hit : (i + t) % s.length < s.length := Nat.mod_lt _ (by omega)
  have e1 : ∀ k, k + t ≤ m → (turnI s ((i + t) % s.length)).getD k 0 = (turnI s i).getD (k + t) 0 := fun k hk => by
    rw [turnI_at hit (by omega), turnI_at hi (by omega), Nat.mod_add_mod]
    congr 2
    omega
  have e2 : ∀ k, k + t ≤ m → (turnI s (j + t)).getD k 0 = (turnI s j).getD (k + t) 0 := fun k hk => by
    rw [turnI_at hjt (by omega), turnI_at hj (by omega)]
    congr 2
    omega
  have := cmpI_first (x := turnI s ((i + t) % s.length)) (y := turnI s (j + t)) (m := m - t) (by rw [turnI_len (by omega)]; omega) (by rw [turnI_len (by omega)]; omega)
    (fun k hk => by rw [e1 k (by omega), e2 k (by omega), he _ (by omega)]) (by rw [e1 _ (by omega), e2 _ (by omega), show m - t + t = m by omega]; exact hl)
  omega

/-- What the search keeps. -/
def Seek (s : List Int) (p q : Nat) : Prop := p < q ∧ (atI s = p ∨ q ≤ atI s)

theorem Seek.less {s : List Int} {p q m : Nat} (h : Seek s p q) (hq : q < s.length) (hm : m < s.length) (he : ∀ k, k < m → (turnI s p).getD k 0 = (turnI s q).getD k 0)
    (hl : (turnI s p).getD m 0 < (turnI s q).getD m 0) : Seek s p (q + (m + 1)) := by
  obtain ⟨h1, h2⟩ := h
  refine ⟨by omega, ?_⟩
  have hA := atI_spec (s := s) (by omega)
  rcases h2 with h2 | h2
  · exact .inl h2
  · by_cases h3 : q + (m + 1) ≤ atI s
    · exact .inr h3
    · have hk := turn_shift (s := s) (i := p) (j := q) (m := m) (t := atI s - q) (by omega) hq hm (by omega) (by have := hA.1; omega) he hl
      rw [show q + (atI s - q) = atI s by omega] at hk
      have h4 := (hA.2 ((p + (atI s - q)) % s.length) (Nat.mod_lt _ (by omega))).1
      rw [cmpI_swap] at h4
      omega
theorem Seek.greater {s : List Int} {p q m : Nat} (h : Seek s p q) (hq : q < s.length) (hm : m < s.length) (he : ∀ k, k < m → (turnI s p).getD k 0 = (turnI s q).getD k 0)
    (hl : (turnI s q).getD m 0 < (turnI s p).getD m 0) : Seek s (max q (p + m + 1)) (max q (p + m + 1) + 1) := by
  obtain ⟨h1, h2⟩ := h
  refine ⟨by omega, ?_⟩
  have hA := atI_spec (s := s) (by omega)
  have key : ¬ (p ≤ atI s ∧ atI s ≤ p + m) := fun ⟨k1, k2⟩ => by
    have hk := turn_shift (s := s) (i := q) (j := p) (m := m) (t := atI s - p) hq (by omega) hm (by omega) (by have := hA.1; omega) (fun k hk => (he k hk).symm) hl
    rw [show p + (atI s - p) = atI s by omega] at hk
    have h4 := (hA.2 ((q + (atI s - p)) % s.length) (Nat.mod_lt _ (by omega))).1
    rw [cmpI_swap] at h4
    omega
  omega
theorem Seek.same {s : List Int} {p q : Nat} (h : Seek s p q) (hq : q < s.length) (he : turnI s p = turnI s q) : atI s = p := by
  obtain ⟨h1, h2⟩ := h
  have hA := atI_spec (s := s) (by omega)
  rcases h2 with h2 | h2
  · exact h2
  · exfalso
    obtain ⟨d, rfl⟩ : ∃ d, q = p + d := ⟨q - p, by omega⟩
    have hn : 0 < s.length := by omega
    have hr : ∀ x, s.getD (x % s.length) 0 = s.getD ((x + d) % s.length) 0 := fun x => by
      have h3 := congrArg (fun l => l.getD ((x + (s.length - p)) % s.length) 0) he
      rw [turnI_at (by omega) (Nat.mod_lt _ hn), turnI_at hq (Nat.mod_lt _ hn), Nat.add_mod_mod, Nat.add_mod_mod, show p + (x + (s.length - p)) = x + s.length by omega,
        show p + d + (x + (s.length - p)) = x + d + s.length by omega, Nat.add_mod_right, Nat.add_mod_right] at h3
      exact h3
    have hb : atI s - d < s.length := by have := hA.1; omega
    have e : turnI s (atI s - d) = turnI s (atI s) := by
      refine getD_ext (by rw [turnI_len (by omega), turnI_len (Nat.le_of_lt hA.1)]) fun k hk => ?_
      rw [turnI_len (by omega)] at hk
      rw [turnI_at hb hk, turnI_at hA.1 hk, hr, show atI s - d + k + d = atI s + k by omega]
    have := (hA.2 _ hb).2 (by omega)
    rw [e, cmpI_self] at this
    omega
theorem Seek.done {s : List Int} {p q : Nat} (h : Seek s p q) (h0 : 0 < s.length) (hq : s.length ≤ q) : atI s = p := by
  have := (atI_spec h0).1
  have := h.2
  omega
theorem Seek.start {s : List Int} : Seek s 0 1 := ⟨by omega, by omega⟩
theorem Seek.lt {s : List Int} {p q : Nat} (h : Seek s p q) (h0 : 0 < s.length) : p < s.length := by
  have := (atI_spec h0).1
  have := h.1
  have := h.2
  omega

/-- The rotations of a rotation. -/
theorem turn_turn {s : List Int} {i j : Nat} (hi : i < s.length) (hj : j < s.length) : turnI (turnI s i) j = turnI s ((i + j) % s.length) := by
  have hL := turnI_len (s := s) (i := i) (by omega)
  have hm : (i + j) % s.length < s.length := Nat.mod_lt _ (by omega)
  refine getD_ext (by rw [turnI_len (by omega), hL, turnI_len (by omega)]) fun k hk => ?_
  rw [turnI_len (by omega), hL] at hk
  rw [turnI_at (by omega) (by omega), hL, turnI_at hi (Nat.mod_lt _ (by omega)), turnI_at hm hk, Nat.mod_add_mod, Nat.add_mod_mod]
  congr 2
  omega
theorem turn_zero (s : List Int) : turnI s 0 = s := by simp [turnI]

def ofI (s : List Int) : List Int := turnI s (atI s)
theorem ofI_len (s : List Int) : (ofI s).length = s.length := turnI_len (atI_le s)
/-- All rotations of a row have one least one. -/
theorem ofI_turn {s : List Int} {k : Nat} (hk : k < s.length) : ofI (turnI s k) = ofI s := by
  have hL := turnI_len (s := s) (i := k) (by omega)
  have hA := atI_spec (s := s) (by omega)
  have hB := atI_spec (s := turnI s k) (by omega)
  have hb := hB.1
  rw [hL] at hb
  have e1 : ofI (turnI s k) = turnI s ((k + atI (turnI s k)) % s.length) := turn_turn hk hb
  have h1 := (hA.2 ((k + atI (turnI s k)) % s.length) (Nat.mod_lt _ (by omega))).1
  have h2 := (hB.2 ((atI s + (s.length - k)) % s.length) (by rw [hL]; exact Nat.mod_lt _ (by omega))).1
  rw [turn_turn hk (Nat.mod_lt _ (by omega)), Nat.add_mod_mod, show k + (atI s + (s.length - k)) = atI s + s.length by omega, Nat.add_mod_right, Nat.mod_eq_of_lt hA.1] at h2
  rw [← e1] at h1
  change cmpI (ofI s) _ ≤ 0 at h1
  change cmpI (ofI (turnI s k)) (ofI s) ≤ 0 at h2
  have h3 := cmpI_swap (ofI s) (ofI (turnI s k))
  exact cmpI_zero (by omega)
/-- The least rotation is its own. -/
theorem atI_of (s : List Int) : atI (ofI s) = 0 := by
  by_cases h0 : s.length = 0
  · have : s = [] := List.length_eq_zero_iff.1 h0
    subst this
    rfl
  · have hA := atI_spec (s := s) (by omega)
    refine IsAt.eq ⟨by rw [ofI_len]; omega, fun j hj => ⟨?_, fun h => by omega⟩⟩
    rw [ofI_len] at hj
    have := (hA.2 ((atI s + j) % s.length) (Nat.mod_lt _ (by omega))).1
    rw [turn_zero]
    unfold ofI
    rw [turn_turn hA.1 hj]
    exact this

theorem cmpI_app {x y u v : List Int} : ∀ (hl : x.length = y.length) (h : cmpI x y ≠ 0), cmpI (x ++ u) (y ++ v) = cmpI x y := by
  intro hl h
  induction x generalizing y with
  | nil =>
    cases y with
    | nil => exact absurd rfl h
    | cons b y => simp at hl
  | cons a x ih =>
    cases y with
    | nil => simp at hl
    | cons b y =>
      simp only [List.cons_append, cmpI] at h ⊢
      by_cases h1 : a < b
      · rw [if_pos h1, if_pos h1]
      · by_cases h2 : b < a
        · rw [if_neg h1, if_pos h2, if_neg h1, if_pos h2]
        · rw [if_neg h1, if_neg h2] at h
          rw [if_neg h1, if_neg h2, if_neg h1, if_neg h2]
          exact ih (by simpa using hl) h
theorem cmpI_rep {x y : List Int} {n : Nat} (hl : x.length = y.length) (hn : 0 < n) : cmpI (repI x n) (repI y n) = cmpI x y := by
  by_cases h : cmpI x y = 0
  · have := cmpI_zero h
    subst this
    rw [cmpI_self, cmpI_self]
  · cases n with
    | zero => omega
    | succ n => rw [repI_cons, repI_cons, cmpI_app hl h]
theorem turnI_repI (x : List Int) (n i : Nat) (hi : i < n * x.length) : turnI (repI x n) i = repI (turnI x (i % x.length)) n := by
  have hN := repI_len x n
  have hm : 0 < x.length := Nat.pos_of_ne_zero fun h => by rw [h] at hi; omega
  have him : i % x.length < x.length := Nat.mod_lt _ hm
  have hL := turnI_len (s := x) (i := i % x.length) (by omega)
  refine getD_ext (by rw [turnI_len (by omega), repI_len, repI_len, hL]) fun k hk => ?_
  rw [turnI_len (by omega), hN] at hk
  have hkm : k % x.length < x.length := Nat.mod_lt _ hm
  rw [turnI_at (by omega) (by omega), hN, repI_at _ _ _ (Nat.mod_lt _ (by omega)), repI_at _ _ _ (by rw [hL]; exact hk), hL, turnI_at him hkm, Nat.mod_mul_left_mod]
  congr 1
  rw [← Nat.add_mod]
/-- Of a row again and again it begins within the first one. -/
theorem atI_rep {x : List Int} {n : Nat} (hx : 0 < x.length) (hn : 0 < n) : atI (repI x n) = atI x := by
  have hA := atI_spec hx
  have hN := repI_len x n
  have hle : x.length ≤ n * x.length := Nat.le_mul_of_pos_left _ hn
  refine IsAt.eq ⟨by have := hA.1; omega, fun j hj => ?_⟩
  rw [hN] at hj
  have hjm : j % x.length < x.length := Nat.mod_lt _ hx
  have e : cmpI (turnI (repI x n) (atI x)) (turnI (repI x n) j) = cmpI (turnI x (atI x)) (turnI x (j % x.length)) := by
    rw [turnI_repI _ _ _ (by have := hA.1; omega), turnI_repI _ _ _ hj, Nat.mod_eq_of_lt hA.1, cmpI_rep (by rw [turnI_len (by have := hA.1; omega), turnI_len (by omega)]) hn]
  rw [e]
  refine ⟨(hA.2 _ hjm).1, fun h => (hA.2 _ hjm).2 ?_⟩
  rw [Nat.mod_eq_of_lt (by have := hA.1; omega)]
  exact h
end Go.Proofs.Ytjccpkekhjhafaa
