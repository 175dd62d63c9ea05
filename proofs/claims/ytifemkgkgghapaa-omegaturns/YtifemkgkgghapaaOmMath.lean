/- Words without end, compared. Plain numbers, no conditions. -/
import Derived.Test.YtifemkgkgghapaaPerMath
namespace Go.Proofs.Ytifemkgkgghapaa
set_option linter.unusedVariables false
set_option linter.unusedSimpArgs false

/-- The k-th of a word without end. -/
def atW (u : List Int) (k : Nat) : Int := u.getD (k % u.length) 0
/-- The first n of a word without end; of the empty one nothing. -/
def infI (u : List Int) (n : Nat) : List Int := (repI u n).take n
/-- -1, 0, 1. -/
def omI (u v : List Int) : Int := cmpI (infI u (u.length + v.length)) (infI v (u.length + v.length))

theorem infI_nil (n : Nat) : infI [] n = [] := by
  have : (repI [] n).length = 0 := by rw [repI_len]; simp
  unfold infI
  rw [List.length_eq_zero_iff.1 this]; simp
theorem infI_len {u : List Int} (n : Nat) (h : 0 < u.length) : (infI u n).length = n := by
  unfold infI
  rw [List.length_take, repI_len]
  have : n * 1 ≤ n * u.length := Nat.mul_le_mul_left n h
  omega
theorem infI_at {u : List Int} {n k : Nat} (h : 0 < u.length) (hk : k < n) : (infI u n).getD k 0 = atW u k := by
  have : n * 1 ≤ n * u.length := Nat.mul_le_mul_left n h
  unfold infI
  rw [take_getD _ _ _ hk, repI_at _ _ _ (by omega)]
  rfl

theorem atW_per (u : List Int) (k : Nat) : atW u (k + u.length) = atW u k := by unfold atW; rw [Nat.add_mod_right]

/-- Words that are alike for as many as both have together are alike without end. -/
theorem atW_same {u v : List Int} (hu : 0 < u.length) (hv : 0 < v.length) (h : ∀ k, k < u.length + v.length → atW u k = atW v k) : ∀ k, atW u k = atW v k := by
  obtain ⟨x, hx⟩ : ∃ x, x = infI u (u.length + v.length) := ⟨_, rfl⟩
  have hl : x.length = u.length + v.length := by rw [hx, infI_len _ hu]
  have hxa : ∀ k, k < u.length + v.length → x.getD k 0 = atW u k := fun k hk => by rw [hx]; exact infI_at hu hk
  have p1 : Per x (u.length + v.length) u.length := fun i hi => by rw [hxa i (by omega), hxa _ hi, atW_per]
  have p2 : Per x (u.length + v.length) v.length := fun i hi => by rw [hxa i (by omega), hxa _ hi, h i (by omega), h _ hi, atW_per]
  have pg := Per.gcd _ _ _ (Nat.le_refl _) (Nat.le_refl _) p1 p2
  have hg : 0 < Nat.gcd u.length v.length := Nat.gcd_pos_of_pos_left _ hu
  intro k
  have h1 : atW u k = x.getD (k % Nat.gcd u.length v.length) 0 := by
    have hm : k % u.length < u.length := Nat.mod_lt _ hu
    have e : atW u k = atW u (k % u.length) := by unfold atW; rw [Nat.mod_mod]
    rw [e, ← hxa _ (by omega), pg.mod hg _ (by omega), Nat.mod_mod_of_dvd _ (Nat.gcd_dvd_left _ _)]
  have h2 : atW v k = x.getD (k % Nat.gcd u.length v.length) 0 := by
    have hm : k % v.length < v.length := Nat.mod_lt _ hv
    have e : atW v k = atW v (k % v.length) := by unfold atW; rw [Nat.mod_mod]
    rw [e, ← h _ (by omega), ← hxa _ (by omega), pg.mod hg _ (by omega), Nat.mod_mod_of_dvd _ (Nat.gcd_dvd_right _ _)]
  rw [h1, h2]

/-- Less, place by place. -/
def LtF (f g : Nat → Int) : Prop := ∃ m, (∀ k, k < m → f k = g k) ∧ f m < g m
theorem LtF.irr {f g : Nat → Int} (h : LtF f g) (k : LtF g f) : False := by
  obtain ⟨m, h1, h2⟩ := h
  obtain ⟨n, k1, k2⟩ := k
  rcases Nat.lt_trichotomy m n with g | g | g
  · have := k1 m g; omega
  · subst g; omega
  · have := h1 n g; omega
theorem LtF.trans {f g h : Nat → Int} (a : LtF f g) (b : LtF g h) : LtF f h := by
  obtain ⟨m, h1, h2⟩ := a
  obtain ⟨n, k1, k2⟩ := b
  rcases Nat.lt_trichotomy m n with q | q | q
  · exact ⟨m, fun k hk => (h1 k hk).trans (k1 k (by omega)), by rw [← k1 m q]; exact h2⟩
  · subst q; exact ⟨m, fun k hk => (h1 k hk).trans (k1 k hk), by omega⟩
  · exact ⟨n, fun k hk => (h1 k (by omega)).trans (k1 k hk), by rw [h1 n q]; exact k2⟩
theorem first_other {f g : Nat → Int} : ∀ n, (∀ k, k < n → f k = g k) ∨ ∃ m, m < n ∧ (∀ k, k < m → f k = g k) ∧ f m ≠ g m
  | 0 => .inl fun k hk => by omega
  | n + 1 => by
    rcases first_other (f := f) (g := g) n with h | ⟨m, h1, h2, h3⟩
    · by_cases e : f n = g n
      · refine .inl fun k hk => ?_
        by_cases hk2 : k = n
        · subst hk2; exact e
        · exact h k (by omega)
      · exact .inr ⟨n, by omega, h, e⟩
    · exact .inr ⟨m, by omega, h2, h3⟩

/-- As the first other one tells. -/
theorem cmpI_first {x y : List Int} {m : Nat} (hx : m < x.length) (hy : m < y.length) (h : ∀ k, k < m → x.getD k 0 = y.getD k 0) (hne : x.getD m 0 ≠ y.getD m 0) : cmpI x y = if x.getD m 0 < y.getD m 0 then -1 else 1 := by
  have key : ∀ k, k ≤ m → cmpI x y = cmpI (x.drop k) (y.drop k) := by
    intro k
    induction k with
    | zero => intro _; simp
    | succ k ih => intro hk; rw [ih (by omega), cmpI_same (by omega) (by omega) (h k (by omega))]
  rw [key m (Nat.le_refl _)]
  by_cases hlt : x.getD m 0 < y.getD m 0
  · rw [if_pos hlt, cmpI_lt hx hy hlt]
  · rw [if_neg hlt, cmpI_gt hx hy (by omega)]

/-- However much is looked at, if it is enough. -/
theorem omI_eq (u v : List Int) (N : Nat) (hN : u.length + v.length ≤ N) : cmpI (infI u N) (infI v N) = omI u v := by
  unfold omI
  by_cases hu : u = []
  · subst hu
    by_cases hv : v = []
    · subst hv; simp only [infI_nil]
    · have hv' : 0 < v.length := List.length_pos_iff.2 hv
      have e : ∀ n, 0 < n → cmpI [] (infI v n) = -1 := fun n hn => by
        have hl := infI_len n hv'
        cases hc : infI v n with
        | nil => rw [hc] at hl; simp at hl; omega
        | cons a l => rfl
      simp only [infI_nil]
      simp at hN
      rw [e _ (by omega), e _ (by simp; omega)]
  · have hu' : 0 < u.length := List.length_pos_iff.2 hu
    by_cases hv : v = []
    · subst hv
      have e : ∀ n, 0 < n → cmpI (infI u n) [] = 1 := fun n hn => by
        have hl := infI_len n hu'
        cases hc : infI u n with
        | nil => rw [hc] at hl; simp at hl; omega
        | cons a l => rfl
      simp only [infI_nil]
      simp at hN
      rw [e _ (by omega), e _ (by simp; omega)]
    · have hv' : 0 < v.length := List.length_pos_iff.2 hv
      have e : ∀ n, u.length + v.length ≤ n → (∀ k, k < u.length + v.length → atW u k = atW v k) → cmpI (infI u n) (infI v n) = 0 := fun n hn h => by
        have : infI u n = infI v n := getD_ext (by rw [infI_len _ hu', infI_len _ hv']) fun k hk => by
          rw [infI_len _ hu'] at hk
          rw [infI_at hu' hk, infI_at hv' hk, atW_same hu' hv' h k]
        rw [this, cmpI_self]
      have e2 : ∀ n m, m < n → (∀ k, k < m → atW u k = atW v k) → atW u m ≠ atW v m → cmpI (infI u n) (infI v n) = if atW u m < atW v m then -1 else 1 := fun n m hm h hne => by
        have := cmpI_first (x := infI u n) (y := infI v n) (m := m) (by rw [infI_len _ hu']; exact hm) (by rw [infI_len _ hv']; exact hm)
          (fun k hk => by rw [infI_at hu' (by omega), infI_at hv' (by omega)]; exact h k hk) (by rw [infI_at hu' hm, infI_at hv' hm]; exact hne)
        rw [infI_at hu' hm, infI_at hv' hm] at this
        exact this
      rcases first_other (f := atW u) (g := atW v) (u.length + v.length) with h | ⟨m, h1, h2, h3⟩
      · rw [e _ hN h, e _ (Nat.le_refl _) h]
      · rw [e2 N m (by omega) h2 h3, e2 _ m h1 h2 h3]

theorem omI_none_left {v : List Int} (hv : 0 < v.length) : omI [] v = -1 := by
  unfold omI
  rw [infI_nil]
  have hl := infI_len (([] : List Int).length + v.length) hv
  cases hc : infI v (([] : List Int).length + v.length) with
  | nil => rw [hc] at hl; simp at hl; omega
  | cons a l => rfl
theorem omI_swap (u v : List Int) : omI v u = - omI u v := by
  unfold omI
  rw [Nat.add_comm v.length, cmpI_swap]
theorem omI_none_right {v : List Int} (hv : 0 < v.length) : omI v [] = 1 := by rw [omI_swap, omI_none_left hv]; rfl
theorem omI_nil : omI [] [] = 0 := by decide
theorem omI_other {u v : List Int} (hu : 0 < u.length) (hv : 0 < v.length) {m : Nat} (hm : m < u.length + v.length) (h : ∀ k, k < m → atW u k = atW v k) (hne : atW u m ≠ atW v m) : omI u v = if atW u m < atW v m then -1 else 1 := by
  unfold omI
  have := cmpI_first (x := infI u (u.length + v.length)) (y := infI v (u.length + v.length)) (m := m) (by rw [infI_len _ hu]; exact hm) (by rw [infI_len _ hv]; exact hm)
    (fun k hk => by rw [infI_at hu (by omega), infI_at hv (by omega)]; exact h k hk) (by rw [infI_at hu hm, infI_at hv hm]; exact hne)
  rw [infI_at hu hm, infI_at hv hm] at this
  exact this
theorem omI_same {u v : List Int} (hu : 0 < u.length) (hv : 0 < v.length) (h : ∀ k, k < u.length + v.length → atW u k = atW v k) : omI u v = 0 := by
  have : infI u (u.length + v.length) = infI v (u.length + v.length) := getD_ext (by rw [infI_len _ hu, infI_len _ hv]) fun k hk => by
    rw [infI_len _ hu] at hk
    rw [infI_at hu hk, infI_at hv hk, h k hk]
  unfold omI
  rw [this, cmpI_self]
theorem omI_zero {u v : List Int} (hu : 0 < u.length) (hv : 0 < v.length) : omI u v = 0 ↔ ∀ k, atW u k = atW v k := by
  constructor
  · intro h
    have := cmpI_zero h
    refine atW_same hu hv fun k hk => ?_
    rw [← infI_at hu hk, this, infI_at hv hk]
  · exact fun h => omI_same hu hv fun k _ => h k
theorem omI_neg {u v : List Int} (hu : 0 < u.length) (hv : 0 < v.length) : omI u v < 0 ↔ LtF (atW u) (atW v) := by
  rcases first_other (f := atW u) (g := atW v) (u.length + v.length) with h | ⟨m, h1, h2, h3⟩
  · rw [omI_same hu hv h]
    constructor
    · intro h; omega
    · rintro ⟨m, _, h2⟩
      have := atW_same hu hv h m
      omega
  · rw [omI_other hu hv h1 h2 h3]
    by_cases hlt : atW u m < atW v m
    · rw [if_pos hlt]
      exact ⟨fun _ => ⟨m, h2, hlt⟩, fun _ => by omega⟩
    · rw [if_neg hlt]
      refine ⟨fun h => by omega, fun h => absurd h fun h => ?_⟩
      have hgt : LtF (atW v) (atW u) := ⟨m, fun k hk => (h2 k hk).symm, by omega⟩
      exact (LtF.irr h hgt).elim

theorem omI_three (u v : List Int) : omI u v = -1 ∨ omI u v = 0 ∨ omI u v = 1 := cmpI_three _ _

/-- Of three, through the middle one. -/
theorem omI_trans (u v w : List Int) (h : omI u v ≤ 0) (h' : omI v w ≤ 0) : omI u w ≤ 0 := by
  have hN : ∀ a b : List Int, a.length + b.length ≤ u.length + v.length + w.length → cmpI (infI a (u.length + v.length + w.length)) (infI b (u.length + v.length + w.length)) = omI a b := fun a b h => omI_eq a b _ h
  rw [← hN u v (by omega)] at h
  rw [← hN v w (by omega)] at h'
  rw [← hN u w (by omega)]
  exact cmpI_trans _ _ _ h h'
theorem omI_alike (u v w : List Int) (h : omI u v = 0) : omI v w = omI u w := by
  have hN : ∀ a b : List Int, a.length + b.length ≤ u.length + v.length + w.length → cmpI (infI a (u.length + v.length + w.length)) (infI b (u.length + v.length + w.length)) = omI a b := fun a b h => omI_eq a b _ h
  rw [← hN u v (by omega)] at h
  rw [← hN v w (by omega), ← hN u w (by omega), cmpI_zero h]

/-- A word again and again is the same without end. -/
theorem atW_rep {u : List Int} {n : Nat} (hn : 0 < n) (hu : 0 < u.length) (k : Nat) : atW (repI u n) k = atW u k := by
  unfold atW
  rw [repI_at _ _ _ (by rw [repI_len]; exact Nat.mod_lt _ (Nat.mul_pos hn hu)), repI_len, Nat.mod_mul_left_mod]
theorem omI_rep {u : List Int} {a b : Nat} (hu : 0 < u.length) (ha : 0 < a) (hb : 0 < b) : omI (repI u a) (repI u b) = 0 :=
  (omI_zero (by rw [repI_len]; exact Nat.mul_pos ha hu) (by rw [repI_len]; exact Nat.mul_pos hb hu)).2 fun k => by rw [atW_rep ha hu, atW_rep hb hu]
theorem repI_root {u : List Int} (hu : 0 < u.length) : repI (u.take (rootN u)) (u.length / rootN u) = u := by
  obtain ⟨a1, a2, a3, a4, _⟩ := rootN_spec hu
  have hl : (u.take (rootN u)).length = rootN u := by rw [List.length_take]; omega
  have hm : u.length / rootN u * rootN u = u.length := Nat.div_mul_cancel a3
  refine getD_ext (by rw [repI_len, hl, hm]) fun k hk => ?_
  rw [repI_len, hl, hm] at hk
  rw [repI_at _ _ _ (by rw [hl, hm]; exact hk), hl, take_getD _ _ _ (Nat.mod_lt _ a1), ← a4.mod a1 k hk]
/-- The same without end just if there is one root. -/
theorem omI_root {u v : List Int} (hu : 0 < u.length) (hv : 0 < v.length) : omI u v = 0 ↔ u.take (rootN u) = v.take (rootN v) := by
  constructor
  · intro h
    have h1 := (omI_zero hu hv).1 h
    have e : repI u v.length = repI v u.length := by
      refine getD_ext (by rw [repI_len, repI_len, Nat.mul_comm]) fun k hk => ?_
      rw [repI_len] at hk
      rw [repI_at _ _ _ hk, repI_at _ _ _ (by rw [Nat.mul_comm]; exact hk)]
      exact h1 k
    rw [← root_rep hu hv, ← root_rep hv hu, e]
  · intro h
    obtain ⟨a1, a2, a3, _⟩ := rootN_spec hu
    obtain ⟨b1, b2, b3, _⟩ := rootN_spec hv
    have := omI_rep (u := u.take (rootN u)) (a := u.length / rootN u) (b := v.length / rootN v) (by rw [List.length_take]; omega) (Nat.div_pos a2 a1) (Nat.div_pos b2 b1)
    rw [repI_root hu, h, repI_root hv] at this
    exact this
/-- As what is long enough of both tells. -/
theorem omI_long {u v : List Int} (hu : 0 < u.length) (hv : 0 < v.length) : cmpI (repI u (2 * v.length)) (repI v (2 * u.length)) = omI u v := by
  have hL : 2 * v.length * u.length = 2 * u.length * v.length := by rw [Nat.mul_assoc, Nat.mul_assoc, Nat.mul_comm v.length]
  have g : ∀ {x : List Int} {n N : Nat}, 0 < x.length → n * x.length = N → repI x n = infI x N := by
    intro x n N hx hN
    refine getD_ext (by rw [repI_len, infI_len _ hx, hN]) fun k hk => ?_
    rw [repI_len] at hk
    rw [repI_at _ _ _ hk, infI_at hx (by omega)]
    rfl
  rw [g hu hL, g hv rfl, omI_eq]
  have e1 : 1 * u.length ≤ v.length * u.length := Nat.mul_le_mul_right _ hv
  have e2 : v.length * 1 ≤ v.length * u.length := Nat.mul_le_mul_left _ hu
  rw [Nat.mul_assoc, Nat.mul_comm u.length]
  omega
end Go.Proofs.Ytifemkgkgghapaa
