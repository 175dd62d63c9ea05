/- Texts that are less than all their endings, and the row of such that a text is. Plain numbers, no conditions. -/
import Derived.Test.YtlnpgdjmcdhpbaaRepMath
namespace Go.Proofs.Ytlnpgdjmcdhpbaa
set_option linter.unusedVariables false
set_option linter.unusedSimpArgs false

/-- Less: at a first other place, or by its end. -/
theorem cmpI_neg : ∀ (x y : List Int), cmpI x y < 0 ↔ ∃ j, j < y.length ∧ j ≤ x.length ∧ (∀ k, k < j → x.getD k 0 = y.getD k 0) ∧ (j = x.length ∨ x.getD j 0 < y.getD j 0)
  | [], [] => by simp [cmpI]
  | [], b :: y => ⟨fun _ => ⟨0, by simp, by simp, fun k hk => by omega, .inl rfl⟩, fun _ => by simp [cmpI]⟩
  | a :: x, [] => by simp [cmpI]
  | a :: x, b :: y => by
    have ih := cmpI_neg x y
    simp only [cmpI]
    by_cases h1 : a < b
    · rw [if_pos h1]
      exact ⟨fun _ => ⟨0, by simp, by simp, fun k hk => by omega, .inr (by simpa using h1)⟩, fun _ => by decide⟩
    · rw [if_neg h1]
      by_cases h2 : b < a
      · rw [if_pos h2]
        refine ⟨fun h => by omega, fun ⟨j, _, _, h3, h4⟩ => ?_⟩
        cases j with
        | zero =>
          rcases h4 with h4 | h4
          · simp at h4
          · simp at h4; omega
        | succ j => have := h3 0 (by omega); simp at this; omega
      · rw [if_neg h2, ih]
        have e : a = b := by omega
        subst e
        constructor
        · rintro ⟨j, g1, g2, g3, g4⟩
          refine ⟨j + 1, by simp; omega, by simp; omega, fun k hk => ?_, ?_⟩
          · cases k with
            | zero => simp
            | succ k => simpa using g3 k (by omega)
          · rcases g4 with g4 | g4
            · exact .inl (by simp [g4])
            · exact .inr (by simpa using g4)
        · rintro ⟨j, g1, g2, g3, g4⟩
          cases j with
          | zero =>
            rcases g4 with g4 | g4
            · simp at g4
            · simp at g4
          | succ j =>
            refine ⟨j, by simpa using g1, by simpa using g2, fun k hk => by simpa using g3 (k + 1) (by omega), ?_⟩
            rcases g4 with g4 | g4
            · exact .inl (by simpa using g4)
            · exact .inr (by simpa using g4)

theorem cmpI_lt_le {x y z : List Int} (h : cmpI x y < 0) (h' : cmpI y z ≤ 0) : cmpI x z < 0 := by
  have h1 := cmpI_trans x y z (by omega) h'
  by_cases h2 : cmpI x z = 0
  · have := cmpI_zero h2
    subst this
    have := cmpI_swap x y
    omega
  · omega
theorem cmpI_le_lt {x y z : List Int} (h : cmpI x y ≤ 0) (h' : cmpI y z < 0) : cmpI x z < 0 := by
  have h1 := cmpI_trans x y z h (by omega)
  by_cases h2 : cmpI x z = 0
  · have := cmpI_zero h2
    subst this
    have := cmpI_swap x y
    omega
  · omega
theorem cmpI_ge {x y : List Int} (h : ¬ cmpI x y < 0) : cmpI y x ≤ 0 := by
  have := cmpI_swap x y
  omega
theorem cmpI_app (p x y : List Int) : cmpI (p ++ x) (p ++ y) = cmpI x y := by
  induction p with
  | nil => rfl
  | cons a p ih => rw [List.cons_append, List.cons_append, cmpI, if_neg (by omega), if_neg (by omega), ih]
theorem cmpI_pre (x y : List Int) : cmpI x (x ++ y) ≤ 0 := by
  have h := cmpI_app x [] y
  rw [List.append_nil] at h
  rw [h]
  cases y <;> simp [cmpI]
theorem cmpI_pre_lt (x : List Int) {y : List Int} (hy : y ≠ []) : cmpI x (x ++ y) < 0 := by
  have h := cmpI_app x [] y
  rw [List.append_nil] at h
  rw [h]
  cases y with
  | nil => exact absurd rfl hy
  | cons b y => simp [cmpI]

theorem getD_left {x y : List Int} {k : Nat} (h : k < x.length) : (x ++ y).getD k 0 = x.getD k 0 := by
  simp only [List.getD_eq_getElem?_getD]
  rw [List.getElem?_append_left h]
theorem getD_right {x y : List Int} (k : Nat) : (x ++ y).getD (x.length + k) 0 = y.getD k 0 := by
  simp only [List.getD_eq_getElem?_getD]
  rw [List.getElem?_append_right (by omega)]
  congr 2; omega
theorem getD_drop (x : List Int) (i k : Nat) : (x.drop i).getD k 0 = x.getD (i + k) 0 := by
  simp only [List.getD_eq_getElem?_getD, List.getElem?_drop]
theorem getD_take {x : List Int} {n k : Nat} (h : k < n) : (x.take n).getD k 0 = x.getD k 0 := by
  simp only [List.getD_eq_getElem?_getD, List.getElem?_take]
  rw [if_pos h]

/-- Less than all its endings. -/
abbrev Lyn (s : List Int) : Prop := s.length ≠ 0 ∧ ∀ i, i < s.length → 1 ≤ i → cmpI s (s.drop i) < 0

def lynB (s : List Int) : Bool := decide (Lyn s)
theorem lynB_true {s : List Int} (h : Lyn s) : lynB s = true := decide_eq_true h
theorem lynB_false {s : List Int} (h : ¬ Lyn s) : lynB s = false := decide_eq_false h

/-- The first n of a row: less than all their endings, place by place. -/
def LynF (f : Nat → Int) (n : Nat) : Prop := 1 ≤ n ∧ ∀ i, 1 ≤ i → i < n → ∃ j, i + j < n ∧ (∀ k, k < j → f k = f (i + k)) ∧ f j < f (i + j)

theorem LynF.congr {f g : Nat → Int} {n : Nat} (h : LynF f n) (he : ∀ k, k < n → f k = g k) : LynF g n := by
  refine ⟨h.1, fun i h1 h2 => ?_⟩
  obtain ⟨j, g1, g2, g3⟩ := h.2 i h1 h2
  refine ⟨j, g1, fun k hk => ?_, ?_⟩
  · rw [← he k (by omega), ← he (i + k) (by omega)]; exact g2 k hk
  · rw [← he j (by omega), ← he (i + j) g1]; exact g3

theorem lyn_iff (s : List Int) : Lyn s ↔ LynF (fun k => s.getD k 0) s.length := by
  unfold Lyn LynF
  refine and_congr (by omega) ⟨fun h i h1 h2 => ?_, fun h i h2 h1 => ?_⟩
  · obtain ⟨j, g1, g2, g3, g4⟩ := (cmpI_neg _ _).1 (h i h2 h1)
    rw [List.length_drop] at g1
    refine ⟨j, by omega, fun k hk => ?_, ?_⟩
    · have := g3 k hk; rwa [getD_drop] at this
    · rcases g4 with g4 | g4
      · omega
      · rwa [getD_drop] at g4
  · obtain ⟨j, g1, g2, g3⟩ := h i h1 h2
    refine (cmpI_neg _ _).2 ⟨j, by rw [List.length_drop]; omega, by omega, fun k hk => ?_, .inr ?_⟩
    · rw [getD_drop]; exact g2 k hk
    · rw [getD_drop]; exact g3

theorem lyn_take {s : List Int} {n : Nat} (hn : n ≤ s.length) : Lyn (s.take n) ↔ LynF (fun k => s.getD k 0) n := by
  have hl : (s.take n).length = n := by simp; omega
  rw [lyn_iff, hl]
  exact ⟨fun h => h.congr fun k hk => getD_take hk, fun h => h.congr fun k hk => (getD_take hk).symm⟩

/-- The longest beginning that is one. -/
def downI (s : List Int) : Nat → Nat
  | 0 => 0
  | n + 1 => if Lyn (s.take (n + 1)) then n + 1 else downI s n
def longI (s : List Int) : Nat := downI s s.length
def facF : Nat → List Int → List Int
  | 0, _ => []
  | f + 1, s => if s.length = 0 then [] else (longI s : Int) :: facF f (s.drop (longI s))
/-- The lengths of the longest ones, one behind the other. -/
def facL (s : List Int) : List Int := facF s.length s

structure Long (s : List Int) (n : Nat) : Prop where
  pos : 1 ≤ n
  le : n ≤ s.length
  lyn : Lyn (s.take n)
  none : ∀ m, n < m → m ≤ s.length → ¬ Lyn (s.take m)

theorem Long.unique {s : List Int} {n m : Nat} (h : Long s n) (h' : Long s m) : n = m := by
  rcases Nat.lt_trichotomy n m with g | g | g
  · exact absurd h'.lyn (h.none m g h'.le)
  · exact g
  · exact absurd h.lyn (h'.none n g h.le)

theorem lyn_one {s : List Int} (h : s.length ≠ 0) : Lyn (s.take 1) := by
  rw [lyn_take (by omega)]
  exact ⟨Nat.le_refl _, fun i h1 h2 => by omega⟩

theorem downI_spec (s : List Int) : ∀ n, 1 ≤ n → n ≤ s.length → 1 ≤ downI s n ∧ downI s n ≤ n ∧ Lyn (s.take (downI s n)) ∧ ∀ m, downI s n < m → m ≤ n → ¬ Lyn (s.take m)
  | 0, h, _ => by omega
  | n + 1, _, hn => by
    unfold downI
    by_cases h : Lyn (s.take (n + 1))
    · rw [if_pos h]; exact ⟨by omega, Nat.le_refl _, h, fun m _ _ => by omega⟩
    · rw [if_neg h]
      by_cases h0 : n = 0
      · subst h0; exact absurd (lyn_one (by omega)) h
      · obtain ⟨h1, h2, h3, h4⟩ := downI_spec s n (by omega) (by omega)
        refine ⟨h1, by omega, h3, fun m g1 g2 => ?_⟩
        by_cases e : m = n + 1
        · subst e; exact h
        · exact h4 m g1 (by omega)
theorem longI_spec {s : List Int} (h : s.length ≠ 0) : Long s (longI s) := by
  obtain ⟨h1, h2, h3, h4⟩ := downI_spec s s.length (by omega) (Nat.le_refl _)
  exact ⟨h1, h2, h3, h4⟩
theorem longI_eq {s : List Int} {n : Nat} (h : Long s n) : longI s = n := (longI_spec (by have := h.pos; have := h.le; omega)).unique h
theorem lyn_longI {s : List Int} (h : s.length ≠ 0) : Lyn s ↔ longI s = s.length := by
  have hl := longI_spec h
  constructor
  · intro g
    refine longI_eq ⟨by omega, Nat.le_refl _, by rw [List.take_length]; exact g, fun m g1 g2 => by omega⟩
  · intro g
    have := hl.lyn
    rwa [g, List.take_length] at this

theorem facF_more : ∀ (f : Nat) (s : List Int), s.length ≤ f → facF f s = facF s.length s := by
  intro f
  induction f using Nat.strongRecOn with
  | ind f ih =>
    intro s hs
    cases f with
    | zero => have : s.length = 0 := by omega
              rw [this]
    | succ f =>
      by_cases h0 : s.length = 0
      · rw [h0]; simp [facF, h0]
      · have hl := longI_spec h0
        obtain ⟨m, hm⟩ : ∃ m, s.length = m + 1 := ⟨s.length - 1, by omega⟩
        have hp := hl.pos
        rw [hm]
        simp only [facF, if_neg h0]
        rw [ih f (by omega) (s.drop (longI s)) (by rw [List.length_drop]; omega), ih m (by omega) (s.drop (longI s)) (by rw [List.length_drop]; omega)]
theorem facL_nil {s : List Int} (h : s.length = 0) : facL s = [] := by
  unfold facL; rw [h]; rfl
theorem facL_cons {s : List Int} (h : s.length ≠ 0) : facL s = (longI s : Int) :: facL (s.drop (longI s)) := by
  have hp := (longI_spec h).pos
  obtain ⟨m, hm⟩ : ∃ m, s.length = m + 1 := ⟨s.length - 1, by omega⟩
  unfold facL
  rw [hm]
  simp only [facF, if_neg h]
  rw [facF_more m _ (by rw [List.length_drop]; omega)]
theorem facL_len : ∀ (n : Nat) (s : List Int), s.length ≤ n → (facL s).length ≤ s.length := by
  intro n
  induction n with
  | zero => intro s hs; rw [facL_nil (by omega)]; simp
  | succ n ih =>
    intro s hs
    by_cases h : s.length = 0
    · rw [facL_nil h]; simp
    · have hp := (longI_spec h).pos
      have hd : (s.drop (longI s)).length = s.length - longI s := List.length_drop
      rw [facL_cons h, List.length_cons]
      have := ih (s.drop (longI s)) (by omega)
      omega

/-- What the search keeps: the first e are the first L, which are less than all their endings, again and again, and a beginning of them. -/
structure Duv (s : List Int) (L e : Nat) : Prop where
  pos : 1 ≤ L
  le : L ≤ e
  len : e ≤ s.length
  lyn : LynF (fun k => s.getD k 0) L
  per : ∀ i, L ≤ i → i < e → s.getD i 0 = s.getD (i - L) 0

theorem Duv.start {s : List Int} (h : s.length ≠ 0) : Duv s 1 1 :=
  ⟨Nat.le_refl _, Nat.le_refl _, by omega, ⟨Nat.le_refl _, fun i h1 h2 => by omega⟩, fun i h1 h2 => by omega⟩
theorem Duv.same {s : List Int} {L e : Nat} (h : Duv s L e) (he : e < s.length) (hs : s.getD (e - L) 0 = s.getD e 0) : Duv s L (e + 1) := by
  refine ⟨h.pos, by have := h.le; omega, he, h.lyn, fun i h1 h2 => ?_⟩
  by_cases g : i = e
  · subst g; exact hs.symm
  · exact h.per i h1 (by omega)
theorem Duv.mod {s : List Int} {L e : Nat} (h : Duv s L e) : ∀ i, i < e → s.getD i 0 = s.getD (i % L) 0 := by
  intro i
  induction i using Nat.strongRecOn with
  | ind i ih =>
    intro hi
    by_cases g : i < L
    · rw [Nat.mod_eq_of_lt g]
    · have hp := h.pos
      rw [h.per i (by omega) hi, ih (i - L) (by omega) (by omega), Nat.mod_eq_sub_mod (by omega : L ≤ i)]
theorem Duv.grow {s : List Int} {L e : Nat} (h : Duv s L e) (he : e < s.length) (hs : s.getD (e - L) 0 < s.getD e 0) : Duv s (e + 1) (e + 1) := by
  have hp := h.pos
  have hle := h.le
  have hm : s.getD (e - L) 0 = s.getD (e % L) 0 := by rw [h.mod (e - L) (by omega), ← Nat.mod_eq_sub_mod (by omega : L ≤ e)]
  refine ⟨by omega, Nat.le_refl _, he, ⟨by omega, fun i h1 h2 => ?_⟩, fun i h1 h2 => by omega⟩
  show ∃ j, i + j < e + 1 ∧ (∀ k, k < j → s.getD k 0 = s.getD (i + k) 0) ∧ s.getD j 0 < s.getD (i + j) 0
  by_cases hr : i % L = 0
  · have hmm : ∀ k, (i + k) % L = k % L := fun k => by rw [Nat.add_mod, hr, Nat.zero_add, Nat.mod_mod]
    refine ⟨e - i, by omega, fun k hk => ?_, ?_⟩
    · rw [h.mod k (by omega), h.mod (i + k) (by omega), hmm]
    · have : (e - i) % L = e % L := by
        have := hmm (e - i)
        rw [show i + (e - i) = e by omega] at this
        exact this.symm
      rw [h.mod (e - i) (by omega), this, ← hm, show i + (e - i) = e by omega]
      exact hs
  · have hrl : i % L < L := Nat.mod_lt _ (by omega)
    obtain ⟨j, g1, g2, g3⟩ := h.lyn.2 (i % L) (by omega) hrl
    have g2 : ∀ k, k < j → s.getD k 0 = s.getD (i % L + k) 0 := g2
    have g3 : s.getD j 0 < s.getD (i % L + j) 0 := g3
    have hk : ∀ k, k ≤ j → (i + k) % L = i % L + k := fun k hk => by rw [Nat.add_mod, Nat.add_mod_mod, Nat.mod_eq_of_lt (by omega)]
    by_cases hij : i + j < e
    · refine ⟨j, by omega, fun k hkj => ?_, ?_⟩
      · rw [h.mod (i + k) (by omega), hk k (by omega)]; exact g2 k hkj
      · rw [h.mod (i + j) hij, hk j (Nat.le_refl _)]; exact g3
    · refine ⟨e - i, by omega, fun k hkj => ?_, ?_⟩
      · rw [h.mod (i + k) (by omega), hk k (by omega)]; exact g2 k (by omega)
      · have e1 := hk (e - i) (by omega)
        rw [show i + (e - i) = e by omega] at e1 ⊢
        have e2 : s.getD (e - i) 0 ≤ s.getD (i % L + (e - i)) 0 := by
          by_cases g : e - i = j
          · rw [g]; omega
          · have := g2 (e - i) (by omega); omega
        rw [← e1, ← hm] at e2
        omega

/-- Where it stops. -/
def Stop (s : List Int) (L e : Nat) : Prop := e = s.length ∨ (e < s.length ∧ s.getD e 0 < s.getD (e - L) 0)

theorem Duv.long {s : List Int} {L e : Nat} (h : Duv s L e) (hs : Stop s L e) : longI s = L := by
  have hp := h.pos
  have hle := h.le
  have hlen := h.len
  refine longI_eq ⟨hp, by omega, (lyn_take (by omega)).2 h.lyn, fun m h1 h2 hl => ?_⟩
  obtain ⟨j, g1, g2, g3⟩ := ((lyn_take h2).1 hl).2 L hp h1
  have g2 : ∀ k, k < j → s.getD k 0 = s.getD (L + k) 0 := g2
  have g3 : s.getD j 0 < s.getD (L + j) 0 := g3
  by_cases hj : L + j < e
  · have := h.per (L + j) (by omega) hj
    rw [show L + j - L = j by omega] at this
    omega
  · rcases hs with hs | ⟨_, hs⟩
    · omega
    · by_cases hj2 : L + j = e
      · rw [hj2] at g3
        rw [show e - L = j by omega] at hs
        omega
      · have := g2 (e - L) (by omega)
        rw [show L + (e - L) = e by omega] at this
        omega
theorem Duv.fac {L : Nat} : ∀ (t : Nat) (s : List Int) (e : Nat), Duv s L e → Stop s L e → e / L = t → facL s = List.replicate t (L : Int) ++ facL (s.drop (L * t)) := by
  intro t
  induction t with
  | zero =>
    intro s e h hs ht
    have hp := h.pos
    have hle := h.le
    have := Nat.div_pos hle (by omega)
    omega
  | succ t ih =>
    intro s e h hs ht
    have hp := h.pos
    have hle := h.le
    have hlen := h.len
    rw [facL_cons (by omega), h.long hs, List.replicate_succ, List.cons_append]
    congr 1
    by_cases h0 : t = 0
    · subst h0; simp
    · have ht2 : (e - L) / L = t := by have := Nat.div_eq_sub_div (show 0 < L by omega) hle; omega
      have h2 : L ≤ e - L := by
        rcases Nat.lt_or_ge (e - L) L with g | g
        · rw [Nat.div_eq_of_lt g] at ht2; omega
        · exact g
      have hl : (s.drop L).length = s.length - L := List.length_drop
      have hd : Duv (s.drop L) L (e - L) := by
        refine ⟨hp, h2, by omega, h.lyn.congr fun k hk => ?_, fun i h1 h3 => ?_⟩
        · show s.getD k 0 = (s.drop L).getD k 0
          rw [getD_drop, h.per (L + k) (by omega) (by omega)]
          congr 1; omega
        · rw [getD_drop, getD_drop, h.per (L + i) (by omega) (by omega)]
          congr 1; omega
      have hs2 : Stop (s.drop L) L (e - L) := by
        rcases hs with hs | ⟨hs1, hs⟩
        · exact .inl (by omega)
        · refine .inr ⟨by omega, ?_⟩
          rw [getD_drop, getD_drop, show L + (e - L) = e by omega, show L + (e - L - L) = e - L by omega]
          exact hs
      rw [ih (s.drop L) (e - L) hd hs2 ht2, List.drop_drop]
      congr 3
      rw [Nat.mul_succ, Nat.add_comm]

/-- Of two that are, the less one first, is one. -/
theorem lyn_join {u v : List Int} (hu : Lyn u) (hv : Lyn v) (h : cmpI u v < 0) : Lyn (u ++ v) := by
  have hul := hu.1
  have hvl := hv.1
  have hmid : cmpI (u ++ v) v < 0 := by
    obtain ⟨j, g1, g2, g3, g4⟩ := (cmpI_neg _ _).1 h
    by_cases hj : j < u.length
    · rcases g4 with g4 | g4
      · omega
      · refine (cmpI_neg _ _).2 ⟨j, g1, by rw [List.length_append]; omega, fun k hk => ?_, .inr ?_⟩
        · rw [getD_left (by omega)]; exact g3 k hk
        · rw [getD_left hj]; exact g4
    · have hj : j = u.length := by omega
      subst hj
      have hpre : v = u ++ v.drop u.length := by
        conv => lhs; rw [← List.take_append_drop u.length v]
        congr 1
        refine (getD_ext (by simp; omega) fun k hk => ?_).symm
        rw [getD_take hk]; exact g3 k hk
      conv => lhs; rhs; rw [hpre]
      rw [cmpI_app]
      exact hv.2 u.length g1 (by omega)
  refine ⟨by rw [List.length_append]; omega, fun i h1 h2 => ?_⟩
  rw [List.length_append] at h1
  rcases Nat.lt_trichotomy i u.length with g | g | g
  · obtain ⟨j, g1, g2, g3⟩ := ((lyn_iff u).1 hu).2 i h2 g
    refine (cmpI_neg _ _).2 ⟨j, by rw [List.length_drop, List.length_append]; omega, by rw [List.length_append]; omega, fun k hk => ?_, .inr ?_⟩
    · rw [getD_drop, getD_left (by omega), getD_left (by omega)]; exact g2 k hk
    · rw [getD_drop, getD_left (by omega), getD_left (by omega)]; exact g3
  · subst g
    rw [List.drop_left]
    exact hmid
  · have e : (u ++ v).drop i = v.drop (i - u.length) := by
      rw [List.drop_append]
      simp
      omega
    rw [e]
    exact cmpI_lt_le hmid (by have := hv.2 (i - u.length) (by omega) (by omega); omega)

/-- None is less than the next. -/
theorem falls {s : List Int} (h : s.length ≠ 0) (h' : (s.drop (longI s)).length ≠ 0) :
    ¬ cmpI (s.take (longI s)) ((s.drop (longI s)).take (longI (s.drop (longI s)))) < 0 := by
  intro hc
  have h1 := longI_spec h
  have h2 := longI_spec h'
  have hj := lyn_join h1.lyn h2.lyn hc
  have hl : (s.drop (longI s)).length = s.length - longI s := List.length_drop
  have hp := h2.pos
  have hle := h2.le
  have hle1 := h1.le
  refine h1.none (longI s + longI (s.drop (longI s))) (by omega) (by omega) ?_
  rw [List.take_add]
  exact hj

theorem long_pair {u v : List Int} (hu : Lyn u) (hv : Lyn v) (h : ¬ cmpI u v < 0) : longI (u ++ v) = u.length := by
  have hul := hu.1
  refine longI_eq ⟨by omega, by rw [List.length_append]; omega, by rw [List.take_left]; exact hu, fun m h1 h2 hl => ?_⟩
  rw [List.length_append] at h2
  have e1 : (u ++ v).take m = u ++ v.take (m - u.length) := by
    rw [List.take_append, List.take_of_length_le (by omega)]
  rw [e1] at hl
  have hz : v.take (m - u.length) ≠ [] := by
    intro g
    have := congrArg List.length g
    rw [List.length_take, List.length_nil] at this
    omega
  have a1 : cmpI (u ++ v.take (m - u.length)) (v.take (m - u.length)) < 0 := by
    have := hl.2 u.length (by rw [List.length_append, List.length_take]; omega) (by omega)
    rwa [List.drop_left] at this
  have a2 : cmpI (v.take (m - u.length)) v ≤ 0 := by
    have := cmpI_pre (v.take (m - u.length)) (v.drop (m - u.length))
    rwa [List.take_append_drop] at this
  have a3 := cmpI_ge h
  have a4 := cmpI_pre_lt u hz
  have a5 := cmpI_lt_le (cmpI_lt_le (cmpI_lt_le a1 a2) a3) (by omega : cmpI u (u ++ v.take (m - u.length)) ≤ 0)
  rw [cmpI_self] at a5
  omega

theorem facL_lyn {s : List Int} (h : Lyn s) : facL s = [(s.length : Int)] := by
  rw [facL_cons h.1, (lyn_longI h.1).1 h, List.drop_length]
  rfl
theorem facL_pair {u v : List Int} (hu : Lyn u) (hv : Lyn v) (h : ¬ cmpI u v < 0) : facL (u ++ v) = [(u.length : Int), (v.length : Int)] := by
  rw [facL_cons (by rw [List.length_append]; have := hu.1; omega), long_pair hu hv h, List.drop_left, facL_lyn hv]
theorem lyn_pair {u v : List Int} (hu : Lyn u) (hv : Lyn v) : Lyn (u ++ v) ↔ cmpI u v < 0 := by
  refine ⟨fun h => ?_, lyn_join hu hv⟩
  refine Classical.byContradiction fun g => ?_
  have h1 := long_pair hu hv g
  rw [(lyn_longI h.1).1 h, List.length_append] at h1
  have := hv.1
  omega
theorem facL_join {u v : List Int} (hu : Lyn u) (hv : Lyn v) : (facL (u ++ v)).length = if cmpI u v < 0 then 1 else 2 := by
  by_cases h : cmpI u v < 0
  · rw [if_pos h, facL_lyn (lyn_join hu hv h)]; rfl
  · rw [if_neg h, facL_pair hu hv h]; rfl

/-- Again and again. -/
theorem facL_rep {x : List Int} {n : Nat} (hx : x.length ≠ 0) (hn : 1 ≤ n) : facL (repI x n) = List.replicate n (x.length : Int) ↔ Lyn x := by
  have hN := repI_len x n
  have hge : x.length ≤ n * x.length := Nat.le_mul_of_pos_left _ (by omega)
  have htk : (repI x n).take x.length = x := by
    refine getD_ext (by simp; omega) fun k hk => ?_
    have hk' : k < x.length := by simp at hk; omega
    rw [getD_take hk', repI_at x n k (by omega), Nat.mod_eq_of_lt hk']
  constructor
  · intro h
    obtain ⟨m, rfl⟩ : ∃ m, n = m + 1 := ⟨n - 1, by omega⟩
    rw [facL_cons (by omega), List.replicate_succ] at h
    have hh := (List.cons.inj h).1
    have := (longI_spec (s := repI x (m + 1)) (by omega)).lyn
    rw [show longI (repI x (m + 1)) = x.length by omega, htk] at this
    exact this
  · intro h
    have hd : Duv (repI x n) x.length (n * x.length) := by
      refine ⟨by omega, hge, by omega, (lyn_take (by omega)).1 (by rw [htk]; exact h), fun i h1 h2 => ?_⟩
      rw [repI_at x n i h2, repI_at x n (i - x.length) (by omega), ← Nat.mod_eq_sub_mod h1]
    have := Duv.fac n _ _ hd (.inl hN.symm) (Nat.mul_div_cancel _ (by omega))
    rw [this, List.drop_of_length_le (by rw [hN, Nat.mul_comm]; omega)]
    simp [facL, facF]

theorem ab_lyn : Lyn [97, 98] := by decide
theorem aa_lyn : ¬ Lyn [97, 97] := by decide
theorem nil_lyn : ¬ Lyn [] := by decide
theorem banana_fac : facL [98, 97, 110, 97, 110, 97] = [1, 2, 2, 1] := by decide
end Go.Proofs.Ytlnpgdjmcdhpbaa
