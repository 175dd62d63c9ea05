/- Ranks, and the order of endless rows by doubling. Plain numbers, no conditions. -/
import Derived.Test.YtifemkgkgghapaaCsMath
import Derived.Test.YtifemkgkgghapaaOmMath
namespace Go.Proofs.Ytifemkgkgghapaa
set_option linter.unusedVariables false
set_option linter.unusedSimpArgs false

/-- How many times the pair of keys turns, up to the i-th. -/
def cls (ord : List Nat) (f s : Nat → Nat) : Nat → Nat
  | 0 => 0
  | i + 1 => cls ord f s i + (if f (ord.getD (i + 1) 0) = f (ord.getD i 0) ∧ s (ord.getD (i + 1) 0) = s (ord.getD i 0) then 0 else 1)

/-- Less by the first key, then by the second. -/
def Lt2 (f s : Nat → Nat) (p q : Nat) : Prop := f p < f q ∨ (f p = f q ∧ s p < s q)

theorem cls_le (ord : List Nat) (f s : Nat → Nat) : ∀ i, cls ord f s i ≤ i
  | 0 => Nat.le_refl _
  | i + 1 => by have := cls_le ord f s i; unfold cls; split <;> omega

theorem pair_at {R : Nat → Nat → Prop} {l : List Nat} (h : l.Pairwise R) {i j : Nat} (hij : i < j) (hj : j < l.length) : R (l.getD i 0) (l.getD j 0) := by
  have := List.pairwise_iff_getElem.1 h i j (by omega) hj hij
  simpa [List.getD, List.getElem?_eq_getElem hj, List.getElem?_eq_getElem (show i < l.length by omega)] using this

theorem cls_up {ord : List Nat} {f s : Nat → Nat} (h : ord.Pairwise fun p q => ¬ Lt2 f s q p) {i : Nat} : ∀ {j : Nat}, i ≤ j → j < ord.length →
    (cls ord f s i = cls ord f s j ∧ f (ord.getD i 0) = f (ord.getD j 0) ∧ s (ord.getD i 0) = s (ord.getD j 0)) ∨ (cls ord f s i < cls ord f s j ∧ Lt2 f s (ord.getD i 0) (ord.getD j 0)) := by
  intro j hij
  induction hij with
  | refl => intro _; exact .inl ⟨rfl, rfl, rfl⟩
  | step hm ih =>
    rename_i m
    intro hj
    have hj' : m + 1 < ord.length := hj
    have hs := pair_at h (show m < m + 1 by omega) hj'
    have ih' := ih (by omega)
    have hc : cls ord f s (m + 1) = cls ord f s m + (if f (ord.getD (m + 1) 0) = f (ord.getD m 0) ∧ s (ord.getD (m + 1) 0) = s (ord.getD m 0) then 0 else 1) := rfl
    unfold Lt2 at *
    show (cls ord f s i = cls ord f s (m + 1) ∧ _ = f (ord.getD (m + 1) 0) ∧ _ = s (ord.getD (m + 1) 0)) ∨ (cls ord f s i < cls ord f s (m + 1) ∧ (_ < f (ord.getD (m + 1) 0) ∨ _ = f (ord.getD (m + 1) 0) ∧ _ < s (ord.getD (m + 1) 0)))
    rw [hc]
    generalize ord.getD (m + 1) 0 = q at *
    generalize ord.getD m 0 = p at *
    generalize ord.getD i 0 = o at *
    split
    · rename_i e; omega
    · rename_i e; omega

/-- What the ranks of an order are. -/
theorem rank_iff {ord : List Nat} {f s rk : Nat → Nat} {M : Nat} (hp : ord.Perm (List.range M)) (h : ord.Pairwise fun p q => ¬ Lt2 f s q p) (hr : ∀ i, i < M → rk (ord.getD i 0) = cls ord f s i) :
    ∀ p q, p < M → q < M → (rk p < rk q ↔ Lt2 f s p q) := by
  have hl : ord.length = M := by rw [hp.length_eq, List.length_range]
  have key : ∀ i j, i ≤ j → j < M → (rk (ord.getD i 0) = rk (ord.getD j 0) ∧ f (ord.getD i 0) = f (ord.getD j 0) ∧ s (ord.getD i 0) = s (ord.getD j 0)) ∨ (rk (ord.getD i 0) < rk (ord.getD j 0) ∧ Lt2 f s (ord.getD i 0) (ord.getD j 0)) := fun i j hij hj => by
    rw [hr i (by omega), hr j hj]
    exact cls_up h hij (by omega)
  intro p q hpM hqM
  obtain ⟨i, hi, rfl⟩ := mem_getN (hp.mem_iff.2 (List.mem_range.2 hpM))
  obtain ⟨j, hj, rfl⟩ := mem_getN (hp.mem_iff.2 (List.mem_range.2 hqM))
  unfold Lt2 at *
  rcases Nat.le_total i j with g | g
  · have := key i j g (by omega); omega
  · have := key j i g (by omega); omega

theorem cls_onto (ord : List Nat) (f s : Nat → Nat) : ∀ i r, r ≤ cls ord f s i → ∃ j, j ≤ i ∧ cls ord f s j = r
  | 0, r, h => ⟨0, Nat.le_refl _, by have : cls ord f s 0 = 0 := rfl; omega⟩
  | i + 1, r, h => by
    by_cases e : r = cls ord f s (i + 1)
    · exact ⟨i + 1, Nat.le_refl _, e.symm⟩
    · have hc : cls ord f s (i + 1) = cls ord f s i + (if f (ord.getD (i + 1) 0) = f (ord.getD i 0) ∧ s (ord.getD (i + 1) 0) = s (ord.getD i 0) then 0 else 1) := rfl
      have : r ≤ cls ord f s i := by
        rw [hc] at h e
        split at h <;> split at e <;> omega
      obtain ⟨j, h1, h2⟩ := cls_onto ord f s i r this
      exact ⟨j, by omega, h2⟩
theorem cls_mono {ord : List Nat} {f s : Nat → Nat} {i j : Nat} (h : i ≤ j) : cls ord f s i ≤ cls ord f s j := by
  induction h with
  | refl => exact Nat.le_refl _
  | step _ ih =>
    rename_i m _
    have hc : cls ord f s (m + 1) = cls ord f s m + (if f (ord.getD (m + 1) 0) = f (ord.getD m 0) ∧ s (ord.getD (m + 1) 0) = s (ord.getD m 0) then 0 else 1) := rfl
    show _ ≤ cls ord f s (m + 1)
    omega

/-- How many ranks there are. -/
def clsT (ord : List Nat) (f s : Nat → Nat) (i : Nat) : Nat := match i with | 0 => 0 | i + 1 => cls ord f s i + 1

theorem rank_dense {ord : List Nat} {f s rk : Nat → Nat} {M : Nat} (hp : ord.Perm (List.range M)) (hr : ∀ i, i < M → rk (ord.getD i 0) = cls ord f s i) :
    (∀ p, p < M → rk p < clsT ord f s M) ∧ ∀ r, r < clsT ord f s M → ∃ p, p < M ∧ rk p = r := by
  have hl : ord.length = M := by rw [hp.length_eq, List.length_range]
  cases M with
  | zero => exact ⟨fun p h => by omega, fun r h => by simp [clsT] at h⟩
  | succ M =>
    constructor
    · intro p hpM
      obtain ⟨i, hi, rfl⟩ := mem_getN (hp.mem_iff.2 (List.mem_range.2 hpM))
      rw [hr i (by omega)]
      have := cls_mono (ord := ord) (f := f) (s := s) (show i ≤ M by omega)
      show _ < cls ord f s M + 1
      omega
    · intro r h
      obtain ⟨j, h1, h2⟩ := cls_onto ord f s M r (by simp only [clsT] at h; omega)
      refine ⟨ord.getD j 0, ?_, by rw [hr j (by omega), h2]⟩
      exact List.mem_range.1 (hp.mem_iff.1 (getN_mem (by omega)))

/-- Ranks that part no more than others did are the same ones. -/
theorem dense_up {M n : Nat} {a b : Nat → Nat} (hon : ∀ r, r < n → ∃ p, p < M ∧ a p = r) (hab : ∀ p q, p < M → q < M → a p < a q → b p < b q) : ∀ r p, p < M → a p = r → a p < n → r ≤ b p := by
  intro r
  induction r with
  | zero => intro p _ _ _; omega
  | succ r ih =>
    intro p hp e hn
    obtain ⟨q, hq, eq⟩ := hon r (by omega)
    have h1 := ih q hq eq (by omega)
    have h2 := hab q p hq hp (by omega)
    omega
theorem dense_same {M n : Nat} {a b : Nat → Nat} (hon : ∀ r, r < n → ∃ p, p < M ∧ a p = r) (han : ∀ p, p < M → a p < n) (hbn : ∀ p, p < M → b p < n) (hab : ∀ p q, p < M → q < M → a p < a q → b p < b q) : ∀ p, p < M → b p = a p := by
  have up : ∀ d p, p < M → a p + d + 1 = n → b p ≤ a p := by
    intro d
    induction d with
    | zero => intro p hp e; have := hbn p hp; omega
    | succ d ih =>
      intro p hp e
      obtain ⟨q, hq, eq⟩ := hon (a p + 1) (by omega)
      have h1 := ih q hq (by omega)
      have h2 := hab p q hp hq (by omega)
      omega
  intro p hp
  have h1 := dense_up hon hab _ p hp rfl (han p hp)
  have h2 := up (n - 1 - a p) p hp (by have := han p hp; omega)
  omega
theorem dense_more {M n m : Nat} {a b : Nat → Nat} (hon : ∀ r, r < n → ∃ p, p < M ∧ a p = r) (hbm : ∀ p, p < M → b p < m) (hab : ∀ p q, p < M → q < M → a p < a q → b p < b q) : n ≤ m := by
  cases n with
  | zero => omega
  | succ n =>
    obtain ⟨p, hp, e⟩ := hon n (by omega)
    have h1 := dense_up hon hab _ p hp rfl (by omega)
    have := hbm p hp
    omega

/-- So many steps on. -/
def itN (nx : Nat → Nat) : Nat → Nat → Nat
  | 0, p => p
  | k + 1, p => itN nx k (nx p)
theorem itN_add (nx : Nat → Nat) : ∀ (a b p : Nat), itN nx (a + b) p = itN nx b (itN nx a p)
  | 0, b, p => by rw [Nat.zero_add]; rfl
  | a + 1, b, p => by
    rw [show a + 1 + b = (a + b) + 1 by omega]
    exact itN_add nx a b (nx p)
theorem itN_lt {nx : Nat → Nat} {M : Nat} (h : ∀ p, p < M → nx p < M) : ∀ k p, p < M → itN nx k p < M
  | 0, p, hp => hp
  | k + 1, p, hp => itN_lt h k (nx p) (h p hp)
/-- What is read from p on. -/
def seqN (b : Nat → Int) (nx : Nat → Nat) (p k : Nat) : Int := b (itN nx k p)
theorem seqN_on (b : Nat → Int) (nx : Nat → Nat) (L p k : Nat) : seqN b nx (itN nx L p) k = seqN b nx p (L + k) := by
  unfold seqN; rw [itN_add]

/-- Less within the first L. -/
def LtN (L : Nat) (f g : Nat → Int) : Prop := ∃ m, m < L ∧ (∀ k, k < m → f k = g k) ∧ f m < g m
theorem LtN.irr {L : Nat} {f g : Nat → Int} (h : LtN L f g) (k : LtN L g f) : False := by
  obtain ⟨m, _, h1, h2⟩ := h
  obtain ⟨n, _, k1, k2⟩ := k
  exact LtF.irr ⟨m, h1, h2⟩ ⟨n, k1, k2⟩
theorem LtN.three {L : Nat} (f g : Nat → Int) : LtN L f g ∨ LtN L g f ∨ ∀ k, k < L → f k = g k := by
  rcases first_other (f := f) (g := g) L with h | ⟨m, h1, h2, h3⟩
  · exact .inr (.inr h)
  · by_cases hlt : f m < g m
    · exact .inl ⟨m, h1, h2, hlt⟩
    · exact .inr (.inl ⟨m, h1, fun k hk => (h2 k hk).symm, by omega⟩)
theorem LtN.ne {L : Nat} {f g : Nat → Int} (h : LtN L f g) (k : ∀ k, k < L → f k = g k) : False := by
  obtain ⟨m, hm, _, h2⟩ := h
  have := k m hm
  omega
/-- By both halves. -/
theorem LtN.twice {L : Nat} {f g : Nat → Int} : LtN (L + L) f g ↔ LtN L f g ∨ ((∀ k, k < L → f k = g k) ∧ LtN L (fun k => f (L + k)) (fun k => g (L + k))) := by
  constructor
  · rintro ⟨m, hm, h1, h2⟩
    by_cases h : m < L
    · exact .inl ⟨m, h, h1, h2⟩
    · refine .inr ⟨fun k hk => h1 k (by omega), m - L, by omega, fun k hk => h1 (L + k) (by omega), ?_⟩
      show f (L + (m - L)) < g (L + (m - L))
      rw [show L + (m - L) = m by omega]; exact h2
  · rintro (⟨m, hm, h1, h2⟩ | ⟨h0, m, hm, h1, h2⟩)
    · exact ⟨m, by omega, h1, h2⟩
    · refine ⟨L + m, by omega, fun k hk => ?_, h2⟩
      by_cases h : k < L
      · exact h0 k h
      · have := h1 (k - L) (by omega)
        simp only [show L + (k - L) = k by omega] at this
        exact this

/-- The ranks tell the order by the first L. -/
def Rk (M : Nat) (b : Nat → Int) (nx : Nat → Nat) (L : Nat) (rk : Nat → Nat) : Prop := ∀ p q, p < M → q < M → (rk p < rk q ↔ LtN L (seqN b nx p) (seqN b nx q))
theorem Rk.same {M L : Nat} {b : Nat → Int} {nx rk : Nat → Nat} (h : Rk M b nx L rk) {p q : Nat} (hp : p < M) (hq : q < M) : rk p = rk q ↔ ∀ k, k < L → seqN b nx p k = seqN b nx q k := by
  have h1 := h p q hp hq
  have h2 := h q p hq hp
  rcases LtN.three (L := L) (seqN b nx p) (seqN b nx q) with g | g | g
  · have := h1.2 g
    exact ⟨fun e => by omega, fun e => (LtN.ne g e).elim⟩
  · have := h2.2 g
    exact ⟨fun e => by omega, fun e => (LtN.ne g (fun k hk => (e k hk).symm)).elim⟩
  · refine ⟨fun _ => g, fun _ => ?_⟩
    have a1 : ¬ rk p < rk q := fun e => LtN.ne (h1.1 e) g
    have a2 : ¬ rk q < rk p := fun e => LtN.ne (h2.1 e) (fun k hk => (g k hk).symm)
    omega
theorem Rk.start {M : Nat} {b : Nat → Int} {nx rk : Nat → Nat} (h : ∀ p, p < M → b p = (rk p : Int)) : Rk M b nx 1 rk := by
  intro p q hp hq
  have e1 : seqN b nx p 0 = (rk p : Int) := h p hp
  have e2 : seqN b nx q 0 = (rk q : Int) := h q hq
  constructor
  · intro e
    exact ⟨0, by omega, fun k hk => by omega, by rw [e1, e2]; omega⟩
  · rintro ⟨m, hm, _, h2⟩
    have : m = 0 := by omega
    subst this
    rw [e1, e2] at h2
    omega
theorem Rk.twice {M L : Nat} {b : Nat → Int} {nx rk : Nat → Nat} (hn : ∀ p, p < M → nx p < M) (h : Rk M b nx L rk) {p q : Nat} (hp : p < M) (hq : q < M) :
    Lt2 rk (fun p => rk (itN nx L p)) p q ↔ LtN (L + L) (seqN b nx p) (seqN b nx q) := by
  rw [LtN.twice]
  unfold Lt2
  have e1 : (fun k => seqN b nx p (L + k)) = seqN b nx (itN nx L p) := by funext k; exact (seqN_on b nx L p k).symm
  have e2 : (fun k => seqN b nx q (L + k)) = seqN b nx (itN nx L q) := by funext k; exact (seqN_on b nx L q k).symm
  rw [e1, e2, ← h p q hp hq, ← h _ _ (itN_lt hn L p hp) (itN_lt hn L q hq), h.same hp hq]

/-- Ranks that twice as many do not part are parted by none. -/
theorem Rk.whole {M L : Nat} {b : Nat → Int} {nx rk : Nat → Nat} (hL : 0 < L) (hn : ∀ p, p < M → nx p < M) (h : Rk M b nx L rk) (hs : ∀ p q, p < M → q < M → rk p = rk q → rk (itN nx L p) = rk (itN nx L q)) {p q : Nat} (hp : p < M) (hq : q < M) :
    (rk p = rk q → ∀ k, seqN b nx p k = seqN b nx q k) := by
  intro e k
  induction k using Nat.strongRecOn generalizing p q with
  | ind k ih =>
    by_cases hk : k < L
    · exact (h.same hp hq).1 e k hk
    · have h1 := ih (k - L) (by omega) (itN_lt hn L p hp) (itN_lt hn L q hq) (hs p q hp hq e)
      rw [seqN_on, seqN_on, show L + (k - L) = k by omega] at h1
      exact h1

/-- Less without end; of the same ones by place. -/
def RR (b : Nat → Int) (nx : Nat → Nat) (p q : Nat) : Prop := LtF (seqN b nx p) (seqN b nx q) ∨ ((∀ k, seqN b nx p k = seqN b nx q k) ∧ p < q)

theorem Rk.order {M L : Nat} {b : Nat → Int} {nx rk : Nat → Nat} (hL : 0 < L) (hn : ∀ p, p < M → nx p < M) (h : Rk M b nx L rk) (hs : ∀ p q, p < M → q < M → rk p = rk q → rk (itN nx L p) = rk (itN nx L q)) {p q : Nat} (hp : p < M) (hq : q < M)
    (ho : rk p < rk q ∨ (rk p = rk q ∧ (rk (itN nx L p) < rk (itN nx L q) ∨ (rk (itN nx L p) = rk (itN nx L q) ∧ p < q)))) : RR b nx p q := by
  rcases ho with ho | ⟨h1, ho⟩
  · obtain ⟨m, _, h1, h2⟩ := (h p q hp hq).1 ho
    exact .inl ⟨m, h1, h2⟩
  · have := hs p q hp hq h1
    exact .inr ⟨h.whole hL hn hs hp hq h1, by omega⟩
end Go.Proofs.Ytifemkgkgghapaa
