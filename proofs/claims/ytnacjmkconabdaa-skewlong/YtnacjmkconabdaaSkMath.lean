/- Thirds: the sample's places, triples' names, ranks, what is left, and all as one. Plain numbers, no conditions. -/
import Derived.Test.YtnacjmkconabdaaTriMath
import Derived.Test.YtnacjmkconabdaaOrdMore
import Derived.Test.YtnacjmkconabdaaPermMath
namespace Go.Proofs.Ytnacjmkconabdaa
set_option linter.unusedVariables false
set_option linter.unusedSimpArgs false

/-- The numbers, one more, and three noughts behind them. -/
def tailI (s : List Int) : List Int := s.map (fun z => z + 1) ++ [0, 0, 0]
theorem tailI_len (s : List Int) : (tailI s).length = s.length + 3 := by simp [tailI]
theorem tailI_at (s : List Int) (i : Nat) : (tailI s).getD i 0 = padI s i := by
  unfold tailI padI
  by_cases h : i < s.length
  · rw [if_pos h, List.getD, List.getElem?_append_left (by rw [List.length_map]; exact h)]
    simp [List.getD, h]
  · rw [if_neg h, List.getD, List.getElem?_append_right (by rw [List.length_map]; omega), List.length_map]
    rcases i - s.length with _ | _ | _ | d <;> simp
theorem tailI_drop (s : List Int) (a i : Nat) : ((tailI s).drop a).getD i 0 = padI s (i + a) := by
  rw [← tailI_at, List.getD, List.getElem?_drop, List.getD, Nat.add_comm]
theorem padI_ge {s : List Int} (hs : NonNeg s) (i : Nat) : 0 ≤ padI s i := by
  by_cases h : i < s.length
  · rw [padI_in h]
    have := hs i h
    omega
  · rw [padI_out (by omega)]
    exact Int.le_refl _

/-- The sample's places. -/
def sampAt (A i : Nat) : Nat := if i < A then 3 * i + 1 else 3 * (i - A) + 2
def twoN (n : Nat) : List Nat := (List.range ((n + 1) / 3 + n / 3)).map (sampAt ((n + 1) / 3))
theorem twoN_len (n : Nat) : (twoN n).length = (n + 1) / 3 + n / 3 := by simp [twoN]
theorem twoN_at {n i : Nat} (h : i < (n + 1) / 3 + n / 3) : (twoN n).getD i 0 = sampAt ((n + 1) / 3) i := mapI_at _ _ h
theorem twoN_mem {n p : Nat} : p ∈ twoN n ↔ p < n ∧ p % 3 ≠ 0 := by
  unfold twoN
  rw [List.mem_map]
  constructor
  · rintro ⟨i, hi, rfl⟩
    have := List.mem_range.1 hi
    unfold sampAt
    split <;> omega
  · rintro ⟨h1, h2⟩
    by_cases h3 : p % 3 = 1
    · refine ⟨p / 3, List.mem_range.2 (by omega), ?_⟩
      unfold sampAt
      rw [if_pos (by omega)]
      omega
    · refine ⟨(n + 1) / 3 + p / 3, List.mem_range.2 (by omega), ?_⟩
      unfold sampAt
      rw [if_neg (by omega)]
      omega
theorem sampAt_inj {A i j : Nat} (h : sampAt A i = sampAt A j) : i = j := by
  unfold sampAt at h
  split at h <;> split at h <;> omega
theorem twoN_nodup (n : Nat) : (twoN n).Nodup := by
  unfold twoN
  unfold List.Nodup
  rw [List.pairwise_map]
  exact List.nodup_range.imp fun h e => h (sampAt_inj e)
/-- How far the sample of n numbers goes: n itself is in it where it is 1 modulo 3. -/
def sampK (n : Nat) : Nat := if n % 3 = 1 then n + 1 else n
def sampA (n : Nat) : Nat := (sampK n + 1) / 3
def sampM (n : Nat) : Nat := (sampK n + 1) / 3 + sampK n / 3
def samp (n : Nat) : List Nat := (List.range (sampM n)).map (sampAt (sampA n))
theorem samp_two (n : Nat) : samp n = twoN (sampK n) := rfl
theorem samp_len (n : Nat) : (samp n).length = sampM n := by simp [samp]
theorem samp_at {n i : Nat} (h : i < sampM n) : (samp n).getD i 0 = sampAt (sampA n) i := mapI_at _ _ h
theorem samp_mem {n p : Nat} : p ∈ samp n ↔ p % 3 ≠ 0 ∧ (p < n ∨ (p = n ∧ n % 3 = 1)) := by
  rw [samp_two, twoN_mem]
  unfold sampK
  split <;> omega
theorem sampM_le (n : Nat) : sampM n ≤ n := by
  unfold sampM sampK
  split <;> omega
theorem sampM_lt {n : Nat} (h : 2 ≤ n) : sampM n < n := by
  unfold sampM sampK
  split <;> omega
theorem sampAt_mem {n i : Nat} (h : i < sampM n) : sampAt (sampA n) i % 3 ≠ 0 ∧ sampAt (sampA n) i ≤ n := by
  have h1 : sampAt (sampA n) i ∈ samp n := by
    rw [← samp_at h]
    exact getN_mem (by rw [samp_len]; exact h)
  have := samp_mem.1 h1
  omega
theorem sampAt_step {n i : Nat} (h : i < sampM n) (h2 : sampAt (sampA n) i + 2 < n) : (i + 1 < sampM n ∧ sampAt (sampA n) (i + 1) = sampAt (sampA n) i + 3) ∨ (i + 1 = sampM n ∧ sampAt (sampA n) i + 3 = n) := by
  have hK : (n % 3 = 1 ∧ sampK n = n + 1) ∨ (n % 3 ≠ 1 ∧ sampK n = n) := by
    unfold sampK
    split
    · exact .inl ⟨by assumption, rfl⟩
    · exact .inr ⟨by assumption, rfl⟩
  have hA : sampA n = (sampK n + 1) / 3 := rfl
  have hM : sampM n = (sampK n + 1) / 3 + sampK n / 3 := rfl
  generalize sampM n = M at *
  generalize sampA n = A at *
  generalize sampK n = K at *
  unfold sampAt at *
  by_cases g : i < A
  · rw [if_pos g] at h2 ⊢
    rw [if_pos (by omega)]
    omega
  · rw [if_neg g] at h2 ⊢
    rw [if_neg (by omega)]
    omega

/-- Are two triples the same? -/
def triB (s : List Int) (a b : Nat) : Bool := decide (padI s a = padI s b ∧ padI s (a + 1) = padI s (b + 1) ∧ padI s (a + 2) = padI s (b + 2))
theorem triB_iff {s : List Int} {a b : Nat} : triB s a b = true ↔ triEq s a b := decide_eq_true_iff
/-- The names of triples in order. -/
def nmT (s : List Int) (G : List Nat) : Nat → Nat
  | 0 => 0
  | t + 1 => nmT s G t + if triB s (G.getD t 0) (G.getD (t + 1) 0) = true then 0 else 1
theorem nmT_same {s : List Int} {G : List Nat} {t : Nat} (h : triB s (G.getD t 0) (G.getD (t + 1) 0) = true) : nmT s G (t + 1) = nmT s G t := by
  show nmT s G t + _ = _
  rw [if_pos h]
  rfl
theorem nmT_other {s : List Int} {G : List Nat} {t : Nat} (h : triB s (G.getD t 0) (G.getD (t + 1) 0) = false) : nmT s G (t + 1) = nmT s G t + 1 := by
  show nmT s G t + _ = _
  rw [if_neg (by rw [h]; simp)]
theorem nmT_add (s : List Int) (G : List Nat) (t : Nat) : ∀ d, nmT s G (t + d) ≤ nmT s G t + d ∧ nmT s G t ≤ nmT s G (t + d) := by
  intro d
  induction d with
  | zero => exact ⟨Nat.le_refl _, Nat.le_refl _⟩
  | succ d ih =>
    cases e : triB s (G.getD (t + d) 0) (G.getD (t + d + 1) 0)
    · rw [← Nat.add_assoc, nmT_other e]
      omega
    · rw [← Nat.add_assoc, nmT_same e]
      omega
theorem nmT_le (s : List Int) (G : List Nat) (t : Nat) : nmT s G t ≤ t := by
  have := (nmT_add s G 0 t).1
  rw [Nat.zero_add] at this
  exact Nat.le_trans this (by show 0 + t ≤ t; omega)
/-- In order of triples. -/
def SortT (s : List Int) (G : List Nat) : Prop := G.Pairwise fun a b => triLt s a b ∨ triEq s a b
theorem nmT_tell {s : List Int} {G : List Nat} (h : SortT s G) (t : Nat) : ∀ d, t + d < G.length → (nmT s G t = nmT s G (t + d) ∧ triEq s (G.getD t 0) (G.getD (t + d) 0)) ∨ (nmT s G t < nmT s G (t + d) ∧ triLt s (G.getD t 0) (G.getD (t + d) 0)) := by
  intro d
  induction d with
  | zero => intro _; exact .inl ⟨rfl, rfl, rfl, rfl⟩
  | succ d ih =>
    intro hl
    have h1 := ih (by omega)
    have h2 := pairN_at h (show t + d < t + d + 1 by omega) (by omega)
    rw [← Nat.add_assoc]
    cases e : triB s (G.getD (t + d) 0) (G.getD (t + d + 1) 0)
    · rw [nmT_other e]
      have h3 : ¬ triEq s (G.getD (t + d) 0) (G.getD (t + d + 1) 0) := fun g => by
        rw [triB_iff.2 g] at e
        cases e
      have h4 : triLt s (G.getD (t + d) 0) (G.getD (t + d + 1) 0) := by
        rcases h2 with g | g
        · exact g
        · exact absurd g h3
      right
      refine ⟨by omega, ?_⟩
      clear h2 h3 e
      rcases h1 with ⟨_, g⟩ | ⟨_, g⟩ <;> unfold triLt triEq at * <;> omega
    · rw [nmT_same e]
      have h4 := triB_iff.1 e
      clear h2 e
      rcases h1 with ⟨g0, g⟩ | ⟨g0, g⟩
      · left
        refine ⟨g0, ?_⟩
        unfold triEq at *
        omega
      · right
        refine ⟨g0, ?_⟩
        unfold triLt triEq at *
        omega
theorem nmT_less {s : List Int} {G : List Nat} (h : SortT s G) {t u : Nat} (ht : t < G.length) (hu : u < G.length) (hn : nmT s G t < nmT s G u) : triLt s (G.getD t 0) (G.getD u 0) := by
  by_cases hle : t ≤ u
  · have := nmT_tell h t (u - t) (by omega)
    rw [show t + (u - t) = u by omega] at this
    rcases this with g | g
    · omega
    · exact g.2
  · have := (nmT_add s G u (t - u)).2
    rw [show u + (t - u) = t by omega] at this
    omega
theorem nmT_eq {s : List Int} {G : List Nat} (h : SortT s G) {t u : Nat} (ht : t < G.length) (hu : u < G.length) (hn : nmT s G t = nmT s G u) : triEq s (G.getD t 0) (G.getD u 0) := by
  by_cases hle : t ≤ u
  · have := nmT_tell h t (u - t) (by omega)
    rw [show t + (u - t) = u by omega] at this
    rcases this with g | g
    · exact g.2
    · omega
  · have := nmT_tell h u (t - u) (by omega)
    rw [show u + (t - u) = t by omega] at this
    rcases this with g | g
    · exact ⟨g.2.1.symm, g.2.2.1.symm, g.2.2.2.symm⟩
    · omega

/-- Names as far as the first i places of the row. -/
structure NamedT (s : List Int) (G : List Nat) (L i : Nat) (A : List Int) (c : Nat) : Prop where
  len : A.length = L
  name : ∀ t, t < i → A.getD (G.getD t 0) 0 = (nmT s G t : Int) + 1
  zero : i = 0 → c = 0
  count : ∀ t, i = t + 1 → c = nmT s G t + 1
theorem NamedT.start (s : List Int) (G : List Nat) (L : Nat) : NamedT s G L 0 (List.replicate L 0) 0 := ⟨List.length_replicate, fun t h => by omega, fun _ => rfl, fun t h => by omega⟩
theorem NamedT.next {s : List Int} {G : List Nat} {L i c : Nat} {A : List Int} (h : NamedT s G L i A c) (hn : G.Nodup) (hi : i < G.length) (hL : G.getD i 0 < L) : NamedT s G L (i + 1) (A.set (G.getD i 0) ((nmT s G i : Int) + 1)) (nmT s G i + 1) := by
  refine ⟨by rw [List.length_set]; exact h.len, fun t ht => ?_, fun h0 => by omega, fun t ht => by rw [show i = t by omega]⟩
  by_cases e : t = i
  · subst e
    rw [setI_same (by rw [h.len]; exact hL)]
  · rw [setI_other (fun e2 => e (nodup_getN hn (by omega) hi e2.symm))]
    exact h.name t (by omega)
theorem NamedT.le {s : List Int} {G : List Nat} {L i c : Nat} {A : List Int} (h : NamedT s G L i A c) : c ≤ i := by
  by_cases h0 : i = 0
  · rw [h.zero h0]; omega
  · rw [h.count (i - 1) (by omega)]
    have := nmT_le s G (i - 1)
    omega

/-- A row with its tail, as far as it is laid. -/
structure HalfT (f : Nat → Int) (m i : Nat) (r : List Int) : Prop where
  len : r.length = m + 3
  at' : ∀ t, t < i → r.getD t 0 = f t
  zero : ∀ t, i ≤ t → r.getD t 0 = 0
theorem HalfT.start (f : Nat → Int) (m : Nat) : HalfT f m 0 (List.replicate (m + 3) 0) := ⟨List.length_replicate, (fun t h => by omega), fun t _ => by
  by_cases h : t < m + 3
  · simp [List.getD, h]
  · simp [List.getD, List.getElem?_eq_none (show (List.replicate (m + 3) (0 : Int)).length ≤ t by rw [List.length_replicate]; omega)]⟩
theorem HalfT.next {f : Nat → Int} {m i : Nat} {r : List Int} (h : HalfT f m i r) (hi : i < m) : HalfT f m (i + 1) (r.set i (f i)) := by
  refine ⟨by rw [List.length_set]; exact h.len, fun t ht => ?_, fun t ht => ?_⟩
  · by_cases e : t = i
    · subst e
      rw [setI_same (by rw [h.len]; omega)]
    · rw [setI_other (by omega)]
      exact h.at' t (by omega)
  · rw [setI_other (by omega)]
    exact h.zero t (by omega)
theorem HalfT.done {f : Nat → Int} {m : Nat} {r N : List Int} (h : HalfT f m m r) (hN : N.length = m) (hf : ∀ t, t < m → N.getD t 0 + 1 = f t) : r = tailI N := by
  refine rowI_ext (by rw [h.len, tailI_len, hN]) fun t ht => ?_
  rw [tailI_at]
  by_cases e : t < m
  · rw [h.at' t e, padI_in (by rw [hN]; exact e), hf t e]
  · rw [h.zero t (by omega), padI_out (by rw [hN]; omega)]

/-- The row of names. -/
def namI (n : Nat) (A : List Int) : List Int := (List.range (sampM n)).map fun i => A.getD (sampAt (sampA n) i) 0 - 1
theorem namI_len (n : Nat) (A : List Int) : (namI n A).length = sampM n := by simp [namI]
theorem namI_at {n : Nat} (A : List Int) {i : Nat} (h : i < sampM n) : (namI n A).getD i 0 = A.getD (sampAt (sampA n) i) 0 - 1 := mapI_at _ _ h
theorem NamedT.find {s : List Int} {G : List Nat} {L c : Nat} {A : List Int} (h : NamedT s G L G.length A c) (hG : G.Perm (samp s.length)) {i : Nat} (hi : i < sampM s.length) : ∃ t, t < G.length ∧ G.getD t 0 = sampAt (sampA s.length) i ∧ (namI s.length A).getD i 0 = (nmT s G t : Int) := by
  have hm : sampAt (sampA s.length) i ∈ G := hG.mem_iff.2 (by rw [← samp_at hi]; exact getN_mem (by rw [samp_len]; exact hi))
  obtain ⟨t, ht, et⟩ := mem_getN hm
  refine ⟨t, ht, et, ?_⟩
  rw [namI_at A hi, ← et, h.name t ht]
  omega
theorem NamedT.names {s : List Int} (hs : NonNeg s) {G : List Nat} {L c : Nat} {A : List Int} (h : NamedT s G L G.length A c) (hG : G.Perm (samp s.length)) (ho : SortT s G) : Names3 s (namI s.length A) (sampAt (sampA s.length)) := by
  refine ⟨fun i j hi hj hlt => ?_, fun i j hi hj hne he => ?_⟩
  · rw [namI_len] at hi hj
    obtain ⟨t, ht, et, nt⟩ := h.find hG hi
    obtain ⟨u, hu, eu, nu⟩ := h.find hG hj
    rw [nt, nu] at hlt
    rw [← et, ← eu]
    exact tri_lt hs (nmT_less ho ht hu (by omega))
  · rw [namI_len] at hi hj ⊢
    obtain ⟨t, ht, et, nt⟩ := h.find hG hi
    obtain ⟨u, hu, eu, nu⟩ := h.find hG hj
    rw [nt, nu] at he
    have hq := nmT_eq ho ht hu (by omega)
    rw [et, eu] at hq
    have mi := sampAt_mem hi
    have mj := sampAt_mem hj
    have hpl : sampAt (sampA s.length) i ≠ sampAt (sampA s.length) j := fun e => hne (sampAt_inj e)
    have hin : sampAt (sampA s.length) i < s.length := by
      apply Nat.lt_of_not_le
      intro hle
      have h1 := hq.1
      rw [padI_out hle] at h1
      have h2 : ¬ 0 < padI s (sampAt (sampA s.length) j) := by omega
      rw [padI_pos hs] at h2
      omega
    obtain ⟨h1, h2, h3⟩ := tri_same hs hin hpl hq
    rcases sampAt_step hi h1 with ⟨a1, a2⟩ | ⟨a1, a2⟩
    · rcases sampAt_step hj h2 with ⟨b1, b2⟩ | ⟨b1, b2⟩
      · exact .inl ⟨a1, b1, by rw [a2, b2]; exact h3⟩
      · refine .inr (.inr ⟨b1, ?_⟩)
        have h4 := tri_same hs (a := sampAt (sampA s.length) j) (by omega) hpl.symm ⟨hq.1.symm, hq.2.1.symm, hq.2.2.symm⟩
        exact h4.2.2.2 (ltE_end (by omega) (by omega))
    · exact .inr (.inl ⟨a1, h3.2 (ltE_end (by omega) (by omega))⟩)
theorem NamedT.fit {s : List Int} {G : List Nat} {L c : Nat} {A : List Int} (h : NamedT s G L G.length A c) (hG : G.Perm (samp s.length)) (hc : c ≤ 1000000) : fitB (tailI (namI s.length A)) ((c : Int) + 1) = true ∧ NonNeg (namI s.length A) := by
  have hl : G.length = sampM s.length := by rw [hG.length_eq, samp_len]
  have key : ∀ i, i < sampM s.length → 0 ≤ (namI s.length A).getD i 0 ∧ (namI s.length A).getD i 0 + 1 ≤ c := fun i hi => by
    obtain ⟨t, ht, et, nt⟩ := h.find hG hi
    have h1 := h.count (G.length - 1) (by omega)
    have h2 := (nmT_add s G t (G.length - 1 - t)).2
    rw [show t + (G.length - 1 - t) = G.length - 1 by omega] at h2
    rw [nt]
    omega
  refine ⟨fitB_iff.2 ⟨by omega, by omega, goodI_of fun j hj => ?_⟩, fun i hi => (key i (by rw [namI_len] at hi; exact hi)).1⟩
  rw [tailI_at]
  by_cases e : j < sampM s.length
  · rw [padI_in (by rw [namI_len]; exact e)]
    have := key j e
    omega
  · rw [padI_out (by rw [namI_len]; omega)]
    omega
/-- The sample in order of its endings. -/
structure InSamp (s : List Int) (G : List Nat) : Prop where
  perm : G.Perm (samp s.length)
  ord : G.Pairwise (ltE s)
theorem InSamp.len {s : List Int} {G : List Nat} (h : InSamp s G) : G.length = sampM s.length := by rw [h.perm.length_eq, samp_len]
theorem InSamp.mem {s : List Int} {G : List Nat} (h : InSamp s G) {p : Nat} : p ∈ G ↔ p % 3 ≠ 0 ∧ (p < s.length ∨ (p = s.length ∧ s.length % 3 = 1)) := by rw [h.perm.mem_iff, samp_mem]
theorem NamedT.apart {s : List Int} (hs : NonNeg s) {G : List Nat} {L c : Nat} {A : List Int} (h : NamedT s G L G.length A c) (hG : G.Perm (samp s.length)) (ho : SortT s G) (hc : G.length ≤ c) : InSamp s G := by
  refine ⟨hG, ?_⟩
  rw [List.pairwise_iff_getElem]
  intro i j hi hj hij
  have key : ∀ t, t < G.length → nmT s G t = t := fun t ht => by
    have h1 := h.count (G.length - 1) (by omega)
    have h2 := (nmT_add s G t (G.length - 1 - t)).1
    rw [show t + (G.length - 1 - t) = G.length - 1 by omega] at h2
    have h3 := nmT_le s G t
    omega
  have h1 := nmT_less ho hi hj (by rw [key i hi, key j hj]; exact hij)
  rw [show G.getD i 0 = G[i] by simp [List.getD, hi], show G.getD j 0 = G[j] by simp [List.getD, hj]] at h1
  exact tri_lt hs h1
theorem NamedT.back {s : List Int} (hs : NonNeg s) {G R : List Nat} {L c : Nat} {A : List Int} (h : NamedT s G L G.length A c) (hG : G.Perm (samp s.length)) (ho : SortT s G) (hR : InOrd (namI s.length A) R) : InSamp s (R.map (sampAt (sampA s.length))) := by
  have h1 := (h.names hs hG ho).ord hR
  refine ⟨?_, h1.1⟩
  have h2 := h1.2
  rw [namI_len] at h2
  exact h2

/-- Three passes: in order of triples. -/
theorem sort3 {s : List Int} (hs : NonNeg s) {k : Nat} (hk : ∀ i, padI s i < k) (P : List Nat) :
    SortT s (csort k (csort k (csort k P fun p => (padI s (p + 2)).toNat) fun p => (padI s (p + 1)).toNat) fun p => (padI s p).toNat) ∧ (csort k (csort k (csort k P fun p => (padI s (p + 2)).toNat) fun p => (padI s (p + 1)).toNat) fun p => (padI s p).toNat).Perm P := by
  have hlt : ∀ i, (padI s i).toNat < k := fun i => by
    have := hk i
    have := padI_ge hs i
    omega
  constructor
  · have h0 : P.Pairwise fun _ _ => True := List.pairwise_of_forall fun _ _ => trivial
    have h3 := csort_sorted k (fun p => (padI s p).toNat) (csort_sorted k (fun p => (padI s (p + 1)).toNat) (csort_sorted k (fun p => (padI s (p + 2)).toNat) h0))
    refine h3.imp fun {a b} h => ?_
    have a0 := padI_ge hs a
    have a1 := padI_ge hs (a + 1)
    have a2 := padI_ge hs (a + 2)
    have b0 := padI_ge hs b
    have b1 := padI_ge hs (b + 1)
    have b2 := padI_ge hs (b + 2)
    unfold triLt triEq
    generalize padI s a = x0 at *
    generalize padI s (a + 1) = x1 at *
    generalize padI s (a + 2) = x2 at *
    generalize padI s b = y0 at *
    generalize padI s (b + 1) = y1 at *
    generalize padI s (b + 2) = y2 at *
    omega
  · exact (csort_perm fun p _ => hlt _).trans ((csort_perm fun p _ => hlt _).trans (csort_perm fun p _ => hlt _))

/-- The places ahead of the sample's first third, as they stand there. -/
def restOf (G : List Nat) : List Nat := (G.filter fun p => p % 3 == 1).map fun p => p - 1
theorem restOf_yes {G : List Nat} {i : Nat} (hi : i < G.length) (h : G.getD i 0 % 3 = 1) : restOf (G.take (i + 1)) = restOf (G.take i) ++ [G.getD i 0 - 1] := by
  rw [takeN_succ hi]
  unfold restOf
  rw [List.filter_append, List.map_append, List.filter_cons_of_pos (by simpa using h)]
  rfl
theorem restOf_no {G : List Nat} {i : Nat} (hi : i < G.length) (h : G.getD i 0 % 3 ≠ 1) : restOf (G.take (i + 1)) = restOf (G.take i) := by
  rw [takeN_succ hi]
  unfold restOf
  rw [List.filter_append, List.filter_cons_of_neg (by simpa using h), List.filter_nil, List.append_nil]
theorem restOf_len (G : List Nat) : (restOf G).length ≤ G.length := by
  unfold restOf
  rw [List.length_map]
  exact List.length_filter_le _ _
theorem restOf_mem {s : List Int} {G : List Nat} (h : InSamp s G) {a : Nat} : a ∈ restOf G ↔ a < s.length ∧ a % 3 = 0 := by
  unfold restOf
  rw [List.mem_map]
  constructor
  · rintro ⟨p, hp, rfl⟩
    obtain ⟨h1, h2⟩ := List.mem_filter.1 hp
    have h3 := h.mem.1 h1
    have h4 : p % 3 = 1 := by simpa using h2
    omega
  · rintro ⟨h1, h2⟩
    exact ⟨a + 1, List.mem_filter.2 ⟨h.mem.2 (by omega), by simp; omega⟩, by omega⟩
/-- The rest in order of its endings. -/
structure InRest (s : List Int) (T : List Nat) : Prop where
  mem : ∀ a, a ∈ T ↔ a < s.length ∧ a % 3 = 0
  ord : T.Pairwise (ltE s)
  len : T.length ≤ s.length
theorem rest_ord {s : List Int} (hs : NonNeg s) {k : Nat} (hk : ∀ i, padI s i < k) {G : List Nat} (h : InSamp s G) : InRest s (csort k (restOf G) fun p => (padI s p).toNat) := by
  have hlt : ∀ i, (padI s i).toNat < k := fun i => by
    have := hk i
    have := padI_ge hs i
    omega
  have hp : (csort k (restOf G) fun p => (padI s p).toNat).Perm (restOf G) := csort_perm fun p _ => hlt p
  refine ⟨fun a => by rw [hp.mem_iff, restOf_mem h], ?_, ?_⟩
  · have h0 : (restOf G).Pairwise fun a b => ltE s (a + 1) (b + 1) := by
      unfold restOf
      rw [List.pairwise_map]
      refine (h.ord.filter _).imp_of_mem fun {a b} ha hb hab => ?_
      have ha2 : a % 3 = 1 := by simpa using (List.mem_filter.1 ha).2
      have hb2 : b % 3 = 1 := by simpa using (List.mem_filter.1 hb).2
      rw [show a - 1 + 1 = a by omega, show b - 1 + 1 = b by omega]
      exact hab
    refine (csort_sorted k (fun p => (padI s p).toNat) h0).imp_of_mem fun {a b} ha hb hab => ?_
    have h1 := ((restOf_mem h).1 (hp.mem_iff.1 ha)).1
    have a0 := padI_ge hs a
    have b0 := padI_ge hs b
    refine (pad_iff hs (.inl h1)).2 ?_
    rcases hab with g | ⟨g, g2⟩
    · exact .inl (by omega)
    · exact .inr ⟨by omega, g2⟩
  · rw [hp.length_eq]
    have h1 := restOf_len G
    have h2 := sampM_le s.length
    rw [h.len] at h1
    omega

/-- Ranks of the first i places. -/
structure RankT (G : List Nat) (L i : Nat) (r : List Int) : Prop where
  len : r.length = L
  at' : ∀ t, t < i → r.getD (G.getD t 0) 0 = (t : Int) + 1
  no : ∀ p, (∀ t, t < i → G.getD t 0 ≠ p) → r.getD p 0 = 0
theorem RankT.start (G : List Nat) (L : Nat) : RankT G L 0 (List.replicate L 0) := ⟨List.length_replicate, (fun t h => by omega), fun p _ => by
  by_cases h : p < L
  · simp [List.getD, h]
  · simp [List.getD, List.getElem?_eq_none (show (List.replicate L (0 : Int)).length ≤ p by rw [List.length_replicate]; omega)]⟩
theorem RankT.next {G : List Nat} {L i : Nat} {r : List Int} (h : RankT G L i r) (hn : G.Nodup) (hi : i < G.length) (hL : G.getD i 0 < L) : RankT G L (i + 1) (r.set (G.getD i 0) ((i : Int) + 1)) := by
  refine ⟨by rw [List.length_set]; exact h.len, fun t ht => ?_, fun p hp => ?_⟩
  · by_cases e : t = i
    · subst e
      rw [setI_same (by rw [h.len]; exact hL)]
    · rw [setI_other (fun e2 => e (nodup_getN hn (by omega) hi e2.symm))]
      exact h.at' t (by omega)
  · rw [setI_other (hp i (by omega))]
    exact h.no p fun t ht => hp t (by omega)
theorem rank_iff {s : List Int} {G : List Nat} {L : Nat} {r : List Int} (h : RankT G L G.length r) (hG : InSamp s G) {a b : Nat} (ha : a ≤ s.length) (hb : b ≤ s.length) (hab : a ≠ b) (ha3 : a % 3 ≠ 0) (hb3 : b % 3 ≠ 0) : r.getD a 0 < r.getD b 0 ↔ ltE s a b := by
  have key : ∀ p, p ≤ s.length → p % 3 ≠ 0 → (∃ t, t < G.length ∧ G.getD t 0 = p ∧ r.getD p 0 = (t : Int) + 1) ∨ (p = s.length ∧ r.getD p 0 = 0) := fun p h1 h2 => by
    by_cases hm : p ∈ G
    · obtain ⟨t, ht, et⟩ := mem_getN hm
      exact .inl ⟨t, ht, et, by rw [← et]; exact h.at' t ht⟩
    · right
      refine ⟨?_, h.no p fun t ht e => hm (by rw [← e]; exact getN_mem ht)⟩
      rw [hG.mem] at hm
      omega
  rcases key a ha ha3 with ⟨t, ht, et, rt⟩ | ⟨ea, ra⟩
  · rcases key b hb hb3 with ⟨u, hu, eu, ru⟩ | ⟨eb, rb⟩
    · rw [rt, ru]
      constructor
      · intro g
        rw [← et, ← eu]
        exact pairN_at hG.ord (show t < u by omega) hu
      · intro g
        rcases Nat.lt_trichotomy t u with g2 | g2 | g2
        · omega
        · subst g2
          omega
        · have := pairN_at hG.ord g2 ht
          rw [et, eu] at this
          exact absurd (ltE_trans g this) ltE_irrefl
    · rw [rt, rb]
      exact ⟨fun g => by omega, fun g => absurd g (ltE_no (by omega))⟩
  · rcases key b hb hb3 with ⟨u, hu, eu, ru⟩ | ⟨eb, rb⟩
    · rw [ra, ru]
      exact ⟨fun _ => ltE_end (by omega) (by omega), fun _ => by omega⟩
    · omega
/-- One ending less than another, as a test. -/
def ltB (s : List Int) (a b : Nat) : Bool := decide (cmpI (s.drop a) (s.drop b) < 0)
theorem ltB_iff {s : List Int} {a b : Nat} : ltB s a b = true ↔ ltE s a b := decide_eq_true_iff
theorem ltB_eq {s : List Int} {a b : Nat} {p : Prop} [Decidable p] (h : p ↔ ltE s a b) : decide p = ltB s a b := by
  rw [Bool.eq_iff_iff, ltB_iff, decide_eq_true_iff]
  exact h
theorem ltB_same {s : List Int} {a b a' b' : Nat} (h : ltE s a b ↔ ltE s a' b') : ltB s a b = ltB s a' b' := by
  rw [Bool.eq_iff_iff, ltB_iff, ltB_iff]
  exact h

/-- The place behind the last number is the first of the sample, if it is in it. -/
theorem samp_first {s : List Int} {G : List Nat} (h : InSamp s G) (hm : s.length ∈ G) : 0 < G.length ∧ G.getD 0 0 = s.length := by
  obtain ⟨t, ht, et⟩ := mem_getN hm
  refine ⟨by omega, ?_⟩
  by_cases e : t = 0
  · subst e; exact et
  · have := pairN_at h.ord (show 0 < t by omega) ht
    rw [et] at this
    exact absurd this (ltE_no (Nat.le_refl _))
/-- The sample without the place behind the last number. -/
structure InTwo (s : List Int) (G : List Nat) : Prop where
  mem : ∀ a, a ∈ G ↔ a < s.length ∧ a % 3 ≠ 0
  ord : G.Pairwise (ltE s)
  len : G.length ≤ s.length
theorem two_drop {s : List Int} {G : List Nat} (h : InSamp s G) (h0 : 0 < G.length) (he : G.getD 0 0 = s.length) : InTwo s (G.drop 1) := by
  have hc : G = s.length :: G.drop 1 := by
    have := dropN_cons h0
    rw [he] at this
    exact this
  have hn : G.Nodup := h.perm.nodup_iff.2 (by rw [samp_two]; exact twoN_nodup _)
  have hn2 := hn
  rw [hc] at hn2
  have hni := (List.nodup_cons.1 hn2).1
  refine ⟨fun a => ⟨fun ha => ?_, fun ha => ?_⟩, h.ord.sublist (List.drop_sublist _ _), ?_⟩
  · have h1 := h.mem.1 (List.mem_of_mem_drop ha)
    have h2 : a ≠ s.length := fun e => hni (by rw [← e]; exact ha)
    omega
  · have h1 := h.mem.2 (show a % 3 ≠ 0 ∧ (a < s.length ∨ (a = s.length ∧ s.length % 3 = 1)) by omega)
    rw [hc] at h1
    rcases List.mem_cons.1 h1 with g | g
    · omega
    · exact g
  · have h1 := sampM_le s.length
    rw [List.length_drop, h.len]
    omega
theorem two_all {s : List Int} {G : List Nat} (h : InSamp s G) (hno : ¬ (0 < G.length ∧ G.getD 0 0 = s.length)) : InTwo s G := by
  have hni : s.length ∉ G := fun hm => hno (samp_first h hm)
  refine ⟨fun a => ?_, h.ord, by have := sampM_le s.length; rw [h.len]; exact this⟩
  rw [h.mem]
  constructor
  · rintro ⟨h1, h2 | ⟨h2, h3⟩⟩
    · exact ⟨h2, h1⟩
    · exact absurd (h.mem.2 ⟨by omega, .inr ⟨rfl, h3⟩⟩) hni
  · rintro ⟨h1, h2⟩
    exact ⟨h2, .inl h1⟩
/-- Both as one: all places in order. -/
theorem merge_ord {s : List Int} {G T out : List Nat} (hG : InTwo s G) (hT : InRest s T) (ho : out.Pairwise (ltE s)) (hp : out.Perm (G ++ T)) : InOrd s out := by
  refine ⟨?_, ho⟩
  have hn : out.Nodup := ho.imp fun h e => by
    rw [e] at h
    exact ltE_irrefl h
  refine (List.perm_ext_iff_of_nodup hn List.nodup_range).2 fun a => ?_
  rw [hp.mem_iff, List.mem_append, hG.mem, hT.mem, List.mem_range]
  omega
end Go.Proofs.Ytnacjmkconabdaa
