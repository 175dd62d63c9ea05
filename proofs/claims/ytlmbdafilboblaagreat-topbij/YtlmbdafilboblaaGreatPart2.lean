/- Texts laid together: SaRed, OrdMore, SaPart, But, Byt, EqInt, Ints, NatRow, SaAlike, Mul, RepInt, Bools, KinSmall, KinFirst, IndIs, BktStarts, BktFit, BktCounts, IndEnds, IndPut, IndStep1, IndStep2, IndStep3, IndSort, SaBy, SaName, SaOrder, MakeB. -/
import Derived.Test.YtlmbdafilboblaaGreatPart1
import Derived.Laws.Pointers
import Derived.Test.YtlmbdafilboblaaGreatRows
import Derived.Laws.OwnMore
import Derived.Lib.Mul64
import Derived.Laws.Bits64b
import Derived.Laws.CopyRow
import Derived.Laws.IdiomCopy
import Derived.BigRegion
/- Parts named in order: the names' endings stand as the first places' endings do. Plain numbers, no conditions. -/
namespace Go.Proofs.YtlmbdafilboblaaGreat
set_option linter.unusedVariables false
set_option linter.unusedSimpArgs false

/-- Names of the parts, in the first places' order in the text: less names are of less parts. -/
structure Names (s N : List Int) : Prop where
  len : N.length = (firstN s).length
  lt : ∀ i j, i < N.length → j < N.length → (N.getD i 0 < N.getD j 0 ↔ cmpI (cutW s ((firstN s).getD i 0)) (cutW s ((firstN s).getD j 0)) < 0)

theorem Names.same {s N : List Int} (h : Names s N) {i j : Nat} (hi : i < N.length) (hj : j < N.length) (e : N.getD i 0 = N.getD j 0) : cutW s ((firstN s).getD i 0) = cutW s ((firstN s).getD j 0) := by
  have h1 := h.lt i j hi hj
  have h2 := h.lt j i hj hi
  rw [cmpI_swap] at h2
  have h3 : ¬ cmpI (cutW s ((firstN s).getD i 0)) (cutW s ((firstN s).getD j 0)) < 0 := fun h => by have := h1.2 h; omega
  have h4 : ¬ -cmpI (cutW s ((firstN s).getD i 0)) (cutW s ((firstN s).getD j 0)) < 0 := fun h => by have := h2.2 h; omega
  exact cmpI_zero (by omega)
theorem firstN_lt (s : List Int) {i j : Nat} (hij : i < j) (hj : j < (firstN s).length) : (firstN s).getD i 0 < (firstN s).getD j 0 := pairN_at (firN_sorted s s.length) hij hj
theorem firstN_at {s : List Int} {i : Nat} (hi : i < (firstN s).length) : (firstN s).getD i 0 < s.length ∧ fsB s ((firstN s).getD i 0) = true := firN_mem.1 (getN_mem hi)
/-- The next first place is the next of the row. -/
theorem firstN_next {s : List Int} {i e : Nat} (hi : i < (firstN s).length) (he : 1 ≤ e) (hf : fsB s ((firstN s).getD i 0 + e) = true) (hb : ∀ x, 1 ≤ x → x < e → fsB s ((firstN s).getD i 0 + x) = false) :
    i + 1 < (firstN s).length ∧ (firstN s).getD (i + 1) 0 = (firstN s).getD i 0 + e := by
  have hlt : (firstN s).getD i 0 + e < s.length := by
    apply Nat.lt_of_not_le
    intro hle
    rw [fsB_out hle] at hf
    cases hf
  have hm : (firstN s).getD i 0 + e ∈ firstN s := firN_mem.2 ⟨hlt, hf⟩
  obtain ⟨j, hj, ej⟩ := mem_getN hm
  have hij : i < j := by
    apply Nat.lt_of_not_le
    intro hle
    by_cases e2 : j = i
    · subst e2; omega
    · have := firstN_lt s (show j < i by omega) hi
      omega
  refine ⟨by omega, ?_⟩
  by_cases e2 : j = i + 1
  · rw [← e2, ej]
  · have h1 := firstN_lt s (show i < i + 1 by omega) (by omega)
    have h2 := firstN_lt s (show i + 1 < j by omega) hj
    have h3 := (firstN_at (s := s) (i := i + 1) (by omega)).2
    have h4 := hb ((firstN s).getD (i + 1) 0 - (firstN s).getD i 0) (by omega) (by omega)
    rw [show (firstN s).getD i 0 + ((firstN s).getD (i + 1) 0 - (firstN s).getD i 0) = (firstN s).getD (i + 1) 0 by omega, h3] at h4
    cases h4

theorem red_lt {s N : List Int} (h : Names s N) : ∀ d i j, N.length - i = d → i < N.length → j < N.length → ltE N i j → ltE s ((firstN s).getD i 0) ((firstN s).getD j 0) := by
  intro d
  induction d with
  | zero => intro i j h1 h2; omega
  | succ d ih =>
    intro i j hd hi hj hlt
    have hl := h.len
    have fi := firstN_at (s := s) (i := i) (by omega)
    have fj := firstN_at (s := s) (i := j) (by omega)
    rcases Int.lt_trichotomy (N.getD i 0) (N.getD j 0) with hc | hc | hc
    · exact cut_lt _ _ _ rfl fi.1 fj.1 ((h.lt i j hi hj).1 hc)
    · have hne : i ≠ j := fun e => by
        subst e
        exact ltE_irrefl hlt
      have hne2 : (firstN s).getD i 0 ≠ (firstN s).getD j 0 := fun e => by
        rcases Nat.lt_or_gt_of_ne hne with g | g
        · have := firstN_lt s g (by omega); omega
        · have := firstN_lt s g (by omega); omega
      obtain ⟨e, e1, e2, e3, e4, e5⟩ := cut_same _ _ _ rfl fi.1 fj.1 hne2 (h.same hi hj hc)
      obtain ⟨n1, n2⟩ := firstN_next (s := s) (i := i) (by omega) e1 e2 fun x h1 h2 => (e4 x h1 h2).1
      obtain ⟨n3, n4⟩ := firstN_next (s := s) (i := j) (by omega) e1 e3 fun x h1 h2 => (e4 x h1 h2).2
      rw [ltE_same hi hj hc] at hlt
      have := ih (i + 1) (j + 1) (by omega) (by omega) (by omega) hlt
      rw [n2, n4] at this
      exact e5.2 this
    · exact absurd (ltE_trans hlt (ltE_less hj hi hc)) ltE_irrefl

/-- The names' order brings the first places into theirs. -/
theorem red_ord {s N : List Int} {R : List Nat} (h : Names s N) (hR : InOrd N R) : (R.map fun i => (firstN s).getD i 0).Perm (firstN s) ∧ (R.map fun i => (firstN s).getD i 0).Pairwise (ltE s) := by
  constructor
  · have h1 := hR.1.map fun i => (firstN s).getD i 0
    refine h1.trans ?_
    have e : (List.range N.length).map (fun i => (firstN s).getD i 0) = firstN s := natL_ext (by rw [List.length_map, List.length_range, h.len]) fun i hi => by
      rw [List.length_map, List.length_range] at hi
      exact mapI_at _ _ hi
    rw [e]
  · rw [List.pairwise_map]
    refine hR.2.imp_of_mem fun ha hb hlt => ?_
    exact red_lt h _ _ _ rfl (List.mem_range.1 (hR.1.mem_iff.1 ha)) (List.mem_range.1 (hR.1.mem_iff.1 hb)) hlt
theorem sais_ord {s : List Int} {K : Nat} {F : List Nat} (f : Fits s K) (hp : F.Perm (firstN s)) (ho : F.Pairwise (ltE s)) : ∃ R, indI s K F = natL R ∧ InOrd s R := by
  obtain ⟨R, h1, h2, _, h4⟩ := indI_all f ⟨hp⟩
  exact ⟨R, h1, h2, h4 ho⟩

/-- The first places as a row has them. -/
def firOf (s : List Int) (R : List Nat) : List Nat := R.filter (fsB s)
theorem firOf_perm {s : List Int} {R : List Nat} (h : R.Perm (List.range s.length)) : (firOf s R).Perm (firstN s) := h.filter _
theorem firOf_cut {s : List Int} {R : List Nat} (h : R.Pairwise (fun a b => cmpI (cutW s a) (cutW s b) ≤ 0)) : (firOf s R).Pairwise (fun a b => cmpI (cutW s a) (cutW s b) ≤ 0) := h.filter _
/-- Where no two parts are one, their order is that of the endings. -/
theorem firOf_ord {s : List Int} {G : List Nat} (hp : G.Perm (firstN s)) (h : G.Pairwise (fun a b => cmpI (cutW s a) (cutW s b) ≤ 0)) (hd : ∀ t, t + 1 < G.length → cutW s (G.getD t 0) ≠ cutW s (G.getD (t + 1) 0)) : G.Pairwise (ltE s) := by
  rw [List.pairwise_iff_getElem]
  intro i j hi hj hij
  have mem : ∀ t, t < G.length → G.getD t 0 < s.length := fun t ht => (firN_mem.1 (hp.mem_iff.1 (getN_mem ht))).1
  have key : ∀ d t, t + d + 1 < G.length → ltE s (G.getD t 0) (G.getD (t + d + 1) 0) := by
    intro d
    induction d with
    | zero =>
      intro t ht
      have h1 := pairN_at h (show t < t + 1 by omega) (by omega)
      have h2 : cmpI (cutW s (G.getD t 0)) (cutW s (G.getD (t + 1) 0)) ≠ 0 := fun e => hd t (by omega) (cmpI_zero e)
      exact cut_lt _ _ _ rfl (mem t (by omega)) (mem (t + 1) (by omega)) (Int.lt_iff_le_and_ne.2 ⟨h1, h2⟩)
    | succ d ih =>
      intro t ht
      have h1 := ih t (by omega)
      have h2 := pairN_at h (show t + d + 1 < t + (d + 1) + 1 by omega) (by omega)
      have h3 : cmpI (cutW s (G.getD (t + d + 1) 0)) (cutW s (G.getD (t + d + 1 + 1) 0)) ≠ 0 := fun e => hd (t + d + 1) (by omega) (cmpI_zero e)
      refine ltE_trans h1 (cut_lt _ _ _ rfl (mem _ (by omega)) (mem _ (by omega)) ?_)
      rw [show t + (d + 1) + 1 = t + d + 1 + 1 by omega] at h2 ⊢
      omega
  have := key (j - i - 1) i (by omega)
  rw [show i + (j - i - 1) + 1 = j by omega] at this
  simpa [List.getD, List.getElem?_eq_getElem hi, List.getElem?_eq_getElem hj] using this

/-- Names by counting: one more where a part is not the one ahead of it. -/
def nmG (s : List Int) (G : List Nat) : Nat → Nat
  | 0 => 0
  | t + 1 => nmG s G t + if cutW s (G.getD t 0) = cutW s (G.getD (t + 1) 0) then 0 else 1
theorem nmG_same {s : List Int} {G : List Nat} {t : Nat} (h : cutW s (G.getD t 0) = cutW s (G.getD (t + 1) 0)) : nmG s G (t + 1) = nmG s G t := by
  show nmG s G t + _ = _
  rw [if_pos h]; rfl
theorem nmG_other {s : List Int} {G : List Nat} {t : Nat} (h : cutW s (G.getD t 0) ≠ cutW s (G.getD (t + 1) 0)) : nmG s G (t + 1) = nmG s G t + 1 := by
  show nmG s G t + _ = _
  rw [if_neg h]
theorem nmG_le (s : List Int) (G : List Nat) (t : Nat) : nmG s G t ≤ t := by
  induction t with
  | zero => exact Nat.le_refl _
  | succ t ih =>
    show nmG s G t + _ ≤ _
    split <;> omega
theorem nmG_step (s : List Int) (G : List Nat) (t : Nat) : nmG s G t ≤ nmG s G (t + 1) := by
  show _ ≤ nmG s G t + _
  omega
theorem nmG_mono (s : List Int) (G : List Nat) {t u : Nat} (h : t ≤ u) : nmG s G t ≤ nmG s G u := by
  induction h with
  | refl => exact Nat.le_refl _
  | step _ ih => exact Nat.le_trans ih (nmG_step _ _ _)
theorem cmpI_anti {x y : List Int} (h1 : cmpI x y ≤ 0) (h2 : cmpI y x ≤ 0) : x = y := by
  rw [cmpI_swap] at h2
  exact cmpI_zero (by omega)
theorem nmG_iff {s : List Int} {G : List Nat} (h : G.Pairwise (fun a b => cmpI (cutW s a) (cutW s b) ≤ 0)) : ∀ d t, t + d < G.length → (nmG s G t = nmG s G (t + d) ↔ cutW s (G.getD t 0) = cutW s (G.getD (t + d) 0)) := by
  intro d
  induction d with
  | zero => intro t _; simp
  | succ d ih =>
    intro t ht
    have i1 := ih t (by omega)
    have m1 := nmG_mono s G (show t ≤ t + d by omega)
    by_cases e : cutW s (G.getD (t + d) 0) = cutW s (G.getD (t + d + 1) 0)
    · rw [show t + (d + 1) = t + d + 1 by omega, nmG_same e, ← e]
      exact i1
    · rw [show t + (d + 1) = t + d + 1 by omega, nmG_other e]
      constructor
      · intro h1; omega
      · intro h1
        exfalso
        by_cases hd : d = 0
        · subst hd
          exact e h1
        · have p1 := pairN_at h (show t < t + d by omega) (by omega)
          have p2 := pairN_at h (show t + d < t + d + 1 by omega) (by omega)
          rw [← h1] at p2
          exact e ((cmpI_anti p1 p2).symm.trans h1)
theorem nmG_lt {s : List Int} {G : List Nat} (h : G.Pairwise (fun a b => cmpI (cutW s a) (cutW s b) ≤ 0)) {t u : Nat} (ht : t < G.length) (hu : u < G.length) : nmG s G t < nmG s G u ↔ cmpI (cutW s (G.getD t 0)) (cutW s (G.getD u 0)) < 0 := by
  have key : ∀ {a b : Nat}, a < b → b < G.length → (nmG s G a < nmG s G b ↔ cmpI (cutW s (G.getD a 0)) (cutW s (G.getD b 0)) < 0) ∧ cmpI (cutW s (G.getD a 0)) (cutW s (G.getD b 0)) ≤ 0 := fun {a b} hab hb => by
    have h1 := nmG_iff h (b - a) a (by omega)
    rw [show a + (b - a) = b by omega] at h1
    have h2 := pairN_at h hab hb
    have h3 := nmG_mono s G (show a ≤ b by omega)
    refine ⟨⟨fun h4 => ?_, fun h4 => ?_⟩, h2⟩
    · have : cmpI (cutW s (G.getD a 0)) (cutW s (G.getD b 0)) ≠ 0 := fun e => by have := h1.2 (cmpI_zero e); omega
      omega
    · have : nmG s G a ≠ nmG s G b := fun e => by
        rw [h1.1 e, cmpI_self] at h4
        omega
      omega
  rcases Nat.lt_trichotomy t u with g | g | g
  · exact (key g hu).1
  · subst g
    rw [cmpI_self]
    omega
  · have h1 := nmG_mono s G (show u ≤ t by omega)
    have h2 := (key g ht).2
    rw [cmpI_swap] at h2
    omega
/-- The names that counting gives, laid by the first places' order in the text. -/
theorem names_of {s N : List Int} {G : List Nat} (hp : G.Perm (firstN s)) (h : G.Pairwise (fun a b => cmpI (cutW s a) (cutW s b) ≤ 0)) (hl : N.length = (firstN s).length) (hN : ∀ t i, t < G.length → i < N.length → G.getD t 0 = (firstN s).getD i 0 → N.getD i 0 = (nmG s G t : Int)) : Names s N := by
  refine ⟨hl, fun i j hi hj => ?_⟩
  obtain ⟨t, ht, et⟩ := mem_getN (hp.mem_iff.2 (getN_mem (l := firstN s) (i := i) (by omega)))
  obtain ⟨u, hu, eu⟩ := mem_getN (hp.mem_iff.2 (getN_mem (l := firstN s) (i := j) (by omega)))
  rw [hN t i ht hi et, hN u j hu hj eu, ← et, ← eu, ← nmG_lt h ht hu]
  omega
end Go.Proofs.YtlmbdafilboblaaGreat

/- The order of one number again and again, and of numbers spread apart. Plain numbers, no conditions. -/
namespace Go.Proofs.YtlmbdafilboblaaGreat
set_option linter.unusedVariables false
set_option linter.unusedSimpArgs false

theorem same_lt {n : Nat} {z : Int} : ∀ (d a b : Nat), n - a = d → b < a → a ≤ n → ltE (List.replicate n z) a b := by
  intro d
  induction d with
  | zero =>
    intro a b h1 h2 h3
    exact ltE_end (by rw [List.length_replicate]; omega) (by rw [List.length_replicate]; omega)
  | succ d ih =>
    intro a b h1 h2 h3
    rw [ltE_same (by rw [List.length_replicate]; omega) (by rw [List.length_replicate]; omega) (by simp [List.getD, show a < n by omega, show b < n by omega])]
    exact ih (a + 1) (b + 1) (by omega) (by omega) (by omega)
theorem same_ord (n : Nat) (z : Int) : InOrd (List.replicate n z) (List.range n).reverse := by
  refine ⟨by rw [List.length_replicate]; exact List.reverse_perm _, ?_⟩
  rw [List.pairwise_reverse]
  refine (List.pairwise_lt_range (n := n)).imp_of_mem fun ha hb hab => ?_
  exact same_lt _ _ _ rfl hab (by have := List.mem_range.1 hb; omega)
theorem revN_at {n i : Nat} (h : i < n) : (List.range n).reverse.getD i 0 = n - 1 - i := by
  simp [List.getD, h]

theorem cmpI_map {f : Int → Int} (hf : ∀ x y, x < y → f x < f y) : ∀ (x y : List Int), cmpI (x.map f) (y.map f) = cmpI x y
  | [], [] => rfl
  | [], _ :: _ => rfl
  | _ :: _, [] => rfl
  | a :: x, b :: y => by
    rw [List.map_cons, List.map_cons, cmpI, cmpI, cmpI_map hf x y]
    rcases Int.lt_trichotomy a b with h | h | h
    · rw [if_pos h, if_pos (hf _ _ h)]
    · subst h
      rw [if_neg (by omega), if_neg (by omega), if_neg (by omega), if_neg (by omega)]
    · have := hf _ _ h
      rw [if_neg (by omega), if_pos this, if_neg (by omega), if_pos h]
theorem InOrd.map {f : Int → Int} (hf : ∀ x y, x < y → f x < f y) {s : List Int} {R : List Nat} (h : InOrd s R) : InOrd (s.map f) R := by
  refine ⟨by rw [List.length_map]; exact h.1, h.2.imp fun hab => ?_⟩
  unfold ltE at *
  rw [← List.map_drop, ← List.map_drop, cmpI_map hf]
  exact hab
theorem spread_lt {b m : Int} (hb : 1 ≤ b) : ∀ x y : Int, x < y → x * b + m < y * b + m := fun x y h => by
  have := Int.mul_lt_mul_of_pos_right h (show 0 < b by omega)
  omega
theorem spread_in {z b : Int} (h0 : 0 ≤ z) (h1 : z ≤ 200) (hb0 : 1 ≤ b) (hb1 : b ≤ 9) : 0 ≤ z * b ∧ z * b ≤ 200 * b := by
  refine ⟨Int.mul_nonneg h0 (by omega), ?_⟩
  exact Int.mul_le_mul_of_nonneg_right h1 (by omega)
theorem rowI_ext {l l' : List Int} (hl : l.length = l'.length) (h : ∀ i, i < l.length → l.getD i 0 = l'.getD i 0) : l = l' := by
  refine List.ext_getElem hl fun i h1 h2 => ?_
  have := h i h1
  simpa [List.getD, List.getElem?_eq_getElem h1, List.getElem?_eq_getElem h2] using this
end Go.Proofs.YtlmbdafilboblaaGreat

/- Pieces from one first place to the next, by their numbers alone. Plain numbers, no conditions. -/
namespace Go.Proofs.YtlmbdafilboblaaGreat
set_option linter.unusedVariables false
set_option linter.unusedSimpArgs false

theorem cutW_run {s : List Int} : ∀ (e a : Nat), 1 ≤ e → a + e < s.length → fsB s (a + e) = true → (∀ x, 1 ≤ x → x < e → fsB s (a + x) = false) → cutW s a = (List.range (e + 1)).map fun (x : Nat) => codeI s (a + x) := by
  intro e
  induction e with
  | zero => intro a h; omega
  | succ e ih =>
    intro a _ hl hf hb
    rw [cutW_cons (by omega), List.range_succ_eq_map]
    simp only [List.map_cons, List.map_map, Nat.add_zero]
    congr 1
    by_cases h0 : e = 0
    · subst h0
      rw [if_pos hf]
      simp [List.range_succ]
    · rw [hb 1 (by omega) (by omega), if_neg (by simp), ih (a + 1) (by omega) (by omega) (by rw [show a + 1 + e = a + (e + 1) by omega]; exact hf) (fun x h1 h2 => by rw [show a + 1 + x = a + (x + 1) by omega]; exact hb (x + 1) (by omega) (by omega))]
      refine List.map_congr_left fun x _ => ?_
      show codeI s (a + 1 + x) = codeI s (a + (x + 1))
      rw [show a + 1 + x = a + (x + 1) by omega]
theorem same_kinds {s : List Int} {a b e : Nat} (hae : a + e < s.length) (hbe : b + e < s.length) (ha : smB s (a + e) = true) (hb : smB s (b + e) = true) (hn : ∀ x, x ≤ e → s.getD (a + x) 0 = s.getD (b + x) 0) : ∀ d x, x + d = e → smB s (a + x) = smB s (b + x) := by
  intro d
  induction d with
  | zero =>
    intro x hx
    rw [show x = e by omega, ha, hb]
  | succ d ih =>
    intro x hx
    rw [smB_next (i := a + x) (by omega), smB_next (i := b + x) (by omega), hn x (by omega), show a + x + 1 = a + (x + 1) by omega, show b + x + 1 = b + (x + 1) by omega, hn (x + 1) (by omega), ih (x + 1) (by omega)]
/-- The numbers from place a to place b. -/
def secI (s : List Int) (a b : Nat) : List Int := (s.take (b + 1)).drop a
theorem secI_len {s : List Int} {a b : Nat} (hab : a ≤ b) (hb : b < s.length) : (secI s a b).length = b - a + 1 := by
  unfold secI
  rw [List.length_drop, List.length_take]
  omega
theorem secI_at {s : List Int} {a b x : Nat} (hab : a ≤ b) (hb : b < s.length) (hx : x ≤ b - a) : (secI s a b).getD x 0 = s.getD (a + x) 0 := by
  unfold secI
  simp only [List.getD, List.getElem?_drop, List.getElem?_take]
  rw [if_pos (by omega)]
theorem firstN_gap {s : List Int} {i : Nat} (hi : i + 1 < (firstN s).length) : ∀ x, 1 ≤ x → x < (firstN s).getD (i + 1) 0 - (firstN s).getD i 0 → fsB s ((firstN s).getD i 0 + x) = false := fun x h1 h2 => by
  cases hf : fsB s ((firstN s).getD i 0 + x) with
  | false => rfl
  | true =>
    have hlt : (firstN s).getD i 0 + x < s.length := by have := (firstN_at hi).1; omega
    have hm : (firstN s).getD i 0 + x ∈ firstN s := firN_mem.2 ⟨hlt, hf⟩
    obtain ⟨j, hj, ej⟩ := mem_getN hm
    rcases Nat.lt_or_ge i j with g | g
    · rcases Nat.lt_or_ge j (i + 1) with g2 | g2
      · omega
      · by_cases e : j = i + 1
        · rw [e] at ej; omega
        · have := firstN_lt s (show i + 1 < j by omega) hj; omega
    · by_cases e : j = i
      · rw [e] at ej; omega
      · have := firstN_lt s (show j < i by omega) (by omega); omega
theorem cutW_sec {s : List Int} {i : Nat} (hi : i + 1 < (firstN s).length) : cutW s ((firstN s).getD i 0) = (List.range ((firstN s).getD (i + 1) 0 - (firstN s).getD i 0 + 1)).map fun (x : Nat) => codeI s ((firstN s).getD i 0 + x) := by
  have h1 := firstN_lt s (show i < i + 1 by omega) hi
  have h2 := firstN_at (s := s) hi
  exact cutW_run _ _ (by omega) (by omega) (by rw [show (firstN s).getD i 0 + ((firstN s).getD (i + 1) 0 - (firstN s).getD i 0) = (firstN s).getD (i + 1) 0 by omega]; exact h2.2) (firstN_gap hi)
theorem sec_cut {s : List Int} {i j : Nat} (hi : i + 1 < (firstN s).length) (hj : j + 1 < (firstN s).length) :
    secI s ((firstN s).getD i 0) ((firstN s).getD (i + 1) 0) = secI s ((firstN s).getD j 0) ((firstN s).getD (j + 1) 0) ↔ cutW s ((firstN s).getD i 0) = cutW s ((firstN s).getD j 0) := by
  have i1 := firstN_lt s (show i < i + 1 by omega) hi
  have i2 := firstN_at (s := s) hi
  have j1 := firstN_lt s (show j < j + 1 by omega) hj
  have j2 := firstN_at (s := s) hj
  rw [cutW_sec hi, cutW_sec hj]
  generalize hA : (firstN s).getD i 0 = a at *
  generalize hB : (firstN s).getD (i + 1) 0 = b at *
  generalize hC : (firstN s).getD j 0 = c at *
  generalize hD : (firstN s).getD (j + 1) 0 = d at *
  constructor
  · intro h
    have hl := congrArg List.length h
    rw [secI_len (by omega) i2.1, secI_len (by omega) j2.1] at hl
    have hn : ∀ x, x ≤ b - a → s.getD (a + x) 0 = s.getD (c + x) 0 := fun x hx => by rw [← secI_at (by omega) i2.1 hx, h, secI_at (by omega) j2.1 (by omega)]
    have hk := same_kinds (s := s) (a := a) (b := c) (e := b - a) (by omega) (by omega) (by rw [show a + (b - a) = b by omega]; exact (fsB_iff.1 i2.2).2.1) (by rw [show c + (b - a) = d by omega]; exact (fsB_iff.1 j2.2).2.1) hn
    rw [show d - c = b - a by omega]
    refine List.map_congr_left fun x hx => ?_
    rw [List.mem_range] at hx
    unfold codeI
    rw [hn x (by omega), hk (b - a - x) x (by omega)]
  · intro h
    have hl := congrArg List.length h
    simp only [List.length_map, List.length_range] at hl
    refine rowI_ext (by rw [secI_len (by omega) i2.1, secI_len (by omega) j2.1]; omega) fun x hx => ?_
    rw [secI_len (by omega) i2.1] at hx
    rw [secI_at (by omega) i2.1 (by omega), secI_at (by omega) j2.1 (by omega)]
    have : ((List.range (b - a + 1)).map fun (x : Nat) => codeI s (a + x)).getD x 0 = ((List.range (d - c + 1)).map fun (x : Nat) => codeI s (c + x)).getD x 0 := by rw [h]
    rw [mapI_at _ _ (by omega), mapI_at _ _ (by omega)] at this
    exact (codeI_eq this).1
/-- Are two pieces alike, by their numbers? The last one is like none. -/
def alikeB (s : List Int) (i j : Nat) : Bool := decide (i + 1 < (firstN s).length ∧ j + 1 < (firstN s).length ∧ secI s ((firstN s).getD i 0) ((firstN s).getD (i + 1) 0) = secI s ((firstN s).getD j 0) ((firstN s).getD (j + 1) 0))
theorem alikeB_cut {s : List Int} {i j : Nat} (hi : i < (firstN s).length) (hj : j < (firstN s).length) (hne : i ≠ j) : alikeB s i j = decide (cutW s ((firstN s).getD i 0) = cutW s ((firstN s).getD j 0)) := by
  unfold alikeB
  refine decide_eq_decide.2 ⟨fun h => (sec_cut h.1 h.2.1).1 h.2.2, fun h => ?_⟩
  have fi := firstN_at hi
  have fj := firstN_at hj
  have hne2 : (firstN s).getD i 0 ≠ (firstN s).getD j 0 := fun e => by
    rcases Nat.lt_or_gt_of_ne hne with g | g
    · have := firstN_lt s g hj; omega
    · have := firstN_lt s g hi; omega
  obtain ⟨e, e1, e2, e3, e4, e5⟩ := cut_same _ _ _ rfl fi.1 fj.1 hne2 h
  obtain ⟨n1, _⟩ := firstN_next (s := s) (i := i) hi e1 e2 fun x h1 h2 => (e4 x h1 h2).1
  obtain ⟨n3, _⟩ := firstN_next (s := s) (i := j) hj e1 e3 fun x h1 h2 => (e4 x h1 h2).2
  exact ⟨n1, n3, (sec_cut n1 n3).2 h⟩
end Go.Proofs.YtlmbdafilboblaaGreat

/- All but one block as it was; slices cut. Over any program, no conditions. -/
namespace Go.Proofs.YtlmbdafilboblaaGreat
set_option linter.unusedVariables false
set_option linter.unusedSimpArgs false
open Go.RowKit

/-- All but block b is as it was. -/
abbrev But (b : Nat) (w w' : World) : Prop := w.grownBy w' (some b)

theorem But.refl (b : Nat) (w : World) : But b w w := ⟨rfl, rfl, rfl, Nat.le_refl _, fun _ _ _ => rfl⟩
theorem But.trans {b : Nat} {x y z : World} (h : But b x y) (k : But b y z) : But b x z :=
  ⟨k.os.trans h.os, k.tape.trans h.tape, k.output.trans h.output, Nat.le_trans h.size k.size, fun i hi hne => (k.block i (Nat.lt_of_lt_of_le hi h.size) hne).trans (h.block i hi hne)⟩
theorem But.setCell {b : Nat} {x w : World} (h : But b x w) (j : Nat) (v : Value) : But b x (w.setCell ⟨b, j, none⟩ v) :=
  h.trans ⟨rfl, rfl, rfl, by simp [World.setCell], fun k _ hne => Below.heap_setCell _ _ _ _ (fun e => hne (by rw [e]))⟩
theorem But.drew {b : Nat} {x w : World} (h : But b x w) : But b x w.drew := ⟨h.os, h.tape, h.output, h.size, h.block⟩
theorem But.ofExt {b : Nat} {w w' : World} (h : Ext w w') : But b w w' := ⟨h.os, h.tape, h.output, h.size, fun k hk _ => h.block k hk⟩
theorem But.below {b B : Nat} {w w' : World} (h : But b w w') (hB : B ≤ b) (hw : B ≤ w.heap.size) : Below B w w' :=
  ⟨h.os, h.tape, h.output, h.size, fun k hk => h.block k (by omega) (fun e => by simp at e; omega)⟩

theorem ext_alloc (w : World) (o : Obj) : Ext w (w.alloc o) := (Below.refl _ _).alloc (Nat.le_refl _) _

/-- From a world in which block b is new: all that was there is as it was. -/
theorem Ext.but {b : Nat} {w w1 w2 : World} (h : Ext w w1) (hb : w.heap.size ≤ b) (k : But b w1 w2) : Ext w w2 := Below.trans h (k.below hb h.size)

theorem heap_alloc_top (w : World) (o : Obj) : (w.alloc o).heap[w.heap.size]? = some o := heap_alloc_new w o

/-- A row just laid, whatever its mark, reads as its numbers. -/
theorem Sl.lit' {k : IntKind} {e : TypeId} {fr : Nat × Nat} (w : World) (zs : List Int) (n : Nat) (hn : zs.length = n) (hm : n ≤ maxLen) : Sl k (w.alloc (.cells (zs.map (Value.int k)).toArray e fr)) (.slice (some ⟨w.heap.size, 0, none⟩) n n) zs := by
  subst hn
  refine ⟨_, _, rfl, Nat.le_refl _, hm, (fun h => by cases h), .inr ⟨w.heap.size, 0, rfl, fun i hi => ?_⟩⟩
  simp only [World.cell?, heap_alloc_top]
  simp [hi]


theorem Ext.drewN (w : World) (n : Nat) : Ext w (w.drewN n) := ⟨rfl, rfl, rfl, Nat.le_refl _, fun _ _ => rfl⟩

theorem Sl.drewN {k : IntKind} {w : World} {v : Value} {zs : List Int} (h : Sl k w v zs) (n : Nat) : Sl k (w.drewN n) v zs := h.ext (Ext.drewN w n)

/-- A call that draws and turns nothing. -/
theorem toExt {P : Program} {f : FuncId} {args : Array Value} {w : World} {v : Ending} (h : Calls P f args w fun e w' => e = v ∧ ∃ m, w' = w.drewN m) : Calls P f args w fun e w' => e = v ∧ Ext w w' :=
  h.mono fun e w' ⟨h1, m, h2⟩ => ⟨h1, by rw [h2]; exact Ext.drewN _ _⟩

/-- 'string(s)', whatever was drawn. -/
theorem Sl.strN {P : Program} {w : World} {v : Value} {zs : List Int} (h : Sl .u8 w v zs) (src e dst : TypeId) (hs : P.underlying src = some (.slice e)) (he : P.underlying e = some (.int .u8)) (hd : P.underlying dst = some .string) :
    ∀ m, (convert src dst v).run P (w.drewN m) = .ok (.string (strOfNums zs)) (w.drewN m) := fun m => (h.drewN m).str src e dst hs he hd

theorem Sl.but' {k : IntKind} {w w' : World} {b : Nat} {v : Value} {zs : List Int} (h : Sl k w v zs) (hC : ∀ j x, w.cell? ⟨b, j, none⟩ ≠ some (.int k x)) (hB : But b w w') : Sl k w' v zs := by
  obtain ⟨a, c, h1, h2, h3, h0, h4⟩ := h
  refine ⟨a, c, h1, h2, h3, h0, ?_⟩
  rcases h4 with h4 | ⟨g, off, h4, h5⟩
  · exact .inl h4
  · refine .inr ⟨g, off, h4, fun i hi => hB.cell (h5 i hi) ?_⟩
    intro e
    simp only [Option.some.injEq] at e
    subst e
    exact hC _ _ (h5 i hi)

theorem Own.low {k : IntKind} {e : TypeId} {B B' : Nat} {w : World} {s : Value} {zs : List Int} (h : Own k e B w s zs) (hB : B' ≤ B) : Own k e B' w s zs := by
  obtain ⟨h1, h2⟩ := h
  refine ⟨h1, ?_⟩
  rcases h2 with h2 | ⟨g, cap, cur, h2, h3, h4⟩
  · exact .inl h2
  · exact .inr ⟨g, cap, cur, h2, Nat.le_trans hB h3, h4⟩

theorem Own.ext {k : IntKind} {e : TypeId} {B : Nat} {w w' : World} {s : Value} {zs : List Int} (h : Own k e B w s zs) (he : Ext w w') : Own k e B w' s zs :=
  World.ownsRow.kept (row := none) h ⟨he.os, he.tape, he.output, he.size, fun i hi _ => he.block i hi⟩ (by cases hv : s.ownBlock <;> simp)

/-- 's[:n]' -/
theorem Sl.runTake {P : Program} {k : IntKind} {w : World} {a : Option Addr} {len c : Nat} {zs : List Int} (h : Sl k w (.slice a len c) zs) (t e : TypeId) (ht : P.underlying t = some (.slice e)) (hz : ∀ w, (Go.sizeOf e).run P w = .ok 1 w) (n : Nat) (hn : n ≤ zs.length) :
    (∀ W, (Instr.slice t (.slice a len c) none (some (.int .i64 (n : Int))) none).run P W = .ok (.slice a n c) W) ∧ Sl k w (.slice a n c) (zs.take n) := by
  have hl : len = zs.length := by obtain ⟨a', c', h1, _⟩ := h; simp only [Value.slice.injEq] at h1; exact h1.2.1
  have hc : zs.length ≤ c := by obtain ⟨a', c', h1, h2, _⟩ := h; simp only [Value.slice.injEq] at h1; omega
  refine ⟨fun W => ?_, h.take' n (by omega)⟩
  have ht' : P.underlying t = some (.slice (P.elem t)) := by simp [Program.elem, ht]
  have he : P.elem t = e := by simp [Program.elem, ht]
  rw [run_slice_h W t _ _ _ ht' .i64 _ (by omega) (by omega), he, hz]
  have hs : sliced a 0 n c 1 = .slice a n c := by
    unfold sliced
    by_cases h0 : c = 0
    · simp [h0]
    · cases a <;> simp [h0, Addr.add]
  simp only [Result.andThen, Int.toNat_natCast, hs]

/-- 's[n:]' -/
theorem Sl.runDrop {P : Program} {k : IntKind} {w : World} {a : Option Addr} {len c : Nat} {zs : List Int} (h : Sl k w (.slice a len c) zs) (t e : TypeId) (ht : P.underlying t = some (.slice e)) (hz : ∀ w, (Go.sizeOf e).run P w = .ok 1 w) (n : Nat) (hn : n ≤ zs.length) :
    ∃ a', (∀ W, (Instr.slice t (.slice a len c) (some (.int .i64 (n : Int))) none none).run P W = .ok (.slice a' (len - n) (c - n)) W) ∧ Sl k w (.slice a' (len - n) (c - n)) (zs.drop n) ∧ ∀ x, a' = some x → ∃ y, a = some y ∧ x.block = y.block := by
  obtain ⟨a', c', h1, h2, h3, h4, h5⟩ := h
  simp only [Value.slice.injEq] at h1
  obtain ⟨rfl, rfl, rfl⟩ := h1
  have ht' : P.underlying t = some (.slice (P.elem t)) := by simp [Program.elem, ht]
  have he : P.elem t = e := by simp [Program.elem, ht]
  refine ⟨if c = n then a else a.map (·.add n), fun W => ?_, ?_, fun x hx => ?_⟩
  · rw [run_slice_l W t _ _ _ ht' .i64 _ (by omega) (by omega), he, hz]
    simp only [Result.andThen, Int.toNat_natCast, sliced, Nat.mul_one]
  · have hl : (zs.drop n).length = zs.length - n := List.length_drop
    refine ⟨_, c - n, by rw [hl], by omega, by omega, fun h => ?_, ?_⟩
    · by_cases hcn : c = n
      · omega
      · rw [if_neg hcn] at h
        cases a with
        | none => have := h4 rfl; omega
        | some a => cases h
    · by_cases hcn : n = zs.length
      · exact .inl (by rw [hcn]; simp)
      · rcases h5 with rfl | ⟨b, off, rfl, h6⟩
        · exact .inl (by simp)
        · refine .inr ⟨b, off + n, ?_, fun i hi => ?_⟩
          · rw [if_neg (by omega)]; simp [Addr.add]
          · rw [Nat.add_assoc, h6 (n + i) (by omega)]
            simp [List.getD, List.getElem?_drop]
  · split at hx
    · exact ⟨x, hx, rfl⟩
    · cases a with
      | none => cases hx
      | some y => simp only [Option.map_some, Option.some.injEq] at hx; exact ⟨y, rfl, by rw [← hx]; unfold Addr.add; split <;> rfl⟩

/-- 's[l:n]' -/
theorem Sl.runCut {P : Program} {k : IntKind} {w : World} {a : Option Addr} {len c : Nat} {zs : List Int} (h : Sl k w (.slice a len c) zs) (t e : TypeId) (ht : P.underlying t = some (.slice e)) (hz : ∀ w, (Go.sizeOf e).run P w = .ok 1 w) (l n : Nat) (hl : l ≤ n) (hn : n ≤ zs.length) :
    ∃ a', (∀ W, (Instr.slice t (.slice a len c) (some (.int .i64 (l : Int))) (some (.int .i64 (n : Int))) none).run P W = .ok (.slice a' (n - l) (c - l)) W) ∧ Sl k w (.slice a' (n - l) (c - l)) ((zs.take n).drop l) := by
  have hlen : len = zs.length := by obtain ⟨a', c', h1, _⟩ := h; simp only [Value.slice.injEq] at h1; exact h1.2.1
  have hc : zs.length ≤ c := by obtain ⟨a', c', h1, h2, _⟩ := h; simp only [Value.slice.injEq] at h1; omega
  have ht' : P.underlying t = some (.slice (P.elem t)) := by simp [Program.elem, ht]
  have he : P.elem t = e := by simp [Program.elem, ht]
  have hT := h.take' n (by omega)
  have hnl : (zs.take n).length = n := by simp; omega
  obtain ⟨a1, r1, s1, _⟩ := hT.runDrop (P := P) t e ht hz l (by rw [hnl]; exact hl)
  have hr : ∀ W, (Instr.slice t (.slice a len c) (some (.int .i64 (l : Int))) (some (.int .i64 (n : Int))) none).run P W = (Instr.slice t (.slice a n c) (some (.int .i64 (l : Int))) none none).run P W := by
    intro W
    rw [run_slice_lh W t _ _ _ ht' .i64 .i64 _ _ (by omega) (by omega) (by omega), run_slice_l W t _ _ _ ht' .i64 _ (by omega) (by omega)]
    simp only [Int.toNat_natCast]
  exact ⟨a1, fun W => (hr W).trans (r1 W), s1⟩
end Go.Proofs.YtlmbdafilboblaaGreat

/- Bytes: what each seat of the program says of its type, and slices of bytes read at a place. -/
namespace Go.Proofs.YtlmbdafilboblaaGreat
set_option linter.unusedVariables false
set_option linter.unusedSimpArgs false
open Go.RowKit

/-- Bytes. -/
def Bytes8 (zs : List Int) : Prop := ∀ z ∈ zs, 0 ≤ z ∧ z ≤ 255

theorem Bytes8.drop {zs : List Int} (h : Bytes8 zs) (m : Nat) : Bytes8 (zs.drop m) := fun z hz => h z (List.mem_of_mem_drop hz)
theorem Bytes8.takeN {zs : List Int} (h : Bytes8 zs) (m : Nat) : Bytes8 (zs.take m) := fun z hz => h z (List.mem_of_mem_take hz)
theorem Bytes8.app {xs ys : List Int} (h : Bytes8 xs) (h' : Bytes8 ys) : Bytes8 (xs ++ ys) := fun z hz => (List.mem_append.1 hz).elim (h z) (h' z)
theorem Bytes8.get {zs : List Int} (h : Bytes8 zs) (i : Nat) : 0 ≤ zs.getD i 0 ∧ zs.getD i 0 ≤ 255 := by
  by_cases hi : i < zs.length
  · rw [List.getD_eq_getElem?_getD, List.getElem?_eq_getElem hi]; exact h _ (List.getElem_mem hi)
  · rw [List.getD_eq_getElem?_getD, List.getElem?_eq_none (by omega)]; simp

theorem Sl.in {k : IntKind} {B : Nat} {w w' : World} {v : Value} {zs : List Int} (h : Sl k w v zs) (hl : zs = [] ∨ ∀ x n c, v = .slice (some x) n c → x.block < B) (hB : Below B w w') : Sl k w' v zs := by
  obtain ⟨a, c, rfl, h2, h3, h0, h4⟩ := h
  refine ⟨a, c, rfl, h2, h3, h0, ?_⟩
  rcases h4 with h4 | ⟨g, off, rfl, h5⟩
  · exact .inl h4
  · rcases hl with hl | hl
    · exact .inl hl
    · have hg : g < B := hl _ _ _ rfl
      exact .inr ⟨g, off, rfl, fun i hi => (hB.cell (p := ⟨g, off + i, none⟩) hg).trans (h5 i hi)⟩

theorem infoU8 : (Tryz.prog.info? 5).map (fun i => (i.zero, i.size, i.bytes)) = some (some (.int .u8 0), 1, 1) := by kernel_rfl

theorem size8 : ∀ w, (Go.sizeOf 5).run Tryz.prog w = .ok 1 w := by intro w; kernel_rfl

theorem Sl.at {k : IntKind} {w : World} {a : Option Addr} {n c : Nat} {zs : List Int} (h : Sl k w (.slice a n c) zs) (hn : zs ≠ []) : zs.length = n ∧ ∃ g off, a = some ⟨g, off, none⟩ ∧ ∀ i, i < n → w.cell? ⟨g, off + i, none⟩ = some (.int k (zs.getD i 0)) := by
  obtain ⟨a', c', h1, h2, h3, h4, h5⟩ := h
  simp only [Value.slice.injEq] at h1
  obtain ⟨rfl, rfl, rfl⟩ := h1
  rcases h5 with h5 | ⟨g, off, h5, h6⟩
  · exact absurd h5 hn
  · exact ⟨rfl, g, off, h5, h6⟩

theorem Sl.cellAt {k : IntKind} {w : World} {g off n c : Nat} {zs : List Int} (h : Sl k w (.slice (some ⟨g, off, none⟩) n c) zs) (i : Nat) (hi : i < n) : w.cell? ⟨g, off + i, none⟩ = some (.int k (zs.getD i 0)) := by
  obtain ⟨a', c', h1, h2, h3, h4, h5⟩ := h
  simp only [Value.slice.injEq] at h1
  obtain ⟨rfl, rfl, rfl⟩ := h1
  rcases h5 with h5 | ⟨g', off', h5, h6⟩
  · rw [h5] at hi; simp at hi
  · simp only [Option.some.injEq, Addr.mk.injEq, and_true] at h5
    obtain ⟨rfl, rfl⟩ := h5
    exact h6 i hi
end Go.Proofs.YtlmbdafilboblaaGreat

/- Contract of slices.Equal at ints. -/
namespace Go.Proofs.YtlmbdafilboblaaGreat
set_option linter.unusedVariables false
set_option linter.unusedSimpArgs false
open Go.RowKit

set_option maxHeartbeats 400000 in
theorem equalI_any (u v : Value) (x y : List Int) (w : World) (hu : Sl .i64 w u x) (hv : Sl .i64 w v y) (hx : x.length ≤ 1000000) (hy : y.length ≤ 1000000) :
    Calls Tryz.prog 54 #[u, v] w fun e w' => e = .returned (.bool (decide (x = y))) ∧ ∃ m, w' = w.drewN m := by
  have HU := hide' hu
  have HV := hide' hv
  obtain ⟨a, c, rfl, _⟩ := hu
  obtain ⟨a', c', rfl, _⟩ := hv
  by_cases hl : x.length = y.length
  · obtain ⟨n, hn1⟩ : ∃ n, x.length = n := ⟨_, rfl⟩
    have hn2 : y.length = n := by omega
    rw [hn1] at HU hx ⊢
    rw [hn2] at HV hy ⊢
    have HXL := hide' hn1
    have HYL := hide' hn2
    clear hn1 hn2 hl
    have hd : ((n : Int) != (n : Int)) = false := by simp
    go_enter Tryz.func54, Tryz.ntmps54
    go_wp2
    go_loopw [13] (fun vk wr => ∃ (k : Nat), k ≤ n ∧ vk = .int .i64 k ∧ Hid (x.take k = y.take k) ∧ ∃ m, wr = w.drewN m) (fun vk _ => n - (intOf vk).toNat)
    case atStart => exact ⟨0, Nat.zero_le _, rfl, (show _ = _ by simp), 0, rfl⟩
    case round =>
      obtain ⟨k, hk, rfl, HK, m, rfl⟩ := hrel
      by_cases l1 : k < n
      · have hne1 : x ≠ [] := fun h => by have := HXL.out; rw [h] at this; simp at this; omega
        have hne2 : y ≠ [] := fun h => by have := HYL.out; rw [h] at this; simp at this; omega
        obtain ⟨_, b1, o1, e1, c1⟩ := HU.out.at hne1
        obtain ⟨_, b2, o2, e2, c2⟩ := HV.out.at hne2
        have c1' := c1 k l1
        have c2' := c2 k l1
        obtain ⟨p, HP⟩ : ∃ p, Hid (x.getD k 0 = p) := ⟨_, rfl⟩
        obtain ⟨q, HQ⟩ : ∃ q, Hid (y.getD k 0 = q) := ⟨_, rfl⟩
        rw [HP.out] at c1'
        rw [HQ.out] at c2'
        subst e1 e2
        clear c1 c2 hne1 hne2
        have l1' : (k : Int) < n := by omega
        by_cases hpq : p = q
        · have HK' : Hid (x.take (k + 1) = y.take (k + 1)) := take_ext_succ (by rw [HXL.out]; exact l1) (by rw [HYL.out]; exact l1) HK.out (by rw [HP.out, HQ.out, hpq])
          subst hpq
          have hpq' : (p != p) = false := by simp
          go_wp2_with fail
          go_quiet (fail)
          go_wp2
          go_roundw
          case rel => exact ⟨k + 1, by omega, by go_num, HK', _, rfl⟩
          case measure => simp [intOf]; omega
        · have hpq' : (p != q) = true := by simpa using hpq
          have hpq2 : (p == q) = false := by simpa using hpq
          have HD : Hid (decide (x = y) = false) := by
            show _ = _
            refine decide_eq_false fun h => hpq ?_
            rw [← HP.out, ← HQ.out, h]
          clear hpq
          go_wp2_with fail
          go_quiet (fail)
          go_wp2
          go_ret
          rw [HD.out]
          exact ⟨rfl, _, by first | rfl | rw [World.drewN_drewN]⟩
      · have l1' : decide ((k : Int) < n) = false := by simp; omega
        have HD : Hid (decide (x = y) = true) := by
          show _ = _
          refine decide_eq_true ?_
          have := HK.out
          rwa [List.take_of_length_le (by rw [HXL.out]; omega), List.take_of_length_le (by rw [HYL.out]; omega)] at this
        go_wp2
        go_ret
        rw [HD.out]
        exact ⟨rfl, _, rfl⟩
  · have hd : ((x.length : Int) != (y.length : Int)) = true := by simp; omega
    have hd2 : ((x.length : Int) == (y.length : Int)) = false := by simp; omega
    have HD : Hid (decide (x = y) = false) := by
      show _ = _
      exact decide_eq_false fun h => hl (by rw [h])
    clear hl
    go_enter Tryz.func54, Tryz.ntmps54
    go_wp2
    go_ret
    rw [HD.out]
    exact ⟨rfl, 0, rfl⟩

end Go.Proofs.YtlmbdafilboblaaGreat

/- Rows of ints: what each seat says of the type, and 'make([]int, n)'. -/
namespace Go.Proofs.YtlmbdafilboblaaGreat
set_option linter.unusedVariables false
set_option linter.unusedSimpArgs false
open Go.RowKit

theorem infoI64 : (Tryz.prog.info? 3).map (fun i => (i.zero, i.size, i.bytes)) = some (some (.int .i64 0), 1, 8) := by kernel_rfl

theorem sizeI64 : ∀ w, (Go.sizeOf 3).run Tryz.prog w = .ok 1 w := by intro w; kernel_rfl

/-- 'make([]int, n)' -/
theorem make_intsB (w : World) (n : Nat) (hn : n ≤ 4000000) : ∃ w', (Instr.makeSlice 32 (.int .i64 (n : Int)) (.int .i64 (n : Int))).run Tryz.prog w = .ok (.slice (some ⟨w.heap.size, 0, none⟩) n n) w' ∧ Own .i64 3 w.heap.size w' (.slice (some ⟨w.heap.size, 0, none⟩) n n) (List.replicate n 0) ∧ Ext w w' := by
  obtain ⟨i0, hi, hz0, hz1, hz2⟩ := info_parts infoI64
  obtain ⟨w', h1, h2, h3⟩ := run_make_full (P := Tryz.prog) w w.heap.size 32 3 i0 (.int .i64 0) 1 Tryz.underlying32 hi hz0 hz1 .i64 .i64 n (by rw [hz2]; omega) (by unfold maxLen; omega) (Nat.le_refl _)
  refine ⟨w', h1, ?_, ⟨h3.os, h3.tape, h3.output, h3.size, fun k hk => h3.block k hk (by simp)⟩⟩
  unfold Own
  have e1 : (Value.int .i64 0).cells = #[Value.int .i64 0] := rfl
  rw [e1, Nat.mul_one, toList_madeCells_one] at h2
  rw [List.length_replicate, List.map_replicate]
  exact h2
theorem make_ints (w : World) (n : Nat) (hn : n ≤ 1000000) : ∃ w', (Instr.makeSlice 32 (.int .i64 (n : Int)) (.int .i64 (n : Int))).run Tryz.prog w = .ok (.slice (some ⟨w.heap.size, 0, none⟩) n n) w' ∧ Own .i64 3 w.heap.size w' (.slice (some ⟨w.heap.size, 0, none⟩) n n) (List.replicate n 0) ∧ Ext w w' := make_intsB w n (by omega)

/-- 'make([]int, 0, n)' -/
theorem make_roomI (w : World) (n : Nat) (hn : n ≤ 1000000) : ∃ w', (Instr.makeSlice 32 (.int .i64 0) (.int .i64 (n : Int))).run Tryz.prog w = .ok (.slice (some ⟨w.heap.size, 0, none⟩) 0 n) w' ∧ Own .i64 3 w.heap.size w' (.slice (some ⟨w.heap.size, 0, none⟩) 0 n) [] ∧ Ext w w' := by
  obtain ⟨i0, hi, hz0, hz1, hz2⟩ := info_parts infoI64
  obtain ⟨w', h1, h2, h3⟩ := run_make_own (P := Tryz.prog) w w.heap.size 32 3 i0 (.int .i64 0) 1 Tryz.underlying32 hi hz0 hz1 .i64 .i64 n (by rw [hz2]; omega) (by unfold maxLen; omega) (Nat.le_refl _)
  exact ⟨w', h1, h2, ⟨h3.os, h3.tape, h3.output, h3.size, fun k hk => h3.block k hk (by simp)⟩⟩
end Go.Proofs.YtlmbdafilboblaaGreat

/- Rows of naturals among Go's ints: made, read, stored to. -/
namespace Go.Proofs.YtlmbdafilboblaaGreat
set_option linter.unusedVariables false
set_option linter.unusedSimpArgs false
open Go.RowKit

theorem Own.intCell {B : Nat} {w : World} {g n cap : Nat} {l : List Nat} (h : Own .i64 3 B w (.slice (some ⟨g, 0, none⟩) n cap) (natL l)) (hn : l.length = n) (j : Nat) (hj : j < n) : w.cell? ⟨g, j, none⟩ = some (.int .i64 (l.getD j 0 : Nat)) := by
  rw [h.cell (by rw [natL_len]; exact hn) j hj, natL_at]

theorem Own.storeN {B : Nat} {w : World} {g n cap : Nat} {l : List Nat} (h : Own .i64 3 B w (.slice (some ⟨g, 0, none⟩) n cap) (natL l)) (hn : l.length = n) (j x : Nat) :
    Own .i64 3 B (w.setCell ⟨g, j, none⟩ (.int .i64 (x : Int))) (.slice (some ⟨g, 0, none⟩) n cap) (natL (l.set j x)) := by
  rw [natL_set]
  exact h.store (by rw [natL_len]; exact hn) j x

theorem natL_rep (n : Nat) : List.replicate n (0 : Int) = natL (List.replicate n 0) := by simp [natL]

/-- 'make([]int, n)', as naturals. -/
theorem make_natsB (w : World) (n : Nat) (hn : n ≤ 4000000) : ∃ w', (Instr.makeSlice 32 (.int .i64 (n : Int)) (.int .i64 (n : Int))).run Tryz.prog w = .ok (.slice (some ⟨w.heap.size, 0, none⟩) n n) w' ∧ Own .i64 3 w.heap.size w' (.slice (some ⟨w.heap.size, 0, none⟩) n n) (natL (List.replicate n 0)) ∧ Ext w w' := by
  obtain ⟨w', h1, h2, h3⟩ := make_intsB w n hn
  exact ⟨w', h1, by rw [← natL_rep]; exact h2, h3⟩

theorem make_nats (w : World) (n : Nat) (hn : n ≤ 1000000) : ∃ w', (Instr.makeSlice 32 (.int .i64 (n : Int)) (.int .i64 (n : Int))).run Tryz.prog w = .ok (.slice (some ⟨w.heap.size, 0, none⟩) n n) w' ∧ Own .i64 3 w.heap.size w' (.slice (some ⟨w.heap.size, 0, none⟩) n n) (natL (List.replicate n 0)) ∧ Ext w w' := make_natsB w n (by omega)

/-- A row of naturals that may be read. -/
theorem Sl.nat {w : World} {a : Option Addr} {n c : Nat} {l : List Nat} (h : Sl .i64 w (.slice a n c) (natL l)) : l.length = n ∧ n ≤ c ∧ c ≤ maxLen ∧ (0 < n → ∃ g off, a = some ⟨g, off, none⟩ ∧ ∀ i, i < n → w.cell? ⟨g, off + i, none⟩ = some (.int .i64 (l.getD i 0 : Nat))) := by
  have h' := h
  obtain ⟨a', c', h1, h2, h3, _, _⟩ := h
  simp only [Value.slice.injEq] at h1
  obtain ⟨rfl, rfl, rfl⟩ := h1
  refine ⟨(natL_len l).symm, h2, h3, fun h0 => ?_⟩
  obtain ⟨_, g, off, h4, h5⟩ := h'.at (fun e => by rw [e] at h0; simp at h0)
  exact ⟨g, off, h4, fun i hi => by rw [h5 i hi, natL_at]⟩

theorem Own.keep {k : IntKind} {e : TypeId} {B b g n c : Nat} {w w' : World} {zs : List Int} (h : Own k e B w (.slice (some ⟨g, 0, none⟩) n c) zs) (hne : g ≠ b) (hB : But b w w') : Own k e B w' (.slice (some ⟨g, 0, none⟩) n c) zs :=
  World.ownsRow.kept (row := some b) h hB (.inr (by simp [Value.ownBlock]; exact hne))

theorem but_set (w : World) (b j : Nat) (v : Value) : But b w (w.setCell ⟨b, j, none⟩ v) := (But.refl _ _).setCell _ _

/-- A row of ints that may be read. -/
theorem Sl.int {w : World} {a : Option Addr} {n c : Nat} {l : List Int} (h : Sl .i64 w (.slice a n c) l) : l.length = n ∧ n ≤ c ∧ c ≤ maxLen ∧ (0 < n → ∃ g off, a = some ⟨g, off, none⟩ ∧ ∀ i, i < n → w.cell? ⟨g, off + i, none⟩ = some (.int .i64 (l.getD i 0))) := by
  have h' := h
  obtain ⟨a', c', h1, h2, h3, _, _⟩ := h
  simp only [Value.slice.injEq] at h1
  obtain ⟨rfl, rfl, rfl⟩ := h1
  refine ⟨rfl, h2, h3, fun h0 => ?_⟩
  obtain ⟨_, g, off, h4, h5⟩ := h'.at (fun e => by rw [e] at h0; simp at h0)
  exact ⟨g, off, h4, h5⟩
end Go.Proofs.YtlmbdafilboblaaGreat

/- Contract of sais.alike. -/
namespace Go.Proofs.YtlmbdafilboblaaGreat
set_option linter.unusedVariables false
set_option linter.unusedSimpArgs false
open Go.RowKit

set_option maxHeartbeats 1000000 in
theorem saAlike_any (sv fv : Value) (s : List Int) (i j : Nat) (w : World) (hs : Sl .i64 w sv s) (hf : Sl .i64 w fv (natL (firstN s))) (hi : i < (firstN s).length) (hj : j < (firstN s).length) (hlen : s.length ≤ 1000000) :
    Calls Tryz.prog 89 #[sv, fv, .int .i64 i, .int .i64 j] w fun e w' => e = .returned (.bool (alikeB s i j)) ∧ ∃ m, w' = w.drewN m := by
  have HV := hide' hs
  have HF := hide' hf
  have hfl : (firstN s).length ≤ s.length := by have := firstN_half s; omega
  obtain ⟨a, c, rfl, _⟩ := hs
  obtain ⟨a', c', rfl, _⟩ := hf
  obtain ⟨_, _, _, hcf⟩ := HF.out.nat
  have HLN := hide' (natL_len (firstN s))
  rw [HLN.out] at HF hcf ⊢
  obtain ⟨n, HN⟩ : ∃ n, Hid (s.length = n) := ⟨_, rfl⟩
  obtain ⟨f, HL⟩ : ∃ f, Hid ((firstN s).length = f) := ⟨_, rfl⟩
  have HVN := HV
  rw [HN.out] at HVN hlen hfl ⊢
  rw [HL.out] at HF hcf hfl hi hj ⊢
  obtain ⟨g, off, rfl, kc⟩ := hcf (by omega)
  have KC := hide' kc
  clear hcf kc
  have h1 : (f : Int) - 1 = ((f - 1 : Nat) : Int) := by omega
  by_cases hil : i + 1 = f
  · have d1 : ((i : Int) == ((f - 1 : Nat) : Int)) = true := by simp; omega
    have HA : Hid (alikeB s i j = false) := by
      show _ = _
      unfold alikeB
      refine decide_eq_false fun h => ?_
      have := h.1
      rw [HL.out] at this
      omega
    rw [HA.out]
    clear hil
    go_enter Tryz.func89, Tryz.ntmps89
    go_wp2
    go_ret
    exact ⟨rfl, 0, rfl⟩
  · have d1 : ((i : Int) == ((f - 1 : Nat) : Int)) = false := by simp; omega
    by_cases hjl : j + 1 = f
    · have d2 : ((j : Int) == ((f - 1 : Nat) : Int)) = true := by simp; omega
      have HA : Hid (alikeB s i j = false) := by
        show _ = _
        unfold alikeB
        refine decide_eq_false fun h => ?_
        have := h.2.1
        rw [HL.out] at this
        omega
      rw [HA.out]
      clear hil hjl
      go_enter Tryz.func89, Tryz.ntmps89
      go_wp2
      go_ret
      exact ⟨rfl, 0, rfl⟩
    · have d2 : ((j : Int) == ((f - 1 : Nat) : Int)) = false := by simp; omega
      have hi1 : i + 1 < f := by omega
      have hj1 : j + 1 < f := by omega
      have ci := KC.out i hi
      have ci1 := KC.out (i + 1) hi1
      have cj := KC.out j hj
      have cj1 := KC.out (j + 1) hj1
      have i1 := firstN_lt s (show i < i + 1 by omega) (by rw [HL.out]; exact hi1)
      have i2 := (firstN_at (s := s) (i := i + 1) (by rw [HL.out]; exact hi1)).1
      have j1 := firstN_lt s (show j < j + 1 by omega) (by rw [HL.out]; exact hj1)
      have j2 := (firstN_at (s := s) (i := j + 1) (by rw [HL.out]; exact hj1)).1
      rw [HN.out] at i2 j2
      obtain ⟨D, HD⟩ : ∃ D, Hid (alikeB s i j = D) := ⟨_, rfl⟩
      have HA : Hid (decide (secI s ((firstN s).getD i 0) ((firstN s).getD (i + 1) 0) = secI s ((firstN s).getD j 0) ((firstN s).getD (j + 1) 0)) = D) := by
        show _ = _
        rw [← HD.out]
        unfold alikeB
        exact decide_eq_decide.2 ⟨fun h => ⟨by rw [HL.out]; exact hi1, by rw [HL.out]; exact hj1, h⟩, fun h => h.2.2⟩
      rw [HD.out]
      obtain ⟨A, hA⟩ : ∃ A, (firstN s).getD i 0 = A := ⟨_, rfl⟩
      obtain ⟨B, hB⟩ : ∃ A, (firstN s).getD (i + 1) 0 = A := ⟨_, rfl⟩
      obtain ⟨C, hC⟩ : ∃ A, (firstN s).getD j 0 = A := ⟨_, rfl⟩
      obtain ⟨E, hE⟩ : ∃ A, (firstN s).getD (j + 1) 0 = A := ⟨_, rfl⟩
      rw [hA, hB, hC, hE] at HA
      rw [hA] at ci i1
      rw [hB] at ci1 i1 i2
      rw [hC] at cj j1
      rw [hE] at cj1 j1 j2
      clear hA hB hC hE
      obtain ⟨p1, r1, s1⟩ := HVN.out.runCut (P := Tryz.prog) 32 3 Tryz.underlying32 sizeI64 A (B + 1) (by omega) (by rw [HN.out]; omega)
      obtain ⟨p2, r2, s2⟩ := HVN.out.runCut (P := Tryz.prog) 32 3 Tryz.underlying32 sizeI64 C (E + 1) (by omega) (by rw [HN.out]; omega)
      have l1 : (secI s A B).length ≤ 1000000 := by rw [secI_len (by omega) (by rw [HN.out]; exact i2)]; omega
      have l2 : (secI s C E).length ≤ 1000000 := by rw [secI_len (by omega) (by rw [HN.out]; exact j2)]; omega
      have HW : Hid (∀ m, Calls Tryz.prog 54 #[.slice p1 (B + 1 - A) (c - A), .slice p2 (E + 1 - C) (c - C)] (w.drewN m) fun e w' => e = .returned (.bool D) ∧ ∃ k, w' = (w.drewN m).drewN k) := fun m => by
        have := equalI_any _ _ (secI s A B) (secI s C E) (w.drewN m) (s1.drewN m) (s2.drewN m) l1 l2
        rw [HA.out] at this
        exact this
      have e1 : ((B : Int) + 1) = ((B + 1 : Nat) : Int) := by omega
      have e2 : ((E : Int) + 1) = ((E + 1 : Nat) : Int) := by omega
      have e3 : ((i : Int) + 1) = ((i + 1 : Nat) : Int) := by omega
      have e4 : ((j : Int) + 1) = ((j + 1 : Nat) : Int) := by omega
      have b3 : ((i + 1 : Nat) : Int) < f := by omega
      have b4 : ((j + 1 : Nat) : Int) < f := by omega
      generalize B + 1 - A = q1 at *
      generalize c - A = q2 at *
      generalize E + 1 - C = q3 at *
      generalize c - C = q4 at *
      generalize hI : i + 1 = I at *
      generalize hJ : j + 1 = J at *
      generalize hBB : B + 1 = BB at *
      generalize hEE : E + 1 = EE at *
      clear s1 s2 l1 l2 hil hjl hI hJ hBB hEE
      go_enter Tryz.func89, Tryz.ntmps89
      go_wp2_with fail
      go_quiet ((go_at_call 54; exact Calls.quiet_of (HW.out _)))
      go_wp2
      go_ret
      exact ⟨rfl, _, by first | rfl | rw [World.drewN_drewN]⟩
end Go.Proofs.YtlmbdafilboblaaGreat

/- Contracts of math/bits.Mul64 and Mul. -/
namespace Go.Proofs.YtlmbdafilboblaaGreat
set_option linter.unusedVariables false
set_option linter.unusedSimpArgs false
open Go.RowKit

theorem mulMask (a : Nat) (ha : a < 18446744073709551616) : bits .and .u64 (a : Int) 4294967295 = ((a % 4294967296 : Nat) : Int) := by
  have h := bits_and_u64_nat a 4294967295 ha (by omega)
  rw [show a &&& 4294967295 = a % 4294967296 from Nat.and_two_pow_sub_one_eq_mod a 32] at h
  exact h
theorem mulDiv (a : Nat) : (a : Int) / 4294967296 = ((a / 4294967296 : Nat) : Int) := by omega
theorem mulMul (a b : Nat) : (a : Int) * (b : Int) = ((a * b : Nat) : Int) := (Int.natCast_mul a b).symm
theorem mulAdd (a b : Nat) : (a : Int) + (b : Int) = ((a + b : Nat) : Int) := (Int.natCast_add a b).symm
theorem mulWrap (a : Nat) (ha : a < 18446744073709551616) : IntKind.u64.wrap (a : Int) = (a : Int) := by rw [IntKind.wrap_u64]; omega
theorem mulWrapM (a : Nat) : IntKind.u64.wrap (a : Int) = ((a % 18446744073709551616 : Nat) : Int) := by rw [IntKind.wrap_u64]; omega

set_option maxHeartbeats 1000000 in
theorem mul64_any (x y : Nat) (hx : x < 18446744073709551616) (hy : y < 18446744073709551616) (w : World) :
    Calls Tryz.prog 106 #[.int .u64 x, .int .u64 y] w fun e w' => e = .returned (.tuple #[.int .u64 ((x * y / 18446744073709551616 : Nat) : Int), .int .u64 ((x * y % 18446744073709551616 : Nat) : Int)]) ∧ w' = w := by
  obtain ⟨bd, bt, bw, hhi⟩ := Go.Lib.mul64_hi x y hx hy
  have ba := Go.Lib.half_mul_le (a := x / 4294967296) (b := y / 4294967296) (by omega) (by omega)
  have bb := Go.Lib.half_mul_le (a := x / 4294967296) (b := y % 4294967296) (by omega) (by omega)
  have bc := Go.Lib.half_mul_le (a := x % 4294967296) (b := y / 4294967296) (by omega) (by omega)
  have ba' : x / 4294967296 * (y / 4294967296) < 18446744073709551616 := by omega
  have bb' : x / 4294967296 * (y % 4294967296) < 18446744073709551616 := by omega
  have bc' : x % 4294967296 * (y / 4294967296) < 18446744073709551616 := by omega
  have bh1 : x / 4294967296 * (y / 4294967296) + (x / 4294967296 * (y % 4294967296) + x % 4294967296 * (y % 4294967296) / 4294967296) / 4294967296 < 18446744073709551616 := by omega
  have bh : x / 4294967296 * (y / 4294967296) + (x / 4294967296 * (y % 4294967296) + x % 4294967296 * (y % 4294967296) / 4294967296) / 4294967296 + ((x / 4294967296 * (y % 4294967296) + x % 4294967296 * (y % 4294967296) / 4294967296) % 4294967296 + x % 4294967296 * (y / 4294967296)) / 4294967296 < 18446744073709551616 := by omega
  go_enter Tryz.func106, Tryz.ntmps106
  go_wp2
  simp only [mulMask x hx, mulMask y hy, mulDiv, mulMul, mulAdd, mulWrap _ bd, mulWrap _ bb', mulWrap _ bt, mulMask _ bt, mulWrap _ bc', mulWrap _ bw, mulWrap _ ba', mulWrap _ bh1, mulWrap _ bh, mulWrapM (x * y)]
  rw [hhi]
  go_ret2
  exact ⟨rfl, rfl⟩

set_option maxHeartbeats 1000000 in
theorem mul_any (x y : Nat) (hx : x < 18446744073709551616) (hy : y < 18446744073709551616) (w : World) :
    Calls Tryz.prog 95 #[.int .u64 x, .int .u64 y] w fun e w' => e = .returned (.tuple #[.int .u64 ((x * y / 18446744073709551616 : Nat) : Int), .int .u64 ((x * y % 18446744073709551616 : Nat) : Int)]) ∧ w' = w := by
  have c64 := hide' (mul64_any x y hx hy w)
  go_enter Tryz.func95, Tryz.ntmps95
  go_wp2_with fail
  refine c64.out.mono ?_
  rintro e w' ⟨rfl, hw⟩
  rw [hw]
  go_wp2
  go_ret2
  exact ⟨rfl, rfl⟩
end Go.Proofs.YtlmbdafilboblaaGreat

/- Contract of slices.Repeat at one int. -/
namespace Go.Proofs.YtlmbdafilboblaaGreat
set_option linter.unusedVariables false
set_option linter.unusedSimpArgs false
open Go.RowKit

set_option maxRecDepth 100000 in
/-- 'copy(s[o:], x)', s the call's own. -/
theorem copy_own {B : Nat} {w : World} {g n cap : Nat} {zs : List Int} (ys : List Int) (h : Own .i64 3 B w (.slice (some ⟨g, 0, none⟩) n cap) zs) (hn : zs.length = n) {o d dCap b off sLen sCap : Nat} (hod : o + d ≤ n)
    (hs : ∀ i, i < ys.length → w.cell? ⟨b, off + i, none⟩ = some (.int .i64 (ys.getD i 0))) (hl : ys.length = Nat.min sLen d) :
    ∃ w', (∀ ty, (Builtin.copy_ #[32, 32] ty #[.slice (some ⟨g, o, none⟩) d dCap, .slice (some ⟨b, off, none⟩) sLen sCap]).run Tryz.prog w = .ok (goInt ys.length) w') ∧
      Own .i64 3 B w' (.slice (some ⟨g, 0, none⟩) n cap) (zs.take o ++ ys ++ zs.drop (o + ys.length)) ∧ But g w w' := by
  have hyd : ys.length ≤ d := by rw [hl]; exact Nat.min_le_right _ _
  obtain ⟨h1, h2⟩ := h
  rcases h2 with ⟨h2, _⟩ | ⟨g', cap', cur, h2, hB, hh, h3, h4, h5, h6⟩
  · cases h2
  · simp only [Value.slice.injEq, Option.some.injEq, Addr.mk.injEq] at h2
    obtain ⟨⟨rfl, _⟩, _, rfl⟩ := h2
    rw [Nat.mul_one] at h5 h6
    have hcn : cur.toList.length = cap := by simpa using h5
    obtain ⟨i0, hi, hz0, hz1, hz2⟩ := info_parts infoI64
    refine ⟨w.setRow g (cur.toList.take o ++ ys.map (Value.int .i64) ++ cur.toList.drop (o + (ys.map (Value.int .i64)).length)).toArray, fun ty => ?_, ?_, ?_⟩
    · have := run_copy_row (P := Tryz.prog) w 32 32 ty 3 g o d dCap ⟨b, off, none⟩ sLen sCap cur 3 (ys.map (Value.int .i64)) Tryz.underlying32 (by rw [hi]; simp [hz1]) hh (by rw [List.length_map]; exact hl)
        (fun j v hj => by
          have hjl : j < ys.length := by
            rcases Nat.lt_or_ge j ys.length with q | q
            · exact q
            · simp [List.getElem?_eq_none (show (ys.map (Value.int .i64)).length ≤ j by simpa using q)] at hj
          rw [Go.WideShapes.add_plain, hs j hjl]
          simp [List.getElem?_eq_getElem hjl] at hj
          subst hj
          simp [List.getD, List.getElem?_eq_getElem hjl]) (by rw [List.length_map, h5]; omega) (ints_one ys)
      rw [List.length_map (f := Value.int .i64)] at this ⊢
      exact this
    · refine ⟨by simp, .inr ⟨g, cap, _, ?_, hB, setRow_heap w g cur _ 3 (0, 0) hh, by simp; omega, h4, ?_, ?_⟩⟩
      · rw [show (zs.take o ++ ys ++ zs.drop (o + ys.length)).length = n by simp; omega]
      · simp; omega
      · rw [show (zs.take o ++ ys ++ zs.drop (o + ys.length)).length = n by simp; omega, Nat.mul_one]
        simp only [List.map_append, List.map_take, List.map_drop, List.length_map]
        rw [← h6]
        have e1 : cur.toList = cur.toList.take n ++ cur.toList.drop n := (List.take_append_drop _ _).symm
        rw [hn]
        apply List.ext_getElem?
        intro i
        simp only [List.getElem?_take, List.getElem?_append, List.length_append, List.length_take, List.length_map, List.getElem?_drop, hcn]
        by_cases hin : i < n
        · rw [if_pos hin]
          split
          · split
            · rw [if_pos (by omega), if_pos (by omega), if_pos (by omega)]
            · rw [if_pos (by omega), if_neg (by omega)]
              congr 1
              omega
          · rw [if_neg (by omega), if_pos (by omega)]
            congr 1
            omega
        · rw [if_neg hin, if_neg (by omega), if_neg (by omega)]
    · exact ⟨rfl, rfl, rfl, by simp [World.setRow], fun k _ hne => setRow_other w g k _ (fun e => hne (by rw [e]))⟩

theorem rep_step (z : Int) (k m d : Nat) (h : m ≤ d) : (List.replicate k z ++ List.replicate d 0).take k ++ List.replicate m z ++ (List.replicate k z ++ List.replicate d 0).drop (k + m) = List.replicate (k + m) z ++ List.replicate (d - m) 0 := by
  rw [List.take_left' (by simp), ← List.drop_drop, List.drop_left' (by simp), List.drop_replicate, List.replicate_append_replicate]
theorem rep_take (z : Int) (k m d : Nat) (h : m ≤ k) : ∀ i, i < m → (List.replicate k z ++ List.replicate d 0).getD i 0 = (List.replicate m z).getD i 0 := fun i hi => by
  simp [List.getD, List.getElem?_append, List.getElem?_replicate, hi, show i < k by omega]

set_option maxHeartbeats 1000000 in
theorem repeat_any (v : Value) (z : Int) (n : Nat) (w : World) (hv : Sl .i64 w v [z]) (hn : n ≤ 1000000) :
    Calls Tryz.prog 88 #[v, .int .i64 n] w fun e w' => e = .returned (.slice (some ⟨w.heap.size, 0, none⟩) n n) ∧ Own .i64 3 w.heap.size w' (.slice (some ⟨w.heap.size, 0, none⟩) n n) (List.replicate n z) ∧ Ext w w' := by
  have HV := hide' hv
  obtain ⟨a, c, rfl, _⟩ := hv
  obtain ⟨_, _, _, hcv⟩ := HV.out.int
  obtain ⟨b1, o1, rfl, k1⟩ := hcv (by simp)
  have K1 := hide' (k1 0 (by simp))
  clear k1 hcv
  obtain ⟨w1, hmk, ho, he⟩ := make_ints w n hn
  have HO := hide' ho
  have HE := hide' he
  have c1 : IntKind.u64.wrap 1 = 1 := by decide
  have c2 : IntKind.u64.wrap (n : Int) = (n : Int) := by rw [IntKind.wrap_u64]; omega
  have c3 : IntKind.i64.wrap (n : Int) = (n : Int) := by rw [IntKind.wrap_i64]; omega
  have c4 : decide ((n : Int) < 0) = false := by simp
  have HM : Hid (Calls Tryz.prog 95 #[.int .u64 1, .int .u64 n] w fun e w' => e = .returned (.tuple #[.int .u64 0, .int .u64 n]) ∧ w' = w) := by
    have h := mul_any 1 n (by omega) (by omega) w
    rw [Nat.one_mul, Nat.div_eq_of_lt (by omega), Nat.mod_eq_of_lt (by omega)] at h
    exact h
  have c5 : decide ((n : Int) > 9223372036854775807) = false := by simp; omega
  have c6 : decide ((9223372036854775807 : Int) < n) = false := by simp; omega
  clear ho he
  obtain ⟨g, HG⟩ : ∃ g, Hid (w.heap.size = g) := ⟨_, rfl⟩
  have hgw : w.heap.size ≤ g := by rw [HG.out]; exact Nat.le_refl _
  rw [HG.out] at HO hmk ⊢
  go_enter Tryz.func88, Tryz.ntmps88
  go_wp2_with fail
  refine HM.out.mono ?_
  rintro e _ ⟨rfl, hw⟩
  rw [hw]
  clear hw HM
  obtain ⟨m0, HM0⟩ : ∃ m, Hid (Nat.min 1 n = m) := ⟨_, rfl⟩
  have hm0 : m0 ≤ n := by rw [← HM0.out]; exact Nat.min_le_right _ _
  have hm1 : m0 ≤ 1 := by rw [← HM0.out]; exact Nat.min_le_left _ _
  have hm2 : n = 0 ∨ 0 < m0 := by
    by_cases h0 : n = 0
    · exact .inl h0
    · refine .inr ?_
      rw [← HM0.out]
      exact Nat.lt_min.2 ⟨by omega, by omega⟩
  obtain ⟨w2, hcp, ho, hb⟩ := copy_own (o := 0) (d := n) (dCap := n) (b := b1) (off := o1) (sLen := 1) (sCap := c) (List.replicate m0 z) HO.out (by simp) (by omega) (fun i hi => HE.out.cellOf (by
    rw [List.length_replicate] at hi
    have e0 : i = 0 := by omega
    subst e0
    rw [K1.out]
    simp [List.getD, hi])) (by rw [List.length_replicate]; exact HM0.out.symm)
  rw [List.length_replicate] at hcp
  have hcp' : ∀ ty, (Builtin.copy_ #[32, 32] ty #[.slice (some ⟨g, 0, none⟩) n n, .slice (some ⟨b1, o1, none⟩) 1 c]).run Tryz.prog w1 = .ok (.int .i64 (m0 : Int)) w2 := hcp
  have O2 : Hid (Own .i64 3 g w2 (.slice (some ⟨g, 0, none⟩) n n) (List.replicate m0 z ++ List.replicate (n - m0) 0)) := by
    have := ho
    simp only [List.take_zero, List.nil_append, List.length_replicate, Nat.zero_add, List.drop_replicate] at this
    exact this
  have E2 : Hid (Ext w w2) := Ext.but HE.out hgw hb
  have HM2 := hide' hm2
  clear hcp ho hb HE HO hm2
  go_wp2
  go_loopw [8] (fun vk wr => ∃ (k d : Nat), n = k + d ∧ Hid (d = 0 ∨ 0 < k) ∧ vk = .int .i64 k ∧ Hid (Own .i64 3 g wr (.slice (some ⟨g, 0, none⟩) n n) (List.replicate k z ++ List.replicate d 0)) ∧ Hid (Ext w wr)) (fun vk _ => n - (intOf vk).toNat)
  case atStart => exact ⟨m0, n - m0, by omega, (by show _ ∨ _; rcases HM2.out with h | h; exact .inl (by omega); exact .inr h), rfl, O2, E2⟩
  case round =>
    clear O2 E2
    obtain ⟨k, d, hkd, HK, rfl, HO, HE⟩ := hrel
    have HKD := hide' hkd
    by_cases hd : d = 0
    · subst hd
      have d1 : decide ((k : Int) < n) = false := by simp; omega
      have hkn : n = k := by omega
      clear hkd
      go_wp2
      go_ret
      have := HO.out
      rw [hkn] at this
      exact ⟨rfl, by simpa using this, HE.out⟩
    · have hlt : (k : Int) < n := by omega
      obtain ⟨m, HM⟩ : ∃ m, Hid (Nat.min k d = m) := ⟨_, rfl⟩
      have hmk : m ≤ k := by rw [← HM.out]; exact Nat.min_le_left _ _
      have hmd : m ≤ d := by rw [← HM.out]; exact Nat.min_le_right _ _
      have hm3 : 0 < m := by rw [← HM.out]; exact Nat.lt_min.2 ⟨by rcases HK.out with h | h <;> omega, by omega⟩
      have HL : Hid ((List.replicate k z ++ List.replicate d (0 : Int)).length = n) := by show _ = _; simp; omega
      obtain ⟨w3, hcp, ho, hb⟩ := copy_own (w := wr.drew) (o := k) (d := d) (dCap := d) (b := g) (off := 0) (sLen := k) (sCap := n) (List.replicate m z) (HO.out.ext (Ext.drewN wr 1)) HL.out (by omega) (fun i hi => by
        rw [List.length_replicate] at hi
        show (wr.drewN 1).cell? _ = _
        rw [Nat.zero_add, (HO.out.ext (Ext.drewN wr 1)).cell HL.out i (by omega), rep_take z k m d hmk i hi]) (by rw [List.length_replicate]; exact HM.out.symm)
      rw [List.length_replicate] at hcp
      rw [List.length_replicate, rep_step z k m d hmd] at ho
      have hcp' : ∀ ty, (Builtin.copy_ #[32, 32] ty #[.slice (some ⟨g, k, none⟩) d d, .slice (some ⟨g, 0, none⟩) k n]).run Tryz.prog wr.drew = .ok (.int .i64 (m : Int)) w3 := hcp
      have O3 := hide' ho
      have E3 : Hid (Ext w w3) := Ext.but (HE.out.trans (Ext.drewN wr 1)) hgw hb
      have hr1 : ∀ W, (Instr.slice 32 (.slice (some ⟨g, 0, none⟩) n n) (some (.int .i64 (k : Int))) none none).run Tryz.prog W = .ok (.slice (some ⟨g, k, none⟩) d d) W := fun W => by
        rw [run_slice_l W _ _ _ _ (show Tryz.prog.underlying 32 = some (.slice (Tryz.prog.elem 32)) by kernel_rfl) .i64 _ (by omega) (by omega), show Tryz.prog.elem 32 = 3 by kernel_rfl, sizeI64]
        simp only [Result.andThen, Int.toNat_natCast, sliced, Nat.mul_one]
        rw [show n - k = d by omega, if_neg (by omega)]
        have hk0 : k ≠ 0 := by rcases HK.out with h | h <;> omega
        simp [Addr.add, hk0]
      have hr2 : ∀ W, (Instr.slice 32 (.slice (some ⟨g, 0, none⟩) n n) none (some (.int .i64 (k : Int))) none).run Tryz.prog W = .ok (.slice (some ⟨g, 0, none⟩) k n) W := fun W => by
        exact ((Own.sl HO.out).runTake (P := Tryz.prog) 32 3 Tryz.underlying32 sizeI64 k (by rw [HL.out]; omega)).1 W
      clear hcp ho hb HO HE hkd
      go_wp2_with fail
      go_big_region
      all_goals
        go_wp2
        go_roundw
        case rel => exact ⟨k + m, d - m, by have := HKD.out; omega, (by show _ ∨ _; exact .inr (by omega)), by go_num, O3, E3⟩
        case measure => have := HKD.out; simp [intOf] <;> omega
end Go.Proofs.YtlmbdafilboblaaGreat

/- Rows of truths that a call owns: made, read, stored to. No conditions. -/
namespace Go.Proofs.YtlmbdafilboblaaGreat
set_option linter.unusedVariables false
set_option linter.unusedSimpArgs false
open Go.RowKit

theorem infoB : (Tryz.prog.info? 4).map (fun i => (i.zero, i.size, i.bytes)) = some (some (.bool false), 1, 1) := by kernel_rfl

/-- The call's own row of truths. -/
def OwnB (B : Nat) (w : World) (s : Value) (bs : List Bool) : Prop := w.ownsRow B 4 1 s bs.length (bs.map Value.bool)

theorem make_bools (w : World) (n : Nat) (hn : n ≤ 4000000) : ∃ w', (Instr.makeSlice 61 (.int .i64 (n : Int)) (.int .i64 (n : Int))).run Tryz.prog w = .ok (.slice (some ⟨w.heap.size, 0, none⟩) n n) w' ∧ OwnB w.heap.size w' (.slice (some ⟨w.heap.size, 0, none⟩) n n) (List.replicate n false) ∧ Ext w w' := by
  obtain ⟨i0, hi, hz0, hz1, hz2⟩ := info_parts infoB
  obtain ⟨w', h1, h2, h3⟩ := run_make_full (P := Tryz.prog) w w.heap.size 61 4 i0 (.bool false) 1 Tryz.underlying61 hi hz0 hz1 .i64 .i64 n (by rw [hz2]; omega) (by unfold maxLen; omega) (Nat.le_refl _)
  refine ⟨w', h1, ?_, ⟨h3.os, h3.tape, h3.output, h3.size, fun k hk => h3.block k hk (by simp)⟩⟩
  unfold OwnB
  have e1 : (Value.bool false).cells = #[Value.bool false] := rfl
  rw [e1, Nat.mul_one, toList_madeCells_one] at h2
  rw [List.length_replicate, List.map_replicate]
  exact h2

theorem OwnB.cell {B : Nat} {w : World} {g n cap : Nat} {bs : List Bool} (h : OwnB B w (.slice (some ⟨g, 0, none⟩) n cap) bs) (hn : bs.length = n) (j : Nat) (hj : j < n) : w.cell? ⟨g, j, none⟩ = some (.bool (bs.getD j false)) := by
  subst hn
  have := World.ownsRow.cellAt h j (by simpa using hj)
  rw [this]
  simp [List.getD, List.getElem?_eq_getElem hj]
theorem OwnB.frozen {B : Nat} {w : World} {g n cap : Nat} {bs : List Bool} (h : OwnB B w (.slice (some ⟨g, 0, none⟩) n cap) bs) (hn : bs.length = n) (j : Nat) : w.frozen? ⟨g, j, none⟩ = false := by
  subst hn
  exact World.ownsRow.frozenAt h j
theorem OwnB.store {B : Nat} {w : World} {g n cap : Nat} {bs : List Bool} (h : OwnB B w (.slice (some ⟨g, 0, none⟩) n cap) bs) (hn : bs.length = n) (j : Nat) (b : Bool) :
    OwnB B (w.setCell ⟨g, j, none⟩ (.bool b)) (.slice (some ⟨g, 0, none⟩) n cap) (bs.set j b) := by
  subst hn
  have := (World.ownsRow.stored h j (.bool b)).1
  unfold OwnB
  rw [List.length_set, List.map_set]
  exact this
theorem OwnB.ext {B : Nat} {w w' : World} {s : Value} {bs : List Bool} (h : OwnB B w s bs) (he : Ext w w') : OwnB B w' s bs :=
  World.ownsRow.kept (row := none) h ⟨he.os, he.tape, he.output, he.size, fun i hi _ => he.block i hi⟩ (by cases hv : s.ownBlock <;> simp)
/-- A row of truths that may be read. -/
def SlB (w : World) (v : Value) (bs : List Bool) : Prop :=
  ∃ a c, v = .slice a bs.length c ∧ bs.length ≤ c ∧ c ≤ maxLen ∧ (bs = [] ∨ ∃ b off, a = some ⟨b, off, none⟩ ∧ ∀ i, i < bs.length → w.cell? ⟨b, off + i, none⟩ = some (.bool (bs.getD i false)))

theorem SlB.ext {w w' : World} {v : Value} {bs : List Bool} (h : SlB w v bs) (he : Ext w w') : SlB w' v bs := by
  obtain ⟨a, c, h1, h2, h3, h4⟩ := h
  refine ⟨a, c, h1, h2, h3, ?_⟩
  rcases h4 with h4 | ⟨b, off, h4, h5⟩
  · exact .inl h4
  · exact .inr ⟨b, off, h4, fun i hi => he.cellOf (h5 i hi)⟩

theorem OwnB.sl {B : Nat} {w : World} {s : Value} {bs : List Bool} (h : OwnB B w s bs) : SlB w s bs := by
  obtain ⟨h1, h2⟩ := h
  rcases h2 with ⟨rfl, h2⟩ | ⟨g, cap, cur, rfl, _, hh, hn, hm, hs, ht⟩
  · exact ⟨none, 0, by rw [h2], by omega, by simp [maxLen], .inl (List.length_eq_zero_iff.1 h2)⟩
  · refine ⟨_, cap, rfl, hn, hm, .inr ⟨g, 0, rfl, fun i hi => ?_⟩⟩
    have : w.cell? ⟨g, 0 + i, none⟩ = cur[i]? := by simp [World.cell?, hh]
    rw [this]
    have h5 : cur.toList[i]? = (bs.map Value.bool)[i]? := by
      rw [← ht, List.getElem?_take, if_pos (by simpa using hi)]
    have h6 : cur[i]? = cur.toList[i]? := by simp
    rw [h6, h5]
    simp [List.getD, List.getElem?_eq_getElem hi]

theorem SlB.truth {w : World} {a : Option Addr} {n c : Nat} {bs : List Bool} (h : SlB w (.slice a n c) bs) : bs.length = n ∧ n ≤ c ∧ c ≤ maxLen ∧ (0 < n → ∃ g off, a = some ⟨g, off, none⟩ ∧ ∀ i, i < n → w.cell? ⟨g, off + i, none⟩ = some (.bool (bs.getD i false))) := by
  obtain ⟨a', c', h1, h2, h3, h4⟩ := h
  simp only [Value.slice.injEq] at h1
  obtain ⟨rfl, rfl, rfl⟩ := h1
  refine ⟨rfl, h2, h3, fun h0 => ?_⟩
  rcases h4 with h4 | ⟨b, off, h4, h5⟩
  · rw [h4] at h0; simp at h0
  · exact ⟨b, off, h4, h5⟩

theorem OwnB.nil (B : Nat) (w : World) : OwnB B w (.slice none 0 0) [] := World.ownsRow_nil _ _ _ _
theorem OwnB.alloc {B : Nat} {w : World} {s : Value} {bs : List Bool} (h : OwnB B w s bs) (o : Obj) : OwnB B (w.alloc o) s bs := World.ownsRow.alloc h o
theorem OwnB.low {B B' : Nat} {w : World} {s : Value} {bs : List Bool} (h : OwnB B w s bs) (hB : B' ≤ B) : OwnB B' w s bs := by
  obtain ⟨h1, h2⟩ := h
  refine ⟨h1, ?_⟩
  rcases h2 with h2 | ⟨g, cap, cur, h2, h3, h4⟩
  · exact .inl h2
  · exact .inr ⟨g, cap, cur, h2, Nat.le_trans hB h3, h4⟩

theorem oneB {b : Bool} : ∀ u ∈ [Value.bool b], u.oneCell' = true := by
  intro u hu; simp at hu; subst hu; rfl

/-- 'append(s, x)', s the call's own row of truths. -/
theorem wpList_snocB (w : World) {ops : Array Oper} {rest : List Oper} {o : Oper} {a : Act} {Q : Exit → Act → World → Prop} (hgd : o.guard = none) (s x : Operand)
    (ho : o.op = .call { callee := .builtin .append, args := #[s, x], argTypes := #[61, 61] }) (B : Nat) (v : Value) (bs : List Bool) (z : Bool) (ad : Addr) (hs : a.eval s = v) (hx : a.eval x = .slice (some ad) 1 1)
    (hcell : w.cell? ad = some (.bool z)) (hown : OwnB B w v bs) (hlen : bs.length + 1 ≤ 1000000) (hB : B ≤ w.heap.size)
    (h : ∀ v' w', OwnB B w' v' (bs ++ [z]) → Below B w w' → wpList Tryz.prog ops Q rest (a.put o.dst v') w') : wpList Tryz.prog ops Q (o :: rest) a w := by
  obtain ⟨i0, hi, hz0, hz1, hz2⟩ := info_parts infoB
  refine wpList_append_own w hgd s x 61 ho B 4 i0 (.bool false) 1 1 Tryz.underlying61 hi hz0 hz1 hz2 rfl (by decide) v _ _ hs hown ad 1 1 [.bool z] hx rfl ?_ oneB (by unfold maxLen; omega) (by omega) hB ?_
  · intro j u hj
    match j, hj with
    | 0, hj => simp at hj; subst hj; simpa [Addr.add] using hcell
  · intro v' w' h1 h2 _
    exact h v' w' (by unfold OwnB; simpa using h1) ((Below.refl _ _).grown h2 hB (fun k hk => (World.ownsRow.lt hown k hk).1))

theorem setB_same {l : List Bool} {i : Nat} {x : Bool} (h : i < l.length) : (l.set i x).getD i false = x := by simp [List.getD, h]
theorem setB_other {l : List Bool} {i j : Nat} {x : Bool} (h : i ≠ j) : (l.set i x).getD j false = l.getD j false := by
  simp [List.getD, List.getElem?_set_ne h]
theorem getB_ext {x y : List Bool} (hl : x.length = y.length) (h : ∀ k, k < x.length → x.getD k false = y.getD k false) : x = y := by
  refine List.ext_getElem hl fun k h1 h2 => ?_
  have := h k h1
  simpa [List.getD, List.getElem?_eq_getElem h1, List.getElem?_eq_getElem h2] using this
end Go.Proofs.YtlmbdafilboblaaGreat

/- Contract of kinds.Small. -/
namespace Go.Proofs.YtlmbdafilboblaaGreat
set_option linter.unusedVariables false
set_option linter.unusedSimpArgs false
open Go.RowKit

set_option maxHeartbeats 1000000 in
theorem small_any (v : Value) (zs : List Int) (w : World) (hv : Sl .i64 w v zs) (hlen : zs.length ≤ 4000000) :
    Calls Tryz.prog 66 #[v] w fun e w' => ∃ s, e = .returned s ∧ OwnB w.heap.size w' s (smallI zs) ∧ Ext w w' := by
  have HV := hide' hv
  obtain ⟨a, c, rfl, _⟩ := hv
  obtain ⟨_, _, _, hcv⟩ := HV.out.int
  have CV := hide' hcv
  obtain ⟨n, HN⟩ : ∃ n, Hid (zs.length = n) := ⟨_, rfl⟩
  rw [HN.out] at CV hlen ⊢
  clear hcv HV
  obtain ⟨w1, hmk, ho, he⟩ := make_bools w n hlen
  have HO := hide' ho
  have HE := hide' he
  clear ho he
  have hw2 : IntKind.i64.wrap ((n : Int) - 2) = (n : Int) - 2 := by rw [IntKind.wrap_i64]; omega
  go_enter Tryz.func66, Tryz.ntmps66
  go_wp2
  clear hmk
  go_loopw [4] (fun vi wr => ∃ (x : Int) (bs : List Bool), -2 ≤ x ∧ x + 2 ≤ n ∧ vi = .int .i64 x ∧ Hid (bs.length = n) ∧ Hid (∀ j : Nat, x < j → j < n → bs.getD j false = smB zs j) ∧
    Hid (OwnB w.heap.size wr (.slice (some ⟨w.heap.size, 0, none⟩) n n) bs) ∧ Hid (Ext w wr)) (fun vi _ => (intOf vi + 2).toNat)
  case atStart => 
    refine ⟨(n : Int) - 2, List.replicate n false, by omega, by omega, by first | rfl | rw [hw2], List.length_replicate, (fun j h1 h2 => ?_), HO, HE⟩
    rw [smB_last (by rw [HN.out]; omega)]
    simp [List.getD, h2]
  case round =>
    clear HO HE
    obtain ⟨x, bs, hx1, hx2, rfl, HL, HB, HO, HE⟩ := hrel
    by_cases hlt : 0 ≤ x
    · obtain ⟨k, rfl⟩ := Int.eq_ofNat_of_zero_le hlt
      have hk : k + 1 < n := by omega
      have hk0 : k < n := by omega
      have hk0' : (k : Int) < n := by omega
      have hk1' : (k : Int) + 1 < n := by omega
      obtain ⟨g1, o1, rfl, k1⟩ := CV.out (by omega)
      have c1 := HE.out.cellOf (k1 k hk0)
      have c2 := HE.out.cellOf (k1 (k + 1) hk)
      clear k1
      obtain ⟨p, HP⟩ : ∃ z, Hid (zs.getD k 0 = z) := ⟨_, rfl⟩
      obtain ⟨q, HQ⟩ : ∃ z, Hid (zs.getD (k + 1) 0 = z) := ⟨_, rfl⟩
      rw [HP.out] at c1
      rw [HQ.out] at c2
      have c3 := HO.out.cell HL.out (k + 1) hk
      have HR := hide' (HB.out (k + 1) (by omega) hk)
      rw [HR.out] at c3
      obtain ⟨r, HRR⟩ : ∃ z, Hid (smB zs (k + 1) = z) := ⟨_, rfl⟩
      rw [HRR.out] at c3
      have hfz := HO.out.frozen HL.out k
      have hci := HO.out.cell HL.out k hk0
      have hwk : IntKind.i64.wrap ((k : Int) + 1) = ((k + 1 : Nat) : Int) := by rw [IntKind.wrap_i64]; omega
      have HGO : Hid (∀ b, smB zs k = b → (∀ j : Nat, (k : Int) - 1 < j → j < n → (bs.set k b).getD j false = smB zs j)) := by
        intro b hb j h1 h2
        by_cases hjk : j = k
        · subst hjk; rw [setB_same (by rw [HL.out]; exact hk0), hb]
        · rw [setB_other (by omega)]; exact HB.out j (by omega) h2
      have hwm : IntKind.i64.wrap ((k : Int) - 1) = (k : Int) - 1 := by rw [IntKind.wrap_i64]; omega
      rcases Int.lt_trichotomy p q with h | h | h
      · have hb := hide' (smB_lt (s := zs) (i := k) (by rw [HN.out]; exact hk) (by rw [HP.out, HQ.out]; exact h))
        go_wp2_with fail
        go_big_region
        have HO2 : Hid (OwnB w.heap.size (wr.setCell ⟨w.heap.size, k, none⟩ (.bool true)).drew (.slice (some ⟨w.heap.size, 0, none⟩) n n) (bs.set k true)) := (HO.out.store HL.out k true).ext (Ext.drewN _ 1)
        have HE2 : Hid (Ext w (wr.setCell ⟨w.heap.size, k, none⟩ (.bool true)).drew) := (Ext.but HE.out (Nat.le_refl _) (but_set _ _ _ _)).trans (Ext.drewN _ 1)
        clear HO HE c1 c2 c3 hfz hci
        generalize (wr.setCell ⟨w.heap.size, k, none⟩ (.bool true)).drew = WW at *
        go_wp2
        go_roundw
        case rel => exact ⟨(k : Int) - 1, bs.set k true, by omega, by omega, by first | rfl | go_num, (show _ = _ by rw [List.length_set]; exact HL.out), HGO.out true hb.out, HO2, HE2⟩
        case measure => simp [intOf]; omega
      · have hb : Hid (smB zs k = r) := (smB_eq (s := zs) (i := k) (by rw [HN.out]; exact hk) (by rw [HP.out, HQ.out]; exact h)).trans HRR.out
        subst h
        go_wp2_with fail
        go_big_region
        have HO2 : Hid (OwnB w.heap.size (wr.setCell ⟨w.heap.size, k, none⟩ (.bool r)).drew (.slice (some ⟨w.heap.size, 0, none⟩) n n) (bs.set k r)) := (HO.out.store HL.out k r).ext (Ext.drewN _ 1)
        have HE2 : Hid (Ext w (wr.setCell ⟨w.heap.size, k, none⟩ (.bool r)).drew) := (Ext.but HE.out (Nat.le_refl _) (but_set _ _ _ _)).trans (Ext.drewN _ 1)
        clear HO HE c1 c2 c3 hfz hci
        generalize (wr.setCell ⟨w.heap.size, k, none⟩ (.bool r)).drew = WW at *
        go_wp2
        go_roundw
        case rel => exact ⟨(k : Int) - 1, bs.set k r, by omega, by omega, by first | rfl | go_num, (show _ = _ by rw [List.length_set]; exact HL.out), HGO.out r hb.out, HO2, HE2⟩
        case measure => simp [intOf]; omega
      · have hb := hide' (smB_gt (s := zs) (i := k) (by rw [HN.out]; exact hk) (by rw [HP.out, HQ.out]; exact h))
        have h1 : decide (p < q) = false := by simp; omega
        have h2 : (p == q) = false := by simp; omega
        go_wp2_with fail
        go_big_region
        have HO2 : Hid (OwnB w.heap.size (wr.setCell ⟨w.heap.size, k, none⟩ (.bool false)).drew (.slice (some ⟨w.heap.size, 0, none⟩) n n) (bs.set k false)) := (HO.out.store HL.out k false).ext (Ext.drewN _ 1)
        have HE2 : Hid (Ext w (wr.setCell ⟨w.heap.size, k, none⟩ (.bool false)).drew) := (Ext.but HE.out (Nat.le_refl _) (but_set _ _ _ _)).trans (Ext.drewN _ 1)
        clear HO HE c1 c2 c3 hfz hci
        generalize (wr.setCell ⟨w.heap.size, k, none⟩ (.bool false)).drew = WW at *
        go_wp2
        go_roundw
        case rel => exact ⟨(k : Int) - 1, bs.set k false, by omega, by omega, by first | rfl | go_num, (show _ = _ by rw [List.length_set]; exact HL.out), HGO.out false hb.out, HO2, HE2⟩
        case measure => simp [intOf]; omega
    · have hlt' : decide (0 ≤ x) = false := by simp; omega
      have HQ : Hid (bs = smallI zs) := getB_ext (by rw [HL.out, smallI_len, HN.out]) fun j hj => by
        rw [HL.out] at hj
        rw [HB.out j (by omega) hj, smallI_at (by rw [HN.out]; exact hj)]
      go_wp2
      go_ret
      exact ⟨_, rfl, by rw [← HQ.out]; exact HO.out, HE.out⟩
end Go.Proofs.YtlmbdafilboblaaGreat

/- Contract of whorl/kinds.First. -/
namespace Go.Proofs.YtlmbdafilboblaaGreat
set_option linter.unusedVariables false
set_option linter.unusedSimpArgs false
open Go.RowKit

set_option maxHeartbeats 1000000 in
theorem first_any (v : Value) (zs : List Int) (w : World) (hv : Sl .i64 w v zs) (hlen : zs.length ≤ 1000000) :
    Calls Tryz.prog 73 #[v] w fun e w' => ∃ s, e = .returned s ∧ Own .i64 3 w.heap.size w' s (natL (firstN zs)) ∧ Ext w w' := by
  have HV := hide' hv
  obtain ⟨a, c, rfl, _⟩ := hv
  have C := hide' (small_any _ zs w HV.out (by omega))
  obtain ⟨n, HN⟩ : ∃ n, Hid (zs.length = n) := ⟨_, rfl⟩
  rw [HN.out] at C hlen ⊢
  clear HV
  go_enter Tryz.func73, Tryz.ntmps73
  go_wp2_with fail
  refine C.out.mono ?_
  rintro e w1 ⟨s, rfl, ho, he⟩
  have HS := hide' ho.sl
  have E1 := hide' he
  have hz1 := he.size
  clear ho he C
  obtain ⟨sa, sc, rfl, _⟩ := HS.out
  have HLS : Hid ((smallI zs).length = n) := by show _ = _; rw [smallI_len, HN.out]
  rw [HLS.out] at HS ⊢
  obtain ⟨_, _, _, hcv⟩ := HS.out.truth
  have CV := hide' hcv
  clear hcv HS
  go_wp2
  go_loopw [4, 5] (fun sv vi wr => ∃ (i : Nat), 1 ≤ i ∧ (i ≤ n ∨ i = 1) ∧ vi = .int .i64 i ∧ Hid (Own .i64 3 w1.heap.size wr sv (natL (firN zs i))) ∧ Hid (Ext w1 wr)) (fun _ vi _ => n + 1 - (intOf vi).toNat)
  case atStart => exact ⟨1, Nat.le_refl _, .inr rfl, rfl, Own.nil _ _ _ _, Ext.refl _⟩
  case round =>
    obtain ⟨i, hi1, hi, rfl, HO, HE⟩ := hrel
    have hsz := HE.out.size
    by_cases hlt : i < n
    · have hlt' : (i : Int) < n := by omega
      obtain ⟨j, rfl⟩ : ∃ j, i = j + 1 := ⟨i - 1, by omega⟩
      have hij : ((j + 1 : Nat) : Int) - 1 = (j : Int) := by omega
      have hj : j < n := by omega
      have hj' : (j : Int) < n := by omega
      obtain ⟨g1, o1, rfl, k1⟩ := CV.out (by omega)
      have c1 := HE.out.cellOf (k1 (j + 1) hlt)
      have c2 := HE.out.cellOf (k1 j hj)
      rw [smallI_at (by rw [HN.out]; exact hlt)] at c1
      rw [smallI_at (by rw [HN.out]; exact hj)] at c2
      clear k1
      have HFI : Hid (fsB zs (j + 1) = (smB zs (j + 1) && !smB zs j)) := by show _ = _; unfold fsB; simp
      obtain ⟨p, HP⟩ : ∃ z, Hid (smB zs (j + 1) = z) := ⟨_, rfl⟩
      obtain ⟨q, HQ⟩ : ∃ z, Hid (smB zs j = z) := ⟨_, rfl⟩
      rw [HP.out] at c1 HFI
      rw [HQ.out] at c2 HFI
      have HLF : Hid ((natL (firN zs (j + 1))).length ≤ j + 1) := by show _ ≤ _; rw [natL_len]; exact firN_len _ _
      have stop : ∀ b, fsB zs (j + 1) = b → b = false → Hid (natL (firN zs (j + 1)) = natL (firN zs (j + 2))) := fun b h1 h2 => by show _ = _; rw [firN_no (k := j + 1) (by rw [h1, h2])]
      have yes : ∀ b, fsB zs (j + 1) = b → b = true → Hid (natL (firN zs (j + 1)) ++ [(j : Int) + 1] = natL (firN zs (j + 2))) := fun b h1 h2 => by show _ = _; rw [firN_yes (k := j + 1) (by rw [h1, h2]), ← natL_snoc]; rfl
      cases p
      · have HX := stop _ HFI.out rfl
        have HO1 : Hid (Own .i64 3 w1.heap.size wr u4 (natL (firN zs (j + 2)))) := by rw [← HX.out]; exact HO.out
        clear stop yes
        go_wp2
        go_roundw
        case rel => exact ⟨j + 2, by omega, by omega, by go_num, HO1, HE.out⟩
        case measure => simp [intOf]; omega
      · cases q
        rotate_left
        · have HX := stop _ HFI.out rfl
          have HO1 : Hid (Own .i64 3 w1.heap.size wr u4 (natL (firN zs (j + 2)))) := by rw [← HX.out]; exact HO.out
          clear stop yes
          go_wp2
          go_roundw
          case rel => exact ⟨j + 2, by omega, by omega, by go_num, HO1, HE.out⟩
          case measure => simp [intOf]; omega
        · have HX := yes _ HFI.out rfl
          clear stop yes
          go_wp2_with (at_builtin; refine wpList_snoc _ rfl _ _ 32 rfl 3 .i64 8 Tryz.underlying32 infoI64 w1.heap.size _ (natL (firN zs (j + 1))) ((j : Int) + 1) ⟨wr.heap.size, 0, none⟩ rfl rfl ?c4 (HO.out.alloc _) ?c3 ?c5 ?_)
          case c3 => have := HLF.out; unfold maxLen; omega
          case c5 => simp; omega
          case c4 => simp only [World.cell?, heap_alloc_top]; simp
          intro v1 w2 ho1 hb1
          have HO1 : Hid (Own .i64 3 w1.heap.size w2 v1 (natL (firN zs (j + 2)))) := by rw [← HX.out]; exact ho1
          have HE1 : Hid (Ext w1 w2) := Below.trans (HE.out.trans (ext_alloc _ _)) hb1
          clear ho1 hb1
          go_wp2
          go_roundw
          case rel => exact ⟨j + 2, by omega, by omega, by go_num, HO1, HE1⟩
          case measure => simp [intOf]; omega
    · have hlt' : decide ((i : Int) < n) = false := by simp; omega
      have HQ : Hid (firN zs i = firstN zs) := by
        show _ = _
        unfold firstN
        rw [HN.out]
        by_cases h0 : i = n
        · rw [h0]
        · have h1 : i = 1 := by omega
          have h2 : n = 0 := by omega
          rw [h1, h2]; rfl
      go_wp2
      go_ret
      exact ⟨_, rfl, by rw [← HQ.out]; exact HO.out.low hz1, E1.out.trans HE.out⟩
end Go.Proofs.YtlmbdafilboblaaGreat

/- Contract of induce.isFirst: are they the first places, each once, in some order? -/
namespace Go.Proofs.YtlmbdafilboblaaGreat
set_option linter.unusedVariables false
set_option linter.unusedSimpArgs false
open Go.RowKit

def firB (s fs : List Int) : Bool := fs.isPerm (natL (firstN s))
theorem firB_iff {s fs : List Int} : firB s fs = true ↔ fs.Perm (natL (firstN s)) := List.isPerm_iff
theorem firB_no {s fs : List Int} (h : ¬ fs.Perm (natL (firstN s))) : firB s fs = false := by
  rw [Bool.eq_false_iff]
  exact fun e => h (firB_iff.1 e)
theorem firstN_nodup (s : List Int) : (firstN s).Nodup := (firN_sorted s s.length).imp fun h => Nat.ne_of_lt h
/-- The row of truths says which first places have not come yet. -/
def Miss (s fs : List Int) (i : Nat) (bs : List Bool) : Prop :=
  ((fs.take i).Nodup ∧ ∀ z ∈ fs.take i, z ∈ natL (firstN s)) ∧ ∀ x, x < s.length → (bs.getD x false = true ↔ (x ∈ firstN s ∧ (x : Int) ∉ fs.take i))
theorem Miss.bad {s fs : List Int} {i : Nat} {bs : List Bool} (h : Miss s fs i bs) (hi : i < fs.length) (hz : fs.getD i 0 < 0 ∨ (s.length : Int) ≤ fs.getD i 0 ∨ bs.getD (fs.getD i 0).toNat false = false) : firB s fs = false := by
  refine firB_no fun hp => ?_
  have hm := natL_mem.1 (hp.mem_iff.1 (getI_mem hi))
  obtain ⟨p, hp1, hp2⟩ := hm
  have hpn := (firN_mem.1 hp1).1
  rw [hp2] at hz
  rcases hz with hz | hz | hz
  · omega
  · omega
  · rw [Int.toNat_natCast] at hz
    have h1 : ¬ (p ∈ firstN s ∧ (p : Int) ∉ fs.take i) := fun e => by
      rw [(h.2 p hpn).2 e] at hz
      cases hz
    have h2 : (p : Int) ∈ fs.take i := by
      apply Classical.byContradiction
      exact fun e => h1 ⟨hp1, e⟩
    have hnd := hp.nodup_iff.2 (natL_nodup (firstN_nodup s))
    have h3 : (fs.take (i + 1)).Nodup := List.Pairwise.sublist (List.take_sublist _ _) hnd
    rw [takeI_succ hi, List.nodup_append] at h3
    exact h3.2.2 _ h2 _ (List.mem_singleton.2 rfl) hp2.symm
theorem Miss.next {s fs : List Int} {i p : Nat} {bs : List Bool} (h : Miss s fs i bs) (hl : bs.length = s.length) (hi : i < fs.length) (hz : fs.getD i 0 = (p : Int)) (hp : p < s.length) (hb : bs.getD p false = true) : Miss s fs (i + 1) (bs.set p false) := by
  obtain ⟨⟨h1, h2⟩, h3⟩ := h
  have h4 := (h3 p hp).1 hb
  unfold Miss
  rw [takeI_succ hi, hz]
  refine ⟨⟨List.nodup_append.2 ⟨h1, by simp, fun a ha c hc e => ?_⟩, fun z hz2 => ?_⟩, fun x hx => ?_⟩
  · simp only [List.mem_singleton] at hc
    exact h4.2 (by rw [← hc, ← e]; exact ha)
  · rcases List.mem_append.1 hz2 with h5 | h5
    · exact h2 z h5
    · simp only [List.mem_singleton] at h5
      rw [h5]
      exact natL_mem.2 ⟨p, h4.1, rfl⟩
  · by_cases e : x = p
    · subst e
      rw [setB_same (by omega)]
      simp
    · rw [setB_other (by omega), h3 x hx, List.mem_append, List.mem_singleton]
      constructor
      · exact fun h => ⟨h.1, fun h5 => by rcases h5 with h5 | h5; · exact h.2 h5
                                          · omega⟩
      · exact fun h => ⟨h.1, fun h5 => h.2 (.inl h5)⟩
theorem Miss.done {s fs : List Int} {bs : List Bool} (h : Miss s fs fs.length bs) (hl : fs.length = (firstN s).length) : firB s fs = true := by
  obtain ⟨⟨h1, h2⟩, _⟩ := h
  rw [List.take_length] at h1 h2
  exact firB_iff.2 (nodup_perm h1 h2 (by rw [natL_len]; omega))

set_option maxHeartbeats 1000000 in
theorem isFirst_any (fv sv : Value) (fs s : List Int) (w : World) (hf : Sl .i64 w fv fs) (hs : Sl .i64 w sv s) (hlen : s.length ≤ 1000000) :
    Calls Tryz.prog 65 #[fv, sv] w fun e w' => e = .returned (.bool (firB s fs)) ∧ Ext w w' := by
  have HF := hide' hf
  have HV := hide' hs
  have C := hide' (first_any _ s w hs hlen)
  obtain ⟨a, c, rfl, _⟩ := hf
  obtain ⟨a0, c0, rfl, _⟩ := hs
  obtain ⟨_, _, hcm, hcv⟩ := HF.out.int
  have CV := hide' hcv
  have hLN := firN_len s s.length
  have HIN : Hid (∀ j, j < (firstN s).length → (firstN s).getD j 0 < s.length) := fun j hj => (firN_in hj).2
  obtain ⟨L, HL⟩ : ∃ n, Hid (fs.length = n) := ⟨_, rfl⟩
  obtain ⟨W, HW⟩ : ∃ n, Hid (firstN s = n) := ⟨_, rfl⟩
  obtain ⟨m, HM⟩ : ∃ n, Hid (W.length = n) := ⟨_, rfl⟩
  obtain ⟨n, HN⟩ : ∃ n, Hid (s.length = n) := ⟨_, rfl⟩
  have HML : Hid ((natL W).length = m) := by show _ = _; rw [natL_len, HM.out]
  have hmn : m ≤ n := by rw [← HM.out, ← HW.out, ← HN.out]; exact hLN
  have HLs := HL
  rw [HW.out] at C HIN
  rw [HM.out] at HIN
  rw [HN.out] at C hlen HV HIN ⊢
  rw [HL.out] at CV HF ⊢
  clear hcv hLN hcm
  go_enter Tryz.func65, Tryz.ntmps65
  go_wp2_with fail
  refine C.out.mono ?_
  rintro e w1 ⟨s1, rfl, ho, he⟩
  have O1 := hide' ho.sl
  have X1 := hide' he
  have hz1 := he.size
  clear ho he C
  obtain ⟨a1, c1, rfl, _⟩ := O1.out
  rw [HML.out] at O1 ⊢
  obtain ⟨_, _, _, hc1⟩ := O1.out.nat
  have C1 := hide' hc1
  clear hc1
  by_cases hne : L = m
  rotate_left
  · have HB : Hid (firB s fs = false) := firB_no fun hp => hne (by
      have := hp.length_eq
      rw [natL_len, HW.out, HM.out, HL.out] at this
      exact this)
    have d1 : ((L : Int) == m) = false := by simp; omega
    have d2 : ((L : Int) != m) = true := by simp; omega
    clear hne
    go_wp2
    go_ret
    exact ⟨by rw [HB.out]; rfl, X1.out⟩
  · have d1 : ((L : Int) == m) = true := by simp; omega
    have d2 : ((L : Int) != m) = false := by simp; omega
    obtain ⟨w2, hmk, ho, he⟩ := make_bools w1 n (by omega)
    have HO := hide' ho
    have HE := hide' he
    have HLF : Hid (fs.length = (firstN s).length) := by show _ = _; rw [HL.out, HW.out, HM.out]; exact hne
    clear ho he
    obtain ⟨G, HG⟩ : ∃ G, Hid (w1.heap.size = G) := ⟨_, rfl⟩
    go_wp2
    clear hmk
    go_loopw [23] (fun vi wr => ∃ (i : Nat) (bs : List Bool), i ≤ m ∧ vi = .int .i64 i ∧ Hid (bs.length = n) ∧ Hid (∀ x, x < n → (bs.getD x false = true ↔ x ∈ W.take i)) ∧
      Hid (OwnB w1.heap.size wr (.slice (some ⟨w1.heap.size, 0, none⟩) n n) bs) ∧ Hid (Ext w1 wr)) (fun vi _ => m - (intOf vi).toNat)
    case atStart => exact ⟨0, List.replicate n false, Nat.zero_le _, rfl, List.length_replicate, (fun x hx => by simp [List.getD, hx]), HO, HE⟩
    case round =>
      clear HO HE
      obtain ⟨i, bs, hi, rfl, HLB, HB, HO, HE⟩ := hrel
      by_cases hlt : i < m
      · have hlt' : (i : Int) < m := by omega
        obtain ⟨g1, o1, rfl, k1⟩ := C1.out (by omega)
        have c1 := HE.out.cellOf (k1 i hlt)
        clear k1
        have hp := HIN.out i hlt
        have HTK := hide' (takeN_succ (l := W) (i := i) (by rw [HM.out]; exact hlt))
        obtain ⟨p, HP⟩ : ∃ p, Hid (W.getD i 0 = p) := ⟨_, rfl⟩
        rw [HP.out] at c1 hp HTK
        have hp' : (p : Int) < n := by omega
        have hfz := HO.out.frozen HLB.out p
        have hci := HO.out.cell HLB.out p hp
        have HO2 := hide' (HO.out.store HLB.out p true)
        go_wp2
        go_roundw
        case rel =>
          refine ⟨i + 1, bs.set p true, by omega, by go_num, (show _ = _ by rw [List.length_set]; exact HLB.out), fun x hx => ?_, HO2, Ext.but HE.out (Nat.le_refl _) (but_set _ _ _ _)⟩
          rw [HTK.out, List.mem_append, List.mem_singleton]
          by_cases hxp : x = p
          · subst hxp; rw [setB_same (by rw [HLB.out]; exact hx)]; simp
          · rw [setB_other (by omega), HB.out x hx]; simp [hxp]
        case measure => simp [intOf] <;> omega
      · have hlt' : decide ((i : Int) < m) = false := by simp; omega
        have hin : i = m := by omega
        have HMI : Hid (Miss s fs 0 bs) := by
          refine ⟨⟨by simp, by simp⟩, fun x hx => ?_⟩
          rw [HN.out] at hx
          rw [HB.out x hx, HW.out, List.take_of_length_le (by rw [HM.out]; omega)]
          simp
        clear HB hin
        go_wp2
        go_loopw [33] (fun vi wq => ∃ (i : Nat) (cs : List Bool), i ≤ L ∧ vi = .int .i64 i ∧ Hid (cs.length = n) ∧ Hid (Miss s fs i cs) ∧
          Hid (OwnB w1.heap.size wq (.slice (some ⟨w1.heap.size, 0, none⟩) n n) cs) ∧ Hid (Ext w1 wq)) (fun vi _ => L - (intOf vi).toNat)
        case atStart => exact ⟨0, bs, Nat.zero_le _, rfl, HLB, HMI, HO, HE⟩
        case round =>
          clear HO HE HLB HMI hlt hlt'
          obtain ⟨t, cs, ht, rfl, HLB, HMI, HO, HE⟩ := hrel
          by_cases hlt : t < L
          · have hlt' : (t : Int) < L := by omega
            obtain ⟨g1, o1, rfl, k1⟩ := CV.out (by omega)
            have c1 := HE.out.cellOf (X1.out.cellOf (k1 t hlt))
            clear k1
            have HBAD : Hid (∀ z, fs.getD t 0 = z → (z < 0 ∨ (n : Int) ≤ z ∨ cs.getD z.toNat false = false) → firB s fs = false) := fun z hz h => HMI.out.bad (by rw [HL.out]; exact hlt) (by rw [hz, HN.out]; exact h)
            have HNX : Hid (∀ p : Nat, fs.getD t 0 = (p : Int) → p < n → cs.getD p false = true → Miss s fs (t + 1) (cs.set p false)) := fun p h1 h2 h3 => HMI.out.next (by rw [HLB.out, HN.out]) (by rw [HL.out]; exact hlt) h1 (by rw [HN.out]; exact h2) h3
            obtain ⟨z, HZ⟩ : ∃ p, Hid (fs.getD t 0 = p) := ⟨_, rfl⟩
            rw [HZ.out] at c1
            by_cases h0 : z < 0
            · have HB := hide' (HBAD.out z HZ.out (.inl h0))
              go_wp2
              go_ret
              exact ⟨by rw [HB.out]; rfl, X1.out.trans HE.out⟩
            · have e0 : decide (z < 0) = false := by simp; omega
              by_cases h1 : (n : Int) ≤ z
              · have HB := hide' (HBAD.out z HZ.out (.inr (.inl h1)))
                go_wp2
                go_ret
                exact ⟨by rw [HB.out]; rfl, X1.out.trans HE.out⟩
              · have e1 : decide ((n : Int) ≤ z) = false := by simp; omega
                obtain ⟨p, rfl⟩ := Int.eq_ofNat_of_zero_le (show 0 ≤ z by omega)
                have hp : p < n := by omega
                have hp' : (p : Int) < n := by omega
                have e2 : decide (n ≤ p) = false := by simp; omega
                have hci := HO.out.cell HLB.out p hp
                clear h0 h1
                cases hb : cs.getD p false
                · rw [hb] at hci
                  have HB := hide' (HBAD.out p HZ.out (.inr (.inr (by rw [Int.toNat_natCast]; exact hb))))
                  clear hb
                  go_wp2
                  go_ret
                  exact ⟨by rw [HB.out]; rfl, X1.out.trans HE.out⟩
                · rw [hb] at hci
                  have HM2 := hide' (HNX.out p HZ.out hp hb)
                  have hfz := HO.out.frozen HLB.out p
                  have HO2 := hide' (HO.out.store HLB.out p false)
                  clear hb
                  go_wp2
                  go_roundw
                  case rel => exact ⟨t + 1, cs.set p false, by omega, by go_num, (show _ = _ by rw [List.length_set]; exact HLB.out), HM2, HO2, Ext.but HE.out (Nat.le_refl _) (but_set _ _ _ _)⟩
                  case measure => simp [intOf] <;> omega
          · have hlt' : decide ((t : Int) < L) = false := by simp; omega
            have htl : t = L := by omega
            have HB : Hid (firB s fs = true) := Miss.done (bs := cs) (by rw [HL.out, ← htl]; exact HMI.out) HLF.out
            go_wp2
            go_ret
            exact ⟨by rw [HB.out]; rfl, X1.out.trans HE.out⟩
end Go.Proofs.YtlmbdafilboblaaGreat

/- Contract of bucket.Starts. -/
namespace Go.Proofs.YtlmbdafilboblaaGreat
set_option linter.unusedVariables false
set_option linter.unusedSimpArgs false
open Go.RowKit

set_option maxHeartbeats 400000 in
theorem starts_any (v : Value) (cs : List Int) (w : World) (hv : Sl .i64 w v cs) (hlen : cs.length ≤ 4000000) (hb : ∀ i, i ≤ cs.length → -4611686018427387904 ≤ sumI cs i ∧ sumI cs i ≤ 4611686018427387904) :
    Calls Tryz.prog 49 #[v] w fun e w' => ∃ s, e = .returned s ∧ Own .i64 3 w.heap.size w' s (startsI cs) ∧ Ext w w' := by
  have HV := hide' hv
  obtain ⟨a, c, rfl, _⟩ := hv
  obtain ⟨_, _, _, hcv⟩ := HV.out.int
  have CV := hide' hcv
  have HBD := hide' hb
  obtain ⟨n, HN⟩ : ∃ n, Hid (cs.length = n) := ⟨_, rfl⟩
  rw [HN.out] at CV hlen HBD ⊢
  clear hcv hb HV
  obtain ⟨w1, hmk, ho, he⟩ := make_intsB w n hlen
  have HO := hide' ho
  have HE := hide' he
  clear ho he
  go_enter Tryz.func49, Tryz.ntmps49
  go_wp2
  clear hmk
  go_loopw [4, 12] (fun vs vi wr => ∃ (i : Nat) (t : Int) (bs : List Int), i ≤ n ∧ vs = .int .i64 t ∧ vi = .int .i64 i ∧ Hid (sumI cs i = t) ∧ Hid (bs.length = n) ∧ Hid (∀ j, j < i → bs.getD j 0 = sumI cs j) ∧
    Hid (Own .i64 3 w.heap.size wr (.slice (some ⟨w.heap.size, 0, none⟩) n n) bs) ∧ Hid (Ext w wr)) (fun _ vi _ => n - (intOf vi).toNat)
  case atStart => exact ⟨0, 0, List.replicate n 0, Nat.zero_le _, rfl, rfl, (show _ = _ from rfl), List.length_replicate, (fun j hj => by omega), HO, HE⟩
  case round =>
    clear HO HE
    obtain ⟨i, t, bs, hi, rfl, rfl, HT, HL, HB, HO, HE⟩ := hrel
    by_cases hlt : i < n
    · have hlt' : (i : Int) < n := by omega
      obtain ⟨g1, o1, rfl, k1⟩ := CV.out (by omega)
      have c1 := HE.out.cellOf (k1 i hlt)
      clear k1
      have b1 := HBD.out i (by omega)
      have b2 := HBD.out (i + 1) (by omega)
      have HS : Hid (sumI cs (i + 1) = t + cs.getD i 0) := by show _ = _; rw [← HT.out]; rfl
      rw [HS.out] at b2
      rw [HT.out] at b1
      obtain ⟨z, HZ⟩ : ∃ z, Hid (cs.getD i 0 = z) := ⟨_, rfl⟩
      rw [HZ.out] at c1 b2 HS
      have hfz := HO.out.frozen HL.out i
      have hci := HO.out.cell HL.out i hlt
      have HO2 := hide' (HO.out.store HL.out i t)
      have hsum : IntKind.i64.wrap (t + z) = t + z := by rw [IntKind.wrap_i64]; omega
      go_wp2
      go_roundw
      case rel =>
        refine ⟨i + 1, t + z, bs.set i t, by omega, by first | rfl | go_num, by go_num, HS, (show _ = _ by rw [List.length_set]; exact HL.out), fun j hj => ?_, HO2, Ext.but HE.out (Nat.le_refl _) (but_set _ _ _ _)⟩
        by_cases hji : j = i
        · subst hji; rw [setI_same (by rw [HL.out]; exact hlt), HT.out]
        · rw [setI_other (by omega), HB.out j (by omega)]
      case measure => simp [intOf]; omega
    · have hlt' : decide ((i : Int) < n) = false := by simp; omega
      have hin : i = n := by omega
      subst hin
      have HQ : Hid (bs = startsI cs) := getD_ext (by rw [HL.out, startsI_len, HN.out]) fun j hj => by
        rw [HL.out] at hj
        rw [HB.out j hj, startsI_at cs (by rw [HN.out]; exact hj)]
      go_wp2
      go_ret
      exact ⟨_, rfl, by rw [← HQ.out]; exact HO.out, HE.out⟩
end Go.Proofs.YtlmbdafilboblaaGreat

/- Contract of bucket.fit. -/
namespace Go.Proofs.YtlmbdafilboblaaGreat
set_option linter.unusedVariables false
set_option linter.unusedSimpArgs false
open Go.RowKit

set_option maxHeartbeats 400000 in
theorem fit_any (v : Value) (zs : List Int) (k : Int) (w : World) (hv : Sl .i64 w v zs) (hlen : zs.length ≤ 1000000) :
    Calls Tryz.prog 56 #[v, .int .i64 k] w fun e w' => e = .returned (.bool (fitB zs k)) ∧ w' = w := by
  have HV := hide' hv
  obtain ⟨a, c, rfl, _⟩ := hv
  obtain ⟨_, _, _, hcv⟩ := HV.out.int
  have CV := hide' hcv
  obtain ⟨n, HN⟩ : ∃ n, Hid (zs.length = n) := ⟨_, rfl⟩
  rw [HN.out] at CV hlen ⊢
  clear hcv HV
  by_cases h0 : k < 0
  · have HF : Hid (fitB zs k = false) := fitB_neg h0
    go_enter Tryz.func56, Tryz.ntmps56
    go_wp2
    go_ret
    rw [HF.out]
    exact ⟨rfl, rfl⟩
  · by_cases h1 : 1048576 < k
    · have HF : Hid (fitB zs k = false) := fitB_big h1
      have d0 : decide (k < 0) = false := by simp; omega
      go_enter Tryz.func56, Tryz.ntmps56
      go_wp2
      go_ret
      rw [HF.out]
      exact ⟨rfl, rfl⟩
    · have HF : Hid (fitB zs k = goodI k zs) := fitB_eq (by omega) (by omega)
      have d0 : decide (k < 0) = false := by simp; omega
      have d1 : decide (1048576 < k) = false := by simp; omega
      rw [HF.out]
      go_enter Tryz.func56, Tryz.ntmps56
      go_wp2
      go_loopw [15] (fun vi wr => ∃ (i : Nat), i ≤ n ∧ vi = .int .i64 i ∧ Hid (∀ j, j < i → 0 ≤ zs.getD j 0 ∧ zs.getD j 0 < k) ∧ wr = w) (fun vi _ => n - (intOf vi).toNat)
      case atStart => exact ⟨0, Nat.zero_le _, rfl, (fun j hj => by omega), rfl⟩
      case round =>
        obtain ⟨i, hi, rfl, HG, rfl⟩ := hrel
        by_cases hlt : i < n
        · have hlt' : (i : Int) < n := by omega
          obtain ⟨g1, o1, rfl, k1⟩ := CV.out (by omega)
          have c1 := k1 i hlt
          clear k1
          obtain ⟨z, HZ⟩ : ∃ z, Hid (zs.getD i 0 = z) := ⟨_, rfl⟩
          rw [HZ.out] at c1
          by_cases hz : z < 0
          · have HB : Hid (goodI k zs = false) := goodI_bad (j := i) (by rw [HN.out]; exact hlt) (by rw [HZ.out]; exact .inl hz)
            go_wp2
            go_ret
            rw [HB.out]
            exact ⟨rfl, rfl⟩
          · have dz : decide (z < 0) = false := by simp; omega
            by_cases hzk : k ≤ z
            · have HB : Hid (goodI k zs = false) := goodI_bad (j := i) (by rw [HN.out]; exact hlt) (by rw [HZ.out]; exact .inr hzk)
              go_wp2
              go_ret
              rw [HB.out]
              exact ⟨rfl, rfl⟩
            · have dk : decide (k ≤ z) = false := by simp; omega
              go_wp2
              go_roundw
              case rel =>
                refine ⟨i + 1, by omega, by go_num, (fun j hj => ?_), by first | trivial | rfl⟩
                by_cases e : j = i
                · subst e; rw [HZ.out]; omega
                · exact HG.out j (by omega)
              case measure => simp [intOf]; omega
        · have hlt' : decide ((i : Int) < n) = false := by simp; omega
          have HB : Hid (goodI k zs = true) := goodI_of fun j hj => HG.out j (by rw [HN.out] at hj; omega)
          go_wp2
          go_ret
          rw [HB.out]
          exact ⟨rfl, rfl⟩
end Go.Proofs.YtlmbdafilboblaaGreat

/- Contract of bucket.Counts. -/
namespace Go.Proofs.YtlmbdafilboblaaGreat
set_option linter.unusedVariables false
set_option linter.unusedSimpArgs false
open Go.RowKit

/-- How often each key is there, if all may be. -/
def countsI (zs : List Int) (k : Int) : List Int := if fitB zs k = true then natL (cntsI zs k.toNat) else []
theorem countsI_yes {zs : List Int} {k : Int} (h : fitB zs k = true) : countsI zs k = natL (cntsI zs k.toNat) := if_pos h
theorem countsI_no {zs : List Int} {k : Int} (h : fitB zs k = false) : countsI zs k = [] := by unfold countsI; rw [h]; rfl

set_option maxHeartbeats 400000 in
theorem counts_any (v : Value) (zs : List Int) (k : Int) (w : World) (hv : Sl .i64 w v zs) (hlen : zs.length ≤ 1000000) :
    Calls Tryz.prog 41 #[v, .int .i64 k] w fun e w' => ∃ s, e = .returned (.tuple #[s, .bool (fitB zs k)]) ∧ Own .i64 3 w.heap.size w' s (countsI zs k) ∧ Ext w w' := by
  have HV := hide' hv
  have HLEN := hide' hlen
  obtain ⟨a, c, rfl, _⟩ := hv
  obtain ⟨_, _, _, hcv⟩ := HV.out.int
  have CV := hide' hcv
  obtain ⟨n, HN⟩ : ∃ n, Hid (zs.length = n) := ⟨_, rfl⟩
  rw [HN.out] at CV hlen HV ⊢
  clear hcv
  by_cases hf : fitB zs k = true
  · have HF := hide' hf
    obtain ⟨h0, h1, hg⟩ := fitB_iff.1 hf
    have HG := hide' hg
    obtain ⟨K, rfl⟩ := Int.eq_ofNat_of_zero_le h0
    have HC : Hid (countsI zs (K : Int) = natL (cntsI zs K)) := countsI_yes hf
    rw [HC.out, HF.out]
    clear hf hg h0
    go_enter Tryz.func41, Tryz.ntmps41
    go_wp2_with fail
    refine (fit_any _ zs _ _ HV.out HLEN.out).mono ?_
    rw [HF.out]
    rintro e _ ⟨rfl, hw⟩
    rw [hw]
    clear hw
    obtain ⟨w1, hmk, ho, he⟩ := make_natsB w K (by omega)
    have HO := hide' ho
    have HE := hide' he
    clear ho he
    go_wp2
    clear hmk
    go_loopw [17] (fun vi wr => ∃ (i : Nat) (bs : List Nat), i ≤ n ∧ vi = .int .i64 i ∧ Hid (bs.length = K) ∧ Hid (∀ q, q < K → bs.getD q 0 = cntI zs q i) ∧
      Hid (Own .i64 3 w.heap.size wr (.slice (some ⟨w.heap.size, 0, none⟩) K K) (natL bs)) ∧ Hid (Ext w wr)) (fun vi _ => n - (intOf vi).toNat)
    case atStart => exact ⟨0, List.replicate K 0, Nat.zero_le _, rfl, List.length_replicate, (fun q hq => by simp [cntI, List.getD, hq]), HO, HE⟩
    case round =>
      clear HO HE
      obtain ⟨i, bs, hi, rfl, HL, HB, HO, HE⟩ := hrel
      by_cases hlt : i < n
      · have hlt' : (i : Int) < n := by omega
        obtain ⟨g1, o1, rfl, k1⟩ := CV.out (by omega)
        have c1 := HE.out.cellOf (k1 i hlt)
        clear k1
        have hz := goodI_at HG.out (j := i) (by rw [HN.out]; exact hlt)
        obtain ⟨z, HZ⟩ : ∃ z, Hid (zs.getD i 0 = z) := ⟨_, rfl⟩
        rw [HZ.out] at c1 hz
        obtain ⟨q, rfl⟩ := Int.eq_ofNat_of_zero_le hz.1
        have hq : (q : Int) < K := hz.2
        have hq2 : q < K := by omega
        clear hz
        have hfz := HO.out.frozen (by rw [natL_len]; exact HL.out) q
        have hci := HO.out.intCell HL.out q hq2
        rw [HB.out q hq2] at hci
        have hcn := cntI_le zs q i
        obtain ⟨t, HT⟩ : ∃ t, Hid (cntI zs q i = t) := ⟨_, rfl⟩
        rw [HT.out] at hci hcn
        have HO2 := hide' (HO.out.storeN HL.out q (t + 1))
        go_wp2
        go_roundw
        case rel =>
          refine ⟨i + 1, bs.set q (t + 1), by omega, by go_num, (show _ = _ by rw [List.length_set]; exact HL.out), fun r hr => ?_, HO2, Ext.but HE.out (Nat.le_refl _) (but_set _ _ _ _)⟩
          by_cases hrq : r = q
          · subst hrq; rw [set_same (by rw [HL.out]; exact hq2), cntI_same HZ.out, HT.out]
          · rw [set_other (by omega), HB.out r hr, cntI_other (by rw [HZ.out]; omega)]
        case measure => simp [intOf]; omega
      · have hlt' : decide ((i : Int) < n) = false := by simp; omega
        have hin : i = n := by omega
        subst hin
        have HQ : Hid (bs = cntsI zs K) := natL_ext (by rw [HL.out, cntsI_len]) fun q hq => by
          rw [HL.out] at hq
          rw [HB.out q hq, cntsI_at zs hq, HN.out]
        go_wp2
        go_ret2
        exact ⟨_, rfl, by rw [← HQ.out]; exact HO.out, HE.out⟩
  · have hf' : fitB zs k = false := by simpa using hf
    have HF := hide' hf'
    have HC : Hid (countsI zs k = []) := countsI_no hf'
    rw [HC.out, HF.out]
    clear hf hf'
    go_enter Tryz.func41, Tryz.ntmps41
    go_wp2_with fail
    refine (fit_any _ zs _ _ HV.out HLEN.out).mono ?_
    rw [HF.out]
    rintro e _ ⟨rfl, hw⟩
    rw [hw]
    clear hw
    go_wp2
    go_ret2
    exact ⟨_, rfl, Own.nil _ _ _ _, Ext.refl _⟩
end Go.Proofs.YtlmbdafilboblaaGreat

/- Contracts of induce.ends and induce.emptyRow; what the buckets' beginnings and ends are. -/
namespace Go.Proofs.YtlmbdafilboblaaGreat
set_option linter.unusedVariables false
set_option linter.unusedSimpArgs false
open Go.RowKit

theorem cntsI_K {s : List Int} {K q : Nat} (f : Fits s K) (h : q < K) : (cntsI s K).getD q 0 = cntK s.length (keyN s) q := by
  rw [cntsI_at s h]
  have := cntI_pick (ps := List.range s.length) (key := keyN s) (zs := s) (fun j hj => by
    rw [List.length_range] at hj
    rw [rangeN_at hj]
    exact f.num j hj) q s.length (by rw [List.length_range]; exact Nat.le_refl _)
  rw [this]
  unfold cntK
  congr 2
  rw [List.take_of_length_le (by rw [List.length_range]; exact Nat.le_refl _)]
theorem sum_offK {s : List Int} {K : Nat} (f : Fits s K) : ∀ q, q ≤ K → sumI (natL (cntsI s K)) q = (offK s.length (keyN s) q : Int) := sum_offs fun q hq => cntsI_K f hq
theorem starts_beg {s : List Int} {K : Nat} (f : Fits s K) : startsI (natL (cntsI s K)) = natL (begN s K) := by
  refine getD_ext (by rw [startsI_len, natL_len, natL_len, cntsI_len]; simp [begN]) fun q hq => ?_
  rw [startsI_len, natL_len, cntsI_len] at hq
  rw [startsI_at _ (by rw [natL_len, cntsI_len]; exact hq), sum_offK f q (by omega), natL_at]
  unfold begN
  rw [mapI_at _ _ hq]
theorem sum_bound {s : List Int} {K : Nat} (f : Fits s K) (hn : s.length ≤ 1000000) : ∀ i, i ≤ (natL (cntsI s K)).length → -4611686018427387904 ≤ sumI (natL (cntsI s K)) i ∧ sumI (natL (cntsI s K)) i ≤ 4611686018427387904 := fun i hi => by
  rw [natL_len, cntsI_len] at hi
  rw [sum_offK f i hi]
  have h3 := offK_mono s.length (keyN s) hi
  rw [offK_all f.lt] at h3
  omega
theorem begN_len (s : List Int) (K : Nat) : (begN s K).length = K := by simp [begN]
theorem endN_len (s : List Int) (K : Nat) : (endN s K).length = K := by simp [endN]
theorem begN_at (s : List Int) {K q : Nat} (h : q < K) : (begN s K).getD q 0 = offK s.length (keyN s) q := mapI_at _ _ h
theorem endN_at (s : List Int) {K q : Nat} (h : q < K) : (endN s K).getD q 0 = offK s.length (keyN s) q + cntK s.length (keyN s) q := by
  rw [← offK_succ]
  exact mapI_at _ _ h
/-- The first q are ends, the others beginnings yet. -/
def mixN (s : List Int) (K q : Nat) : List Nat := (endN s K).take q ++ (begN s K).drop q
theorem mixN_len (s : List Int) {K q : Nat} (h : q ≤ K) : (mixN s K q).length = K := by
  unfold mixN
  rw [List.length_append, List.length_take, List.length_drop, endN_len, begN_len]
  omega
theorem mixN_zero (s : List Int) (K : Nat) : mixN s K 0 = begN s K := by simp [mixN]
theorem mixN_all (s : List Int) (K : Nat) : mixN s K K = endN s K := by
  unfold mixN
  rw [List.take_of_length_le (by rw [endN_len]; exact Nat.le_refl _), List.drop_of_length_le (by rw [begN_len]; exact Nat.le_refl _), List.append_nil]
theorem mixN_at (s : List Int) {K q : Nat} (h : q < K) : (mixN s K q).getD q 0 = (begN s K).getD q 0 := by
  unfold mixN
  simp only [List.getD_eq_getElem?_getD]
  rw [List.getElem?_append_right (by rw [List.length_take, endN_len]; omega), List.length_take, endN_len, List.getElem?_drop, show q + (q - min q K) = q by omega]
theorem mixN_next (s : List Int) {K q : Nat} (h : q < K) : (mixN s K q).set q ((mixN s K q).getD q 0 + cntK s.length (keyN s) q) = mixN s K (q + 1) := by
  rw [mixN_at s h, begN_at s h, ← endN_at s h]
  unfold mixN
  rw [takeN_succ (by rw [endN_len]; exact h), List.set_append_right _ _ (by rw [List.length_take, endN_len]; omega), List.length_take, endN_len, show q - min q K = 0 by omega, dropN_cons (by rw [begN_len]; exact h)]
  simp

set_option maxHeartbeats 1000000 in
theorem ends_any (v : Value) (s : List Int) (K : Nat) (w : World) (f : Fits s K) (hv : Sl .i64 w v (natL (cntsI s K))) (hK : K ≤ 1048576) (hn : s.length ≤ 1000000) :
    Calls Tryz.prog 69 #[v] w fun e w' => ∃ u, e = .returned u ∧ Own .i64 3 w.heap.size w' u (natL (endN s K)) ∧ Ext w w' := by
  have HV := hide' hv
  have C := hide' (starts_any _ _ w hv (by rw [natL_len, cntsI_len]; omega) (sum_bound f hn))
  rw [starts_beg f] at C
  obtain ⟨a, c, rfl, _⟩ := hv
  obtain ⟨_, _, _, hcv⟩ := HV.out.nat
  have CV := hide' hcv
  have HLC : Hid ((natL (cntsI s K)).length = K) := by show _ = _; rw [natL_len, cntsI_len]
  have HCK : Hid (∀ q, q < K → (cntsI s K).getD q 0 = cntK s.length (keyN s) q ∧ (mixN s K q).getD q 0 + cntK s.length (keyN s) q ≤ 1000000) := fun q hq => by
    refine ⟨cntsI_K f hq, ?_⟩
    rw [mixN_at s hq, begN_at s hq, ← offK_succ]
    have h3 := offK_mono s.length (keyN s) (show q + 1 ≤ K from hq)
    rw [offK_all f.lt] at h3
    omega
  have HNX : Hid (∀ q, q < K → (mixN s K q).set q ((mixN s K q).getD q 0 + cntK s.length (keyN s) q) = mixN s K (q + 1)) := fun q hq => mixN_next s hq
  have HML : Hid (∀ q, q ≤ K → (mixN s K q).length = K) := fun q hq => mixN_len s hq
  have HM0 := hide' (mixN_zero s K)
  have HMA := hide' (mixN_all s K)
  rw [HLC.out] at C CV HV ⊢
  clear hcv HLC hn f
  go_enter Tryz.func69, Tryz.ntmps69
  go_wp2_with fail
  refine C.out.mono ?_
  rintro e w1 ⟨s1, rfl, ho, he⟩
  have HO := hide' ho
  have HE := hide' he
  have HSH : Hid (0 < K → ∃ g cap, s1 = .slice (some ⟨g, 0, none⟩) K cap ∧ w.heap.size ≤ g) := fun hK => by
    have hl : (natL (begN s K)).length = K := by rw [natL_len, begN_len]
    obtain ⟨g, cap, h3, h4, _⟩ := HO.out.shape (fun e => by rw [e] at hl; simp at hl; omega)
    rw [hl] at h3
    exact ⟨g, cap, h3, h4⟩
  clear ho he C
  go_wp2
  go_loopw [10] (fun vi wr => ∃ (i : Nat), i ≤ K ∧ vi = .int .i64 i ∧ Hid (Own .i64 3 w.heap.size wr s1 (natL (mixN s K i))) ∧ Hid (Ext w wr)) (fun vi _ => K - (intOf vi).toNat)
  case atStart => exact ⟨0, Nat.zero_le _, rfl, (show Own _ _ _ _ _ _ by rw [HM0.out]; exact HO.out), HE⟩
  case round =>
    clear HO HE
    obtain ⟨i, hi, rfl, HO, HE⟩ := hrel
    by_cases hlt : i < K
    · have hlt' : (i : Int) < K := by omega
      obtain ⟨g1, o1, rfl, k1⟩ := CV.out (by omega)
      have c1 := HE.out.cellOf (k1 i hlt)
      clear k1
      obtain ⟨hc1, hc2⟩ := HCK.out i hlt
      have HN1 := hide' (HNX.out i hlt)
      rw [hc1] at c1
      clear hc1
      obtain ⟨g, cap, rfl, hg⟩ := HSH.out (by omega)
      have c2 := HO.out.intCell (HML.out i hi) i hlt
      have z2 := HO.out.frozen (by rw [natL_len]; exact HML.out i hi) i
      obtain ⟨x, HX⟩ : ∃ x, Hid ((mixN s K i).getD i 0 = x) := ⟨_, rfl⟩
      obtain ⟨y, HY⟩ : ∃ x, Hid (cntK s.length (keyN s) i = x) := ⟨_, rfl⟩
      rw [HX.out] at c2 hc2 HN1
      rw [HY.out] at c1 hc2 HN1
      have HO2 := hide' (HO.out.storeN (HML.out i hi) i (x + y))
      rw [HN1.out] at HO2
      have HE2 : Hid (Ext w (wr.setCell ⟨g, i, none⟩ (.int .i64 ((x + y : Nat) : Int)))) := Ext.but HE.out hg (but_set _ _ _ _)
      go_wp2
      go_roundw
      case rel => exact ⟨i + 1, by omega, by go_num, HO2, HE2⟩
      case measure => simp [intOf]; omega
    · have hlt' : decide ((i : Int) < K) = false := by simp; omega
      have hin : i = K := by omega
      subst hin
      go_wp2
      go_ret
      exact ⟨_, rfl, by rw [← HMA.out]; exact HO.out, HE.out⟩

set_option maxHeartbeats 400000 in
theorem emptyRow_any (n : Nat) (w : World) (hn : n ≤ 1000000) :
    Calls Tryz.prog 67 #[.int .i64 n] w fun e w' => e = .returned (.slice (some ⟨w.heap.size, 0, none⟩) n n) ∧ Own .i64 3 w.heap.size w' (.slice (some ⟨w.heap.size, 0, none⟩) n n) (List.replicate n (-1)) ∧ Ext w w' := by
  obtain ⟨w1, hmk, ho, he⟩ := make_intsB w n (by omega)
  have HO := hide' ho
  have HE := hide' he
  clear ho he
  go_enter Tryz.func67, Tryz.ntmps67
  go_wp2
  clear hmk
  go_loopw [9] (fun vi wr => ∃ (i : Nat) (bs : List Int), i ≤ n ∧ vi = .int .i64 i ∧ Hid (bs.length = n) ∧ Hid (∀ j, j < i → bs.getD j 0 = -1) ∧
    Hid (Own .i64 3 w.heap.size wr (.slice (some ⟨w.heap.size, 0, none⟩) n n) bs) ∧ Hid (Ext w wr)) (fun vi _ => n - (intOf vi).toNat)
  case atStart => exact ⟨0, List.replicate n 0, Nat.zero_le _, rfl, List.length_replicate, (fun j hj => by omega), HO, HE⟩
  case round =>
    clear HO HE
    obtain ⟨i, bs, hi, rfl, HL, HB, HO, HE⟩ := hrel
    by_cases hlt : i < n
    · have hlt' : (i : Int) < n := by omega
      have hfz := HO.out.frozen HL.out i
      have hci := HO.out.cell HL.out i hlt
      have HO2 := hide' (HO.out.store HL.out i (-1))
      go_wp2
      go_roundw
      case rel =>
        refine ⟨i + 1, bs.set i (-1), by omega, by go_num, (show _ = _ by rw [List.length_set]; exact HL.out), fun j hj => ?_, HO2, Ext.but HE.out (Nat.le_refl _) (but_set _ _ _ _)⟩
        by_cases hji : j = i
        · subst hji; rw [setI_same (by rw [HL.out]; exact hlt)]
        · rw [setI_other (by omega), HB.out j (by omega)]
      case measure => simp [intOf]; omega
    · have hlt' : decide ((i : Int) < n) = false := by simp; omega
      have hin : i = n := by omega
      subst hin
      have HQ : Hid (bs = List.replicate i (-1)) := getD_ext (by rw [HL.out, List.length_replicate]) fun j hj => by
        rw [HL.out] at hj
        rw [HB.out j hj]
        simp [List.getD, hj]
      go_wp2
      go_ret
      exact ⟨rfl, by rw [← HQ.out]; exact HO.out, HE.out⟩
end Go.Proofs.YtlmbdafilboblaaGreat

/- Contracts of induce.layLast and induce.layNext. -/
namespace Go.Proofs.YtlmbdafilboblaaGreat
set_option linter.unusedVariables false
set_option linter.unusedSimpArgs false
open Go.RowKit

/-- What a call that lays one place hands on: both rows as they are told, all that was there ahead of them as it was. -/
def Laid (B1 B2 g h n K c : Nat) (w w' : World) (st : List Int × List Nat) : Prop :=
  Own .i64 3 B1 w' (.slice (some ⟨g, 0, none⟩) n n) st.1 ∧ Own .i64 3 B2 w' (.slice (some ⟨h, 0, none⟩) K c) (natL st.2) ∧
  ∀ w0 : World, Ext w0 w → w0.heap.size ≤ g → w0.heap.size ≤ h → Ext w0 w'

set_option maxHeartbeats 400000 in
theorem layLast_any (B1 B2 g h n K c p : Nat) (sv : Value) (s : List Int) (st : List Int × List Nat) (w : World) (hs : Sl .i64 w sv s) (h1 : Own .i64 3 B1 w (.slice (some ⟨g, 0, none⟩) n n) st.1) (h2 : Own .i64 3 B2 w (.slice (some ⟨h, 0, none⟩) K c) (natL st.2))
    (hne : g ≠ h) (hn : st.1.length = n) (hK : st.2.length = K) (hsn : s.length = n) (hp : p < n) (hk : keyN s p < K) (hnum : s.getD p 0 = (keyN s p : Int)) (ht : 1 ≤ st.2.getD (keyN s p) 0) (ht2 : st.2.getD (keyN s p) 0 ≤ n) (hn9 : n ≤ 1000000) :
    Calls Tryz.prog 86 #[.slice (some ⟨g, 0, none⟩) n n, sv, .slice (some ⟨h, 0, none⟩) K c, .int .i64 p] w fun e w' => e = .returned (.tuple #[]) ∧ Laid B1 B2 g h n K c w w' (putE s st p) := by
  obtain ⟨row, ptr⟩ := st
  simp only at h1 h2 hn hK ht ht2
  have HPE : Hid (putE s (row, ptr) p = (row.set (ptr.getD (keyN s p) 0 - 1) (p : Int), ptr.set (keyN s p) (ptr.getD (keyN s p) 0 - 1))) := rfl
  have HL1 := hide' hn
  have HL2 := hide' hK
  have O1 := hide' h1
  have O2 := hide' h2
  have HV := hide' hs
  obtain ⟨a, cs, rfl, _⟩ := hs
  obtain ⟨_, _, _, hcv⟩ := HV.out.int
  rw [hsn] at hcv ⊢
  obtain ⟨g1, o1, rfl, k1⟩ := hcv (by omega)
  have c1 := k1 p hp
  rw [hnum] at c1
  clear k1 HV hnum hn hK h1 h2
  obtain ⟨q, HQ⟩ : ∃ q, Hid (keyN s p = q) := ⟨_, rfl⟩
  rw [HQ.out] at c1 hk ht ht2 HPE
  have c2 := O2.out.intCell HL2.out q hk
  have z2 := O2.out.frozen (by rw [natL_len]; exact HL2.out) q
  obtain ⟨t, HT⟩ : ∃ t, Hid (ptr.getD q 0 = t) := ⟨_, rfl⟩
  rw [HT.out] at c2 ht ht2 HPE
  obtain ⟨f, HF⟩ : ∃ f, Hid (t = f + 1) := ⟨t - 1, by show _ = _; omega⟩
  have hf : (t : Int) - 1 = (f : Int) := by have := HF.out; omega
  have hfn : f < n := by have := HF.out; omega
  have hfn' : (f : Int) < n := by omega
  have hpn' : (p : Int) < n := by omega
  have hqk' : (q : Int) < K := by omega
  rw [show t - 1 = f by omega] at HPE
  have hne' : h ≠ g := Ne.symm hne
  have P2 := hide' (O2.out.storeN HL2.out q f)
  have P1 := hide' (O1.out.keep hne (but_set w h q (.int .i64 (f : Int))))
  have c3 := P2.out.intCell (by rw [List.length_set]; exact HL2.out) q hk
  rw [set_same (by rw [HL2.out]; exact hk)] at c3
  have z1 := P1.out.frozen HL1.out f
  have c4 := P1.out.cell HL1.out f hfn
  have R1 := hide' (P1.out.store HL1.out f (p : Int))
  have R2 := hide' (P2.out.keep hne' (but_set (w.setCell ⟨h, q, none⟩ (.int .i64 (f : Int))) g f (.int .i64 (p : Int))))
  rw [HPE.out]
  go_enter Tryz.func86, Tryz.ntmps86
  go_wp2
  first | go_end0 | (simp only [Exit.inBlock, Exit.then]; refine bodyPost_ret (results_none rfl _ _ _) rfl ?_) | refine bodyPost_ret (results_none rfl _ _ _) rfl ?_
  exact ⟨rfl, R1.out, R2.out, fun w0 he hg hh => Ext.but (Ext.but he hh (but_set w h q _)) hg (but_set _ g f _)⟩

set_option maxHeartbeats 400000 in
theorem layNext_any (B1 B2 g h n K c p : Nat) (sv : Value) (s : List Int) (st : List Int × List Nat) (w : World) (hs : Sl .i64 w sv s) (h1 : Own .i64 3 B1 w (.slice (some ⟨g, 0, none⟩) n n) st.1) (h2 : Own .i64 3 B2 w (.slice (some ⟨h, 0, none⟩) K c) (natL st.2))
    (hne : g ≠ h) (hn : st.1.length = n) (hK : st.2.length = K) (hsn : s.length = n) (hp : p < n) (hk : keyN s p < K) (hnum : s.getD p 0 = (keyN s p : Int)) (ht2 : st.2.getD (keyN s p) 0 < n) (hn9 : n ≤ 1000000) :
    Calls Tryz.prog 87 #[.slice (some ⟨g, 0, none⟩) n n, sv, .slice (some ⟨h, 0, none⟩) K c, .int .i64 p] w fun e w' => e = .returned (.tuple #[]) ∧ Laid B1 B2 g h n K c w w' (putB s st p) := by
  obtain ⟨row, ptr⟩ := st
  simp only at h1 h2 hn hK ht2
  have HPE : Hid (putB s (row, ptr) p = (row.set (ptr.getD (keyN s p) 0) (p : Int), ptr.set (keyN s p) (ptr.getD (keyN s p) 0 + 1))) := rfl
  have HL1 := hide' hn
  have HL2 := hide' hK
  have O1 := hide' h1
  have O2 := hide' h2
  have HV := hide' hs
  obtain ⟨a, cs, rfl, _⟩ := hs
  obtain ⟨_, _, _, hcv⟩ := HV.out.int
  rw [hsn] at hcv ⊢
  obtain ⟨g1, o1, rfl, k1⟩ := hcv (by omega)
  have c1 := k1 p hp
  rw [hnum] at c1
  clear k1 HV hnum hn hK h1 h2
  obtain ⟨q, HQ⟩ : ∃ q, Hid (keyN s p = q) := ⟨_, rfl⟩
  rw [HQ.out] at c1 hk ht2 HPE
  have c2 := O2.out.intCell HL2.out q hk
  obtain ⟨f, HT⟩ : ∃ t, Hid (ptr.getD q 0 = t) := ⟨_, rfl⟩
  rw [HT.out] at c2 ht2 HPE
  have hfn' : (f : Int) < n := by omega
  have hpn' : (p : Int) < n := by omega
  have hqk' : (q : Int) < K := by omega
  have hne' : h ≠ g := Ne.symm hne
  have z1 := O1.out.frozen HL1.out f
  have c4 := O1.out.cell HL1.out f ht2
  have P1 := hide' (O1.out.store HL1.out f (p : Int))
  have P2 := hide' (O2.out.keep hne' (but_set w g f (.int .i64 (p : Int))))
  have z2 := P2.out.frozen (by rw [natL_len]; exact HL2.out) q
  have c5 := P2.out.intCell HL2.out q hk
  rw [HT.out] at c5
  have R2 := hide' (P2.out.storeN HL2.out q (f + 1))
  have R1 := hide' (P1.out.keep hne (but_set (w.setCell ⟨g, f, none⟩ (.int .i64 (p : Int))) h q (.int .i64 ((f + 1 : Nat) : Int))))
  rw [HPE.out]
  go_enter Tryz.func87, Tryz.ntmps87
  go_wp2
  first | go_end0 | (simp only [Exit.inBlock, Exit.then]; refine bodyPost_ret (results_none rfl _ _ _) rfl ?_) | refine bodyPost_ret (results_none rfl _ _ _) rfl ?_
  exact ⟨rfl, R1.out, R2.out, fun w0 he hg hh => Ext.but (Ext.but he hg (but_set w g f _)) hh (but_set _ h q _)⟩
end Go.Proofs.YtlmbdafilboblaaGreat

/- Contracts of induce.layFirst and induce.takeOutSmall. -/
namespace Go.Proofs.YtlmbdafilboblaaGreat
set_option linter.unusedVariables false
set_option linter.unusedSimpArgs false
open Go.RowKit

set_option maxHeartbeats 1000000 in
theorem layFirst_any (B1 B2 g K : Nat) (sv fv ev : Value) (s : List Int) (F : List Nat) (w0 w : World) (f : Fits s K) (hF : Firsts s F) (hs : Sl .i64 w0 sv s) (hf : Sl .i64 w0 fv (natL F)) (he : Ext w0 w)
    (h1 : Own .i64 3 B1 w (.slice (some ⟨g, 0, none⟩) s.length s.length) (st1 s K F 0).1) (h2 : Own .i64 3 B2 w ev (natL (st1 s K F 0).2)) (hg0 : w0.heap.size ≤ g) (hgB : g < B2) (hn9 : s.length ≤ 1000000) :
    Calls Tryz.prog 68 #[.slice (some ⟨g, 0, none⟩) s.length s.length, sv, fv, ev] w fun e w' => e = .returned (.tuple #[]) ∧ Own .i64 3 B1 w' (.slice (some ⟨g, 0, none⟩) s.length s.length) (st1 s K F F.length).1 ∧ Ext w0 w' := by
  have HV := hide' hs
  have HFV := hide' hf
  have HE0 := hide' he
  have O1 := hide' h1
  have O2 := hide' h2
  obtain ⟨a, c, rfl, _⟩ := hf
  obtain ⟨_, _, _, hcv⟩ := HFV.out.nat
  have CV := hide' hcv
  have HOK : Hid (∀ m, m < F.length → (st1 s K F m).1.length = s.length ∧ (st1 s K F m).2.length = K ∧ F.getD (F.length - 1 - m) 0 < s.length ∧ keyN s (F.getD (F.length - 1 - m) 0) < K ∧
    1 ≤ (st1 s K F m).2.getD (keyN s (F.getD (F.length - 1 - m) 0)) 0 ∧ (st1 s K F m).2.getD (keyN s (F.getD (F.length - 1 - m) 0)) 0 ≤ s.length) := fun m hm => st1_ok f hF hm
  have HST : Hid (∀ m, st1 s K F (m + 1) = putE s (st1 s K F m) (F.getD (F.length - 1 - m) 0)) := fun m => rfl
  have HFT := hide' f
  obtain ⟨L, HL⟩ : ∃ n, Hid (F.length = n) := ⟨_, rfl⟩
  have HLL : Hid ((natL F).length = L) := by show _ = _; rw [natL_len, HL.out]
  have hLn : L ≤ s.length := by
    have := hF.perm.length_eq
    rw [HL.out] at this
    rw [this]
    exact firN_len _ _
  rw [HLL.out] at CV HFV ⊢
  rw [HL.out] at HOK HST ⊢
  obtain ⟨n, HN⟩ : ∃ n, Hid (s.length = n) := ⟨_, rfl⟩
  rw [HN.out] at HOK O1 hn9 hLn ⊢
  clear hcv h1 h2 he hs hF f HLL
  have hw1 : IntKind.i64.wrap ((L : Int) - 1) = (L : Int) - 1 := by rw [IntKind.wrap_i64]; omega
  go_enter Tryz.func68, Tryz.ntmps68
  go_wp2
  go_loopw [8] (fun vi wr => ∃ (m : Nat) (x : Int), m ≤ L ∧ vi = .int .i64 x ∧ Hid (x = (L : Int) - 1 - m) ∧ Hid (Own .i64 3 B1 wr (.slice (some ⟨g, 0, none⟩) n n) (st1 s K F m).1) ∧
    Hid (Own .i64 3 B2 wr ev (natL (st1 s K F m).2)) ∧ Hid (Ext w0 wr)) (fun vi _ => (intOf vi + 1).toNat)
  case atStart => exact ⟨0, (L : Int) - 1, Nat.zero_le _, by first | rfl | rw [hw1], (show _ = _ by simp), O1, O2, HE0⟩
  case round =>
    clear O1 O2 HE0
    obtain ⟨m, x, hm, rfl, HX, O1, O2, HE⟩ := hrel
    by_cases hlt : m < L
    · obtain ⟨i, HI⟩ : ∃ i, Hid (L - 1 - m = i) := ⟨_, rfl⟩
      have hxi : x = (i : Int) := by have := HX.out; have := HI.out; omega
      subst hxi
      have hiL : i < L := by have := HI.out; omega
      have hiL' : (i : Int) < L := by omega
      have hi0 : (0 : Int) ≤ i := by omega
      obtain ⟨q1, q2, q3, q4, q5, q6⟩ := HOK.out m hlt
      have HS1 := hide' (HST.out m)
      rw [HI.out] at q3 q4 q5 q6 HS1
      obtain ⟨g1, o1, rfl, k1⟩ := CV.out (by omega)
      have c1 := HE.out.cellOf (k1 i hiL)
      clear k1
      obtain ⟨p, HP⟩ : ∃ p, Hid (F.getD i 0 = p) := ⟨_, rfl⟩
      rw [HP.out] at c1 q3 q4 q5 q6 HS1
      obtain ⟨h, cap, hev, hh, hcap⟩ := O2.out.shape (fun e => by
        have : (natL (st1 s K F m).2).length = 0 := by rw [e]; rfl
        rw [natL_len] at this
        omega)
      rw [natL_len, q2] at hev
      subst hev
      have C := hide' (layLast_any B1 B2 g h n K cap p sv s (st1 s K F m) wr (HV.out.ext HE.out) O1.out O2.out (by omega) q1 q2 HN.out q3 q4 (HFT.out.num p (by rw [HN.out]; exact q3)) q5 q6 hn9)
      rw [← HS1.out] at C
      clear q1 q2 q3 q4 q5 q6 hcap
      have hi1 : IntKind.i64.wrap ((i : Int) - 1) = (i : Int) - 1 := by rw [IntKind.wrap_i64]; omega
      go_wp2_with fail
      refine C.out.mono ?_
      rintro e w2 ⟨rfl, ho1, ho2, hex⟩
      have P1 := hide' ho1
      have P2 := hide' ho2
      have PE := hide' (hex w0 HE.out hg0 (by omega))
      clear ho1 ho2 hex C
      go_wp2
      go_roundw
      case rel => exact ⟨m + 1, (i : Int) - 1, by omega, by first | rfl | rw [hi1], (show _ = _ by have := HX.out; omega), P1, P2, PE⟩
      case measure => simp [intOf] <;> omega
    · have hm2 : m = L := by omega
      subst hm2
      have hx : x = -1 := by have := HX.out; omega
      subst hx
      go_wp2
      first | go_end0 | (simp only [Exit.inBlock, Exit.then]; refine bodyPost_ret (results_none rfl _ _ _) rfl ?_) | refine bodyPost_ret (results_none rfl _ _ _) rfl ?_
      exact ⟨rfl, O1.out, HE.out⟩

set_option maxHeartbeats 1000000 in
theorem takeOut_any (B1 g : Nat) (bv : Value) (s row : List Int) (w0 w : World) (hb : SlB w0 bv (smallI s)) (he : Ext w0 w) (hl : row.length = s.length) (hr : ∀ x, x < s.length → -1 ≤ row.getD x 0 ∧ row.getD x 0 < s.length)
    (h1 : Own .i64 3 B1 w (.slice (some ⟨g, 0, none⟩) s.length s.length) row) (hg0 : w0.heap.size ≤ g) (hn9 : s.length ≤ 1000000) :
    Calls Tryz.prog 71 #[.slice (some ⟨g, 0, none⟩) s.length s.length, bv] w fun e w' => e = .returned (.tuple #[]) ∧ Own .i64 3 B1 w' (.slice (some ⟨g, 0, none⟩) s.length s.length) (outI s row) ∧ Ext w0 w' := by
  have HB := hide' hb
  have HE0 := hide' he
  have O1 := hide' h1
  have HR := hide' hr
  have HLR := hide' hl
  obtain ⟨a, c, rfl, _⟩ := hb
  obtain ⟨_, _, _, hcv⟩ := HB.out.truth
  have CV := hide' hcv
  have HLB : Hid ((smallI s).length = s.length) := smallI_len s
  have HAT : Hid (∀ i, i < s.length → (outI s row).getD i 0 = if 0 ≤ row.getD i 0 ∧ smB s (row.getD i 0).toNat = true then -1 else row.getD i 0) := fun i hi => outI_at s row (by rw [hl]; exact hi)
  have HSM : Hid (∀ i, i < s.length → (smallI s).getD i false = smB s i) := fun i hi => smallI_at hi
  rw [HLB.out] at CV HB ⊢
  obtain ⟨n, HN⟩ : ∃ n, Hid (s.length = n) := ⟨_, rfl⟩
  rw [HN.out] at HR HLR CV O1 hn9 HAT HSM HB ⊢
  clear hcv h1 he hr hl HLB
  go_enter Tryz.func71, Tryz.ntmps71
  go_wp2
  go_loopw [8] (fun vi wr => ∃ (i : Nat) (bs : List Int), i ≤ n ∧ vi = .int .i64 i ∧ Hid (bs.length = n) ∧ Hid (∀ j, j < i → bs.getD j 0 = (outI s row).getD j 0) ∧ Hid (∀ j, i ≤ j → bs.getD j 0 = row.getD j 0) ∧
    Hid (Own .i64 3 B1 wr (.slice (some ⟨g, 0, none⟩) n n) bs) ∧ Hid (Ext w0 wr)) (fun vi _ => n - (intOf vi).toNat)
  case atStart => exact ⟨0, row, Nat.zero_le _, rfl, HLR, (fun j hj => by omega), (fun j _ => rfl), O1, HE0⟩
  case round =>
    clear O1 HE0
    obtain ⟨i, bs, hi, rfl, HL, HA, HC, O1, HE⟩ := hrel
    by_cases hlt : i < n
    · have hlt' : (i : Int) < n := by omega
      have hci := O1.out.cell HL.out i hlt
      rw [HC.out i (Nat.le_refl _)] at hci
      obtain ⟨hv1, hv2⟩ := HR.out i hlt
      have HX := hide' (HAT.out i hlt)
      obtain ⟨j, HJ⟩ : ∃ j, Hid (row.getD i 0 = j) := ⟨_, rfl⟩
      rw [HJ.out] at hci hv1 hv2 HX
      by_cases h0 : j = -1
      · subst h0
        have HX2 : Hid ((outI s row).getD i 0 = -1) := by show _ = _; rw [HX.out, if_neg (by omega)]
        clear hv1 hv2
        go_wp2
        go_roundw
        case rel =>
          refine ⟨i + 1, bs, by omega, by go_num, HL, fun j hj => ?_, fun j hj => HC.out j (by omega), O1, HE⟩
          by_cases hji : j = i
          · subst hji; rw [HC.out j (Nat.le_refl _), HJ.out, HX2.out]
          · exact HA.out j (by omega)
        case measure => simp [intOf]; omega
      · obtain ⟨p, rfl⟩ := Int.eq_ofNat_of_zero_le (show 0 ≤ j by omega)
        have d1 : ((p : Int) == -1) = false := by simp <;> omega
        have d2 : ((p : Int) != -1) = true := by simp <;> omega
        have hpn : p < n := by omega
        obtain ⟨g1, o1, rfl, k1⟩ := CV.out (by omega)
        have c1 := HE.out.cellOf (k1 p hpn)
        rw [HSM.out p hpn] at c1
        clear k1
        cases hs : smB s p
        · rw [hs] at c1
          have HX2 : Hid ((outI s row).getD i 0 = (p : Int)) := by show _ = _; rw [HX.out, if_neg (by rw [Int.toNat_natCast, hs]; simp)]
          clear hs h0
          go_wp2
          go_roundw
          case rel =>
            refine ⟨i + 1, bs, by omega, by go_num, HL, fun j hj => ?_, fun j hj => HC.out j (by omega), O1, HE⟩
            by_cases hji : j = i
            · subst hji; rw [HC.out j (Nat.le_refl _), HJ.out, HX2.out]
            · exact HA.out j (by omega)
          case measure => simp [intOf]; omega
        · rw [hs] at c1
          have HX2 : Hid ((outI s row).getD i 0 = -1) := by show _ = _; rw [HX.out, if_pos ⟨by omega, by rw [Int.toNat_natCast, hs]⟩]
          have hfz := O1.out.frozen HL.out i
          have P1 := hide' (O1.out.store HL.out i (-1))
          clear hs h0
          go_wp2
          go_roundw
          case rel =>
            refine ⟨i + 1, bs.set i (-1), by omega, by go_num, (show _ = _ by rw [List.length_set]; exact HL.out), fun j hj => ?_, fun j hj => ?_, P1, Ext.but HE.out hg0 (but_set _ _ _ _)⟩
            · by_cases hji : j = i
              · subst hji; rw [setI_same (by rw [HL.out]; exact hlt), HX2.out]
              · rw [setI_other (by omega)]; exact HA.out j (by omega)
            · rw [setI_other (by omega)]; exact HC.out j (by omega)
          case measure => simp [intOf]; omega
    · have hlt' : decide ((i : Int) < n) = false := by simp; omega
      have hin : i = n := by omega
      subst hin
      have HQ : Hid (bs = outI s row) := getD_ext (by rw [HL.out, outI_len, HLR.out]) fun j hj => by
        rw [HL.out] at hj
        exact HA.out j hj
      go_wp2
      first | go_end0 | (simp only [Exit.inBlock, Exit.then]; refine bodyPost_ret (results_none rfl _ _ _) rfl ?_) | refine bodyPost_ret (results_none rfl _ _ _) rfl ?_
      exact ⟨rfl, by rw [← HQ.out]; exact O1.out, HE.out⟩
end Go.Proofs.YtlmbdafilboblaaGreat

/- Contract of induce.layLarge. -/
namespace Go.Proofs.YtlmbdafilboblaaGreat
set_option linter.unusedVariables false
set_option linter.unusedSimpArgs false
open Go.RowKit

theorem stepB_no {s : List Int} {st : List Int × List Nat} {j : Int} (h : j ≤ 0) : stepB s st j = st := if_neg (by omega)
theorem stepB_small {s : List Int} {st : List Int × List Nat} {p : Nat} (h : smB s p = true) : stepB s st ((p + 1 : Nat) : Int) = st := by
  unfold stepB
  rw [show (((p + 1 : Nat) : Int) - 1).toNat = p by omega, h, if_neg (by simp)]
theorem stepB_yes {s : List Int} {st : List Int × List Nat} {p : Nat} (h : smB s p = false) : stepB s st ((p + 1 : Nat) : Int) = putB s st p := by
  unfold stepB
  rw [show (((p + 1 : Nat) : Int) - 1).toNat = p by omega, h, if_pos ⟨by omega, rfl⟩]
theorem stepE_no {s : List Int} {st : List Int × List Nat} {j : Int} (h : j ≤ 0) : stepE s st j = st := if_neg (by omega)
theorem stepE_large {s : List Int} {st : List Int × List Nat} {p : Nat} (h : smB s p = false) : stepE s st ((p + 1 : Nat) : Int) = st := by
  unfold stepE
  rw [show (((p + 1 : Nat) : Int) - 1).toNat = p by omega, h, if_neg (by simp)]
theorem stepE_yes {s : List Int} {st : List Int × List Nat} {p : Nat} (h : smB s p = true) : stepE s st ((p + 1 : Nat) : Int) = putE s st p := by
  unfold stepE
  rw [show (((p + 1 : Nat) : Int) - 1).toNat = p by omega, h, if_pos ⟨by omega, rfl⟩]
/-- What the second step reads, and where it lays. -/
theorem st2_ok {s : List Int} {K : Nat} {F : List Nat} (f : Fits s K) (hF : Firsts s F) {i : Nat} (hi : i < s.length) : (st2 s K F (i + 1)).1.length = s.length ∧ (st2 s K F (i + 1)).2.length = K ∧ -1 ≤ (st2 s K F (i + 1)).1.getD i 0 ∧ (st2 s K F (i + 1)).1.getD i 0 < s.length ∧
    ∀ p : Nat, (st2 s K F (i + 1)).1.getD i 0 = ((p + 1 : Nat) : Int) → smB s p = false → keyN s p < K ∧ (st2 s K F (i + 1)).2.getD (keyN s p) 0 < s.length := by
  obtain ⟨P, h⟩ := st2_all f hF (by omega) i (by omega)
  have b := based2 f hF
  obtain ⟨v1, v2⟩ := h.val b hi
  refine ⟨h.beg.rl, h.beg.pl, v1, v2, fun p hp hT => ?_⟩
  obtain ⟨_, g2, g3, _⟩ := h.ok f b hi hp hT
  exact ⟨g2, g3⟩
theorem st2_vals {s : List Int} {K : Nat} {F : List Nat} (f : Fits s K) (hF : Firsts s F) : (st2 s K F (s.length + 1)).1.length = s.length ∧ ∀ x, x < s.length → -1 ≤ (st2 s K F (s.length + 1)).1.getD x 0 ∧ (st2 s K F (s.length + 1)).1.getD x 0 < s.length := by
  by_cases hn : 0 < s.length
  · obtain ⟨P, h⟩ := st2_all f hF hn s.length (Nat.le_refl _)
    exact ⟨h.beg.rl, fun x hx => h.val (based2 f hF) hx⟩
  · refine ⟨?_, fun x hx => by omega⟩
    have h0 : s.length = 0 := by omega
    have hs : s = [] := List.length_eq_zero_iff.1 h0
    have hFe : F = [] := by
      have := hF.perm
      rw [hs] at this
      exact List.perm_nil.1 this
    subst hs
    subst hFe
    rfl

set_option maxHeartbeats 1000000 in
theorem layLarge_any (B1 B2 g K : Nat) (sv bv ev : Value) (s : List Int) (F : List Nat) (w0 w : World) (f : Fits s K) (hF : Firsts s F) (hs : Sl .i64 w0 sv s) (hb : SlB w0 bv (smallI s)) (he : Ext w0 w)
    (h1 : Own .i64 3 B1 w (.slice (some ⟨g, 0, none⟩) s.length s.length) (st2 s K F 0).1) (h2 : Own .i64 3 B2 w ev (natL (st2 s K F 0).2)) (hg0 : w0.heap.size ≤ g) (hgB : g < B2) (hn9 : s.length ≤ 1000000) :
    Calls Tryz.prog 70 #[.slice (some ⟨g, 0, none⟩) s.length s.length, sv, bv, ev] w fun e w' => e = .returned (.tuple #[]) ∧ Own .i64 3 B1 w' (.slice (some ⟨g, 0, none⟩) s.length s.length) (st2 s K F (s.length + 1)).1 ∧ Ext w0 w' := by
  have HV := hide' hs
  have HB := hide' hb
  have HE0 := hide' he
  have O1 := hide' h1
  have O2 := hide' h2
  obtain ⟨a0, c0, rfl, _⟩ := hs
  obtain ⟨a, c, rfl, _⟩ := hb
  obtain ⟨_, _, _, hcv⟩ := HB.out.truth
  have CV := hide' hcv
  by_cases hn0 : 0 < s.length
  rotate_left
  · have h0 : s.length = 0 := by omega
    have hs : s = [] := List.length_eq_zero_iff.1 h0
    have hFe : F = [] := by
      have := hF.perm
      rw [hs] at this
      exact List.perm_nil.1 this
    have HEQ : Hid ((st2 s K F (s.length + 1)).1 = (st2 s K F 0).1) := by
      subst hs
      subst hFe
      rfl
    rw [HEQ.out, h0]
    rw [h0] at O1
    clear hs hFe HEQ h1 h2 hn0 hcv he
    go_enter Tryz.func70, Tryz.ntmps70
    go_wp2
    first | go_end0 | (simp only [Exit.inBlock, Exit.then]; refine bodyPost_ret (results_none rfl _ _ _) rfl ?_) | refine bodyPost_ret (results_none rfl _ _ _) rfl ?_
    exact ⟨rfl, O1.out, HE0.out⟩
  · have HFT := hide' f
    have HOK : Hid (∀ i, i < s.length → (st2 s K F (i + 1)).1.length = s.length ∧ (st2 s K F (i + 1)).2.length = K ∧ -1 ≤ (st2 s K F (i + 1)).1.getD i 0 ∧ (st2 s K F (i + 1)).1.getD i 0 < s.length ∧
      ∀ p : Nat, (st2 s K F (i + 1)).1.getD i 0 = ((p + 1 : Nat) : Int) → smB s p = false → keyN s p < K ∧ (st2 s K F (i + 1)).2.getD (keyN s p) 0 < s.length) := fun i hi => st2_ok f hF hi
    have HST : Hid (∀ i, st2 s K F (i + 2) = stepB s (st2 s K F (i + 1)) ((st2 s K F (i + 1)).1.getD i 0)) := fun i => st2_next i
    have HS1 : Hid (st2 s K F 1 = putB s (st2 s K F 0) (s.length - 1)) := st2_one hn0
    obtain ⟨q1, q2, _⟩ := st2_first f hF hn0
    have qb := st2_begin f hF
    have HLB : Hid ((smallI s).length = s.length) := smallI_len s
    have HSM : Hid (∀ i, i < s.length → (smallI s).getD i false = smB s i) := fun i hi => smallI_at hi
    rw [HLB.out] at CV HB ⊢
    obtain ⟨n, HN⟩ : ∃ n, Hid (s.length = n) := ⟨_, rfl⟩
    have HQ1 := hide' qb.rl
    have HQ2 := hide' qb.pl
    rw [HN.out] at CV HB HOK HS1 q1 q2 HSM O1 hn9 hn0 HQ1 HV ⊢
    obtain ⟨m, HM⟩ : ∃ m, Hid (n - 1 = m) := ⟨_, rfl⟩
    rw [HM.out] at q1 q2 HS1
    have hmn : m < n := by have := HM.out; omega
    have hm1 : (n : Int) - 1 = (m : Int) := by have := HM.out; omega
    have hnz : ((n : Int) == 0) = false := by simp; omega
    obtain ⟨h, cap, hev, hh, hcap⟩ := O2.out.shape (fun e => by
      have : (natL (st2 s K F 0).2).length = 0 := by rw [e]; rfl
      rw [natL_len, HQ2.out] at this
      omega)
    rw [natL_len, HQ2.out] at hev
    subst hev
    have C := hide' (layNext_any B1 B2 g h n K cap m _ s (st2 s K F 0) w (HV.out.ext HE0.out) O1.out O2.out (by omega) HQ1.out HQ2.out HN.out hmn q1 (HFT.out.num m (by rw [HN.out]; exact hmn)) q2 hn9)
    rw [← HS1.out] at C
    clear hcv h1 h2 he hF f HLB qb q1 q2 O1 O2 hcap HS1 HQ1 HQ2
    go_enter Tryz.func70, Tryz.ntmps70
    go_wp2_with fail
    refine C.out.mono ?_
    rintro e w2 ⟨rfl, ho1, ho2, hex⟩
    have P1 := hide' ho1
    have P2 := hide' ho2
    have PE := hide' (hex w0 HE0.out hg0 (by omega))
    clear ho1 ho2 hex C HE0
    go_wp2
    go_loopw [22] (fun vi wr => ∃ (i : Nat), i ≤ n ∧ vi = .int .i64 i ∧ Hid (Own .i64 3 B1 wr (.slice (some ⟨g, 0, none⟩) n n) (st2 s K F (i + 1)).1) ∧
      Hid (Own .i64 3 B2 wr (.slice (some ⟨h, 0, none⟩) K cap) (natL (st2 s K F (i + 1)).2)) ∧ Hid (Ext w0 wr)) (fun vi _ => n - (intOf vi).toNat)
    case atStart => exact ⟨0, Nat.zero_le _, rfl, P1, P2, PE⟩
    case round =>
      clear P1 P2 PE
      obtain ⟨i, hi, rfl, O1, O2, HE⟩ := hrel
      by_cases hlt : i < n
      · have hlt' : (i : Int) < n := by omega
        obtain ⟨q1, q2, v1, v2, hok⟩ := HOK.out i hlt
        have HS1 := hide' (HST.out i)
        have HO := hide' hok
        have HQ1 := hide' q1
        have HQ2 := hide' q2
        have c1 := O1.out.cell q1 i hlt
        obtain ⟨j, HJ⟩ : ∃ j, Hid ((st2 s K F (i + 1)).1.getD i 0 = j) := ⟨_, rfl⟩
        rw [HJ.out] at c1 v1 v2 HS1 HO
        clear hok q1 q2
        by_cases h0 : j ≤ 0
        · have d1 : decide (0 < j) = false := by simp; omega
          rw [stepB_no h0] at HS1
          have R1 : Hid (Own .i64 3 B1 wr (.slice (some ⟨g, 0, none⟩) n n) (st2 s K F (i + 2)).1) := by rw [HS1.out]; exact O1.out
          have R2 : Hid (Own .i64 3 B2 wr (.slice (some ⟨h, 0, none⟩) K cap) (natL (st2 s K F (i + 2)).2)) := by rw [HS1.out]; exact O2.out
          clear h0 v1 v2
          go_wp2
          go_roundw
          case rel => exact ⟨i + 1, by omega, by go_num, R1, R2, HE⟩
          case measure => simp [intOf] <;> omega
        · obtain ⟨p, HP⟩ : ∃ p : Nat, Hid (j = ((p + 1 : Nat) : Int)) := ⟨(j - 1).toNat, by show _ = _; omega⟩
          have hj0 : 0 < j := by omega
          have hjp : j - 1 = (p : Int) := by have := HP.out; omega
          have hpn : p < n := by have := HP.out; omega
          have hpn' : (p : Int) < n := by omega
          obtain ⟨g1, o1, rfl, k1⟩ := CV.out (by omega)
          have c2 := HE.out.cellOf (k1 p hpn)
          rw [HSM.out p hpn] at c2
          clear k1 v1 v2 h0
          cases hsp : smB s p
          rotate_left
          · rw [hsp] at c2
            rw [HP.out, stepB_small hsp] at HS1
            have R1 : Hid (Own .i64 3 B1 wr (.slice (some ⟨g, 0, none⟩) n n) (st2 s K F (i + 2)).1) := by rw [HS1.out]; exact O1.out
            have R2 : Hid (Own .i64 3 B2 wr (.slice (some ⟨h, 0, none⟩) K cap) (natL (st2 s K F (i + 2)).2)) := by rw [HS1.out]; exact O2.out
            clear hsp
            go_wp2
            go_roundw
            case rel => exact ⟨i + 1, by omega, by go_num, R1, R2, HE⟩
            case measure => simp [intOf] <;> omega
          · rw [hsp] at c2
            rw [HP.out, stepB_yes hsp] at HS1
            obtain ⟨k1, k2⟩ := HO.out p HP.out hsp
            have C := hide' (layNext_any B1 B2 g h n K cap p _ s (st2 s K F (i + 1)) wr (HV.out.ext HE.out) O1.out O2.out (by omega) HQ1.out HQ2.out HN.out hpn k1 (HFT.out.num p (by rw [HN.out]; exact hpn)) k2 hn9)
            rw [← HS1.out] at C
            clear hsp k1 k2 O1 O2
            go_wp2_with fail
            refine C.out.mono ?_
            rintro e w3 ⟨rfl, ho1, ho2, hex⟩
            have R1 := hide' ho1
            have R2 := hide' ho2
            have RE := hide' (hex w0 HE.out hg0 (by omega))
            clear ho1 ho2 hex C
            go_wp2
            go_roundw
            case rel => exact ⟨i + 1, by omega, by go_num, R1, R2, RE⟩
            case measure => simp [intOf] <;> omega
      · have hlt' : decide ((i : Int) < n) = false := by simp; omega
        have hin : i = n := by omega
        subst hin
        go_wp2
        first | go_end0 | (simp only [Exit.inBlock, Exit.then]; refine bodyPost_ret (results_none rfl _ _ _) rfl ?_) | refine bodyPost_ret (results_none rfl _ _ _) rfl ?_
        exact ⟨rfl, O1.out, HE.out⟩
end Go.Proofs.YtlmbdafilboblaaGreat

/- Contract of induce.laySmall. -/
namespace Go.Proofs.YtlmbdafilboblaaGreat
set_option linter.unusedVariables false
set_option linter.unusedSimpArgs false
open Go.RowKit

theorem st3_ok {s : List Int} {K : Nat} {F : List Nat} (f : Fits s K) (hF : Firsts s F) {i : Nat} (hi : i < s.length) : (st3 s K F i).1.length = s.length ∧ (st3 s K F i).2.length = K ∧ -1 ≤ (st3 s K F i).1.getD (s.length - 1 - i) 0 ∧ (st3 s K F i).1.getD (s.length - 1 - i) 0 < s.length ∧
    ∀ p : Nat, (st3 s K F i).1.getD (s.length - 1 - i) 0 = ((p + 1 : Nat) : Int) → smB s p = true → keyN s p < K ∧ 1 ≤ (st3 s K F i).2.getD (keyN s p) 0 ∧ (st3 s K F i).2.getD (keyN s p) 0 ≤ s.length := by
  obtain ⟨P, h⟩ := st2_all f hF (by omega) s.length (Nat.le_refl _)
  obtain ⟨Q, h'⟩ := st3_all f hF h i (by omega)
  have b := based3 f h.scan.nodup h.scan.kind
  obtain ⟨v1, v2⟩ := h'.val b (x := s.length - 1 - i) (by omega)
  refine ⟨h'.fin.rl, h'.fin.pl, v1, v2, fun p hp hT => ?_⟩
  obtain ⟨_, g2, g3, g4, _⟩ := h'.ok f b hi hp hT
  exact ⟨g2, g3, g4⟩

set_option maxHeartbeats 1000000 in
theorem laySmall_any (B1 B2 g K : Nat) (sv bv ev : Value) (s : List Int) (F : List Nat) (w0 w : World) (f : Fits s K) (hF : Firsts s F) (hs : Sl .i64 w0 sv s) (hb : SlB w0 bv (smallI s)) (he : Ext w0 w)
    (h1 : Own .i64 3 B1 w (.slice (some ⟨g, 0, none⟩) s.length s.length) (st3 s K F 0).1) (h2 : Own .i64 3 B2 w ev (natL (st3 s K F 0).2)) (hg0 : w0.heap.size ≤ g) (hgB : g < B2) (hn9 : s.length ≤ 1000000) :
    Calls Tryz.prog 72 #[.slice (some ⟨g, 0, none⟩) s.length s.length, sv, bv, ev] w fun e w' => e = .returned (.tuple #[]) ∧ Own .i64 3 B1 w' (.slice (some ⟨g, 0, none⟩) s.length s.length) (indI s K F) ∧ Ext w0 w' := by
  have HV := hide' hs
  have HB := hide' hb
  have HE0 := hide' he
  have O1 := hide' h1
  have O2 := hide' h2
  obtain ⟨a0, c0, rfl, _⟩ := hs
  obtain ⟨a, c, rfl, _⟩ := hb
  obtain ⟨_, _, _, hcv⟩ := HB.out.truth
  have CV := hide' hcv
  have HFT := hide' f
  have HOK : Hid (∀ i, i < s.length → (st3 s K F i).1.length = s.length ∧ (st3 s K F i).2.length = K ∧ -1 ≤ (st3 s K F i).1.getD (s.length - 1 - i) 0 ∧ (st3 s K F i).1.getD (s.length - 1 - i) 0 < s.length ∧
    ∀ p : Nat, (st3 s K F i).1.getD (s.length - 1 - i) 0 = ((p + 1 : Nat) : Int) → smB s p = true → keyN s p < K ∧ 1 ≤ (st3 s K F i).2.getD (keyN s p) 0 ∧ (st3 s K F i).2.getD (keyN s p) 0 ≤ s.length) := fun i hi => st3_ok f hF hi
  have HST : Hid (∀ i, st3 s K F (i + 1) = stepE s (st3 s K F i) ((st3 s K F i).1.getD (s.length - 1 - i) 0)) := fun i => rfl
  have HLB : Hid ((smallI s).length = s.length) := smallI_len s
  have HSM : Hid (∀ i, i < s.length → (smallI s).getD i false = smB s i) := fun i hi => smallI_at hi
  have HIN : Hid (indI s K F = (st3 s K F s.length).1) := rfl
  rw [HLB.out] at CV HB ⊢
  obtain ⟨n, HN⟩ : ∃ n, Hid (s.length = n) := ⟨_, rfl⟩
  rw [HIN.out]
  rw [HN.out] at CV HB HOK HST HSM O1 hn9 HV ⊢
  clear hcv h1 h2 he hF f HLB HIN
  have hw1 : IntKind.i64.wrap ((n : Int) - 1) = (n : Int) - 1 := by rw [IntKind.wrap_i64]; omega
  go_enter Tryz.func72, Tryz.ntmps72
  go_wp2
  go_loopw [8] (fun vi wr => ∃ (m : Nat) (x : Int), m ≤ n ∧ vi = .int .i64 x ∧ Hid (x = (n : Int) - 1 - m) ∧ Hid (Own .i64 3 B1 wr (.slice (some ⟨g, 0, none⟩) n n) (st3 s K F m).1) ∧
    Hid (Own .i64 3 B2 wr ev (natL (st3 s K F m).2)) ∧ Hid (Ext w0 wr)) (fun vi _ => (intOf vi + 1).toNat)
  case atStart => exact ⟨0, (n : Int) - 1, Nat.zero_le _, by first | rfl | rw [hw1], (show _ = _ by simp), O1, O2, HE0⟩
  case round =>
    clear O1 O2 HE0
    obtain ⟨m, x, hm, rfl, HX, O1, O2, HE⟩ := hrel
    by_cases hlt : m < n
    · obtain ⟨i, HI⟩ : ∃ i, Hid (n - 1 - m = i) := ⟨_, rfl⟩
      have hxi : x = (i : Int) := by have := HX.out; have := HI.out; omega
      subst hxi
      have hiL : i < n := by have := HI.out; omega
      have hiL' : (i : Int) < n := by omega
      have hi0 : (0 : Int) ≤ i := by omega
      obtain ⟨q1, q2, v1, v2, hok⟩ := HOK.out m hlt
      have HS1 := hide' (HST.out m)
      have HO := hide' hok
      have HQ1 := hide' q1
      have HQ2 := hide' q2
      have c1 := O1.out.cell q1 i hiL
      rw [HI.out] at v1 v2 HO HS1
      clear hok q1 q2
      obtain ⟨j, HJ⟩ : ∃ j, Hid ((st3 s K F m).1.getD i 0 = j) := ⟨_, rfl⟩
      rw [HJ.out] at c1 v1 v2 HS1 HO
      have hi1 : IntKind.i64.wrap ((i : Int) - 1) = (i : Int) - 1 := by rw [IntKind.wrap_i64]; omega
      by_cases h0 : j ≤ 0
      · have d1 : decide (0 < j) = false := by simp; omega
        rw [stepE_no h0] at HS1
        have R1 : Hid (Own .i64 3 B1 wr (.slice (some ⟨g, 0, none⟩) n n) (st3 s K F (m + 1)).1) := by rw [HS1.out]; exact O1.out
        have R2 : Hid (Own .i64 3 B2 wr ev (natL (st3 s K F (m + 1)).2)) := by rw [HS1.out]; exact O2.out
        clear h0 v1 v2
        go_wp2
        go_roundw
        case rel => exact ⟨m + 1, (i : Int) - 1, by omega, by first | rfl | rw [hi1], (show _ = _ by have := HX.out; omega), R1, R2, HE⟩
        case measure => simp [intOf] <;> omega
      · obtain ⟨p, HP⟩ : ∃ p : Nat, Hid (j = ((p + 1 : Nat) : Int)) := ⟨(j - 1).toNat, by show _ = _; omega⟩
        have hj0 : 0 < j := by omega
        have hjp : j - 1 = (p : Int) := by have := HP.out; omega
        have hpn : p < n := by have := HP.out; omega
        have hpn' : (p : Int) < n := by omega
        obtain ⟨g1, o1, rfl, k1⟩ := CV.out (by omega)
        have c2 := HE.out.cellOf (k1 p hpn)
        rw [HSM.out p hpn] at c2
        clear k1 v1 v2 h0
        cases hsp : smB s p
        · rw [hsp] at c2
          rw [HP.out, stepE_large hsp] at HS1
          have R1 : Hid (Own .i64 3 B1 wr (.slice (some ⟨g, 0, none⟩) n n) (st3 s K F (m + 1)).1) := by rw [HS1.out]; exact O1.out
          have R2 : Hid (Own .i64 3 B2 wr ev (natL (st3 s K F (m + 1)).2)) := by rw [HS1.out]; exact O2.out
          clear hsp
          go_wp2
          go_roundw
          case rel => exact ⟨m + 1, (i : Int) - 1, by omega, by first | rfl | rw [hi1], (show _ = _ by have := HX.out; omega), R1, R2, HE⟩
          case measure => simp [intOf] <;> omega
        · rw [hsp] at c2
          rw [HP.out, stepE_yes hsp] at HS1
          obtain ⟨k1, k2, k3⟩ := HO.out p HP.out hsp
          obtain ⟨h, cap, hev, hh, hcap⟩ := O2.out.shape (fun e => by
            have : (natL (st3 s K F m).2).length = 0 := by rw [e]; rfl
            rw [natL_len, HQ2.out] at this
            omega)
          rw [natL_len, HQ2.out] at hev
          subst hev
          have C := hide' (layLast_any B1 B2 g h n K cap p _ s (st3 s K F m) wr (HV.out.ext HE.out) O1.out O2.out (by omega) HQ1.out HQ2.out HN.out hpn k1 (HFT.out.num p (by rw [HN.out]; exact hpn)) k2 k3 hn9)
          rw [← HS1.out] at C
          clear hsp k1 k2 k3 O1 O2 hcap
          go_wp2_with fail
          refine C.out.mono ?_
          rintro e w3 ⟨rfl, ho1, ho2, hex⟩
          have R1 := hide' ho1
          have R2 := hide' ho2
          have RE := hide' (hex w0 HE.out hg0 (by omega))
          clear ho1 ho2 hex C
          go_wp2
          go_roundw
          case rel => exact ⟨m + 1, (i : Int) - 1, by omega, by first | rfl | rw [hi1], (show _ = _ by have := HX.out; omega), R1, R2, RE⟩
          case measure => simp [intOf] <;> omega
    · have hm2 : m = n := by omega
      subst hm2
      have hx : x = -1 := by have := HX.out; omega
      subst hx
      go_wp2
      first | go_end0 | (simp only [Exit.inBlock, Exit.then]; refine bodyPost_ret (results_none rfl _ _ _) rfl ?_) | refine bodyPost_ret (results_none rfl _ _ _) rfl ?_
      exact ⟨rfl, O1.out, HE.out⟩
end Go.Proofs.YtlmbdafilboblaaGreat

/- Contract of induce.Sort. -/
namespace Go.Proofs.YtlmbdafilboblaaGreat
set_option linter.unusedVariables false
set_option linter.unusedSimpArgs false
open Go.RowKit

/-- May they be sorted? What they become. -/
def sortB (s : List Int) (k : Int) (fs : List Int) : Bool := fitB s k && firB s fs
def sortI (s : List Int) (k : Int) (fs : List Int) : List Int := if sortB s k fs = true then indI s k.toNat (toN fs) else []
theorem sortB_iff {s : List Int} {k : Int} {fs : List Int} : sortB s k fs = true ↔ fitB s k = true ∧ firB s fs = true := by simp [sortB]
theorem sortI_yes {s : List Int} {k : Int} {fs : List Int} (h : sortB s k fs = true) : sortI s k fs = indI s k.toNat (toN fs) := if_pos h
theorem sortI_no {s : List Int} {k : Int} {fs : List Int} (h : sortB s k fs = false) : sortI s k fs = [] := by unfold sortI; rw [h]; rfl
theorem firB_nat {s fs : List Int} (h : firB s fs = true) : natL (toN fs) = fs ∧ Firsts s (toN fs) := by
  have hp := firB_iff.1 h
  have hg : goodI (s.length : Int) fs = true := by
    rw [goodI_iff]
    intro z hz
    obtain ⟨p, h1, h2⟩ := natL_mem.1 (hp.mem_iff.1 hz)
    have := (firN_mem.1 h1).1
    omega
  have h1 := natL_toN hg
  refine ⟨h1, ⟨?_⟩⟩
  have h2 : (toN fs).Perm (toN (natL (firstN s))) := hp.map _
  rw [toN_nat] at h2
  exact h2

set_option maxHeartbeats 1000000 in
theorem sort_any (sv fv : Value) (s fs : List Int) (k : Int) (w : World) (hs : Sl .i64 w sv s) (hf : Sl .i64 w fv fs) (hlen : s.length ≤ 1000000) :
    Calls Tryz.prog 57 #[sv, .int .i64 k, fv] w fun e w' => ∃ u, e = .returned (.tuple #[u, .bool (sortB s k fs)]) ∧ Own .i64 3 w.heap.size w' u (sortI s k fs) ∧ Ext w w' := by
  have HV := hide' hs
  have HFV := hide' hf
  have HLEN := hide' hlen
  obtain ⟨a, c, rfl, _⟩ := hs
  obtain ⟨a', c', rfl, _⟩ := hf
  by_cases hfit : fitB s k = true
  rotate_left
  · have HB : Hid (sortB s k fs = false) := by
      show _ = _
      unfold sortB
      rw [Bool.eq_false_iff.2 hfit]
      rfl
    have HI := hide' (sortI_no HB.out)
    have HF : Hid (fitB s k = false) := Bool.eq_false_iff.2 hfit
    rw [HI.out, HB.out]
    clear hfit
    go_enter Tryz.func57, Tryz.ntmps57
    go_wp2_with fail
    refine (counts_any _ s k w HV.out HLEN.out).mono ?_
    rw [HF.out]
    rintro e w1 ⟨s1, rfl, _, he⟩
    have X1 := hide' he
    clear he
    go_wp2
    go_ret2
    exact ⟨_, rfl, Own.nil _ _ _ _, X1.out⟩
  · have HF := hide' hfit
    by_cases hfir : firB s fs = true
    rotate_left
    · have HR : Hid (firB s fs = false) := Bool.eq_false_iff.2 hfir
      have HB : Hid (sortB s k fs = false) := by
        show _ = _
        unfold sortB
        rw [HR.out]
        simp
      have HI := hide' (sortI_no HB.out)
      rw [HI.out, HB.out]
      clear hfit hfir
      go_enter Tryz.func57, Tryz.ntmps57
      go_wp2_with fail
      refine (counts_any _ s k w HV.out HLEN.out).mono ?_
      rw [HF.out]
      rintro e w1 ⟨s1, rfl, _, he⟩
      have X1 := hide' he
      clear he
      go_wp2_with fail
      refine (isFirst_any _ _ fs s w1 (HFV.out.ext X1.out) (HV.out.ext X1.out) HLEN.out).mono ?_
      rw [HR.out]
      rintro e w2 ⟨rfl, he⟩
      have X2 := hide' (X1.out.trans he)
      clear he
      go_wp2
      go_ret2
      exact ⟨_, rfl, Own.nil _ _ _ _, X2.out⟩
    · have HR := hide' hfir
      have HB : Hid (sortB s k fs = true) := sortB_iff.2 ⟨hfit, hfir⟩
      obtain ⟨hnat, hfst⟩ := firB_nat hfir
      have HFF := hide' hfst
      have HNT := hide' hnat
      obtain ⟨h0, h1, _⟩ := fitB_iff.1 hfit
      obtain ⟨K, rfl⟩ := Int.eq_ofNat_of_zero_le h0
      have HCC : Hid (countsI s (K : Int) = natL (cntsI s K)) := countsI_yes hfit
      have HFT : Hid (Fits s K) := Fits.of hfit
      have HI : Hid (sortI s (K : Int) fs = indI s K (toN fs)) := by show _ = _; rw [sortI_yes HB.out, Int.toNat_natCast]
      have hK9 : K ≤ 1048576 := by omega
      have HK9 := hide' hK9
      have HBG := hide' (starts_beg HFT.out)
      have HSB := hide' (sum_bound HFT.out hlen)
      have HCL : Hid ((natL (cntsI s K)).length ≤ 4000000) := by show _ ≤ _; rw [natL_len, cntsI_len]; omega
      have HV2 := hide' (st2_vals HFT.out HFF.out)
      have e10 : Hid ((st1 s K (toN fs) 0).1 = List.replicate s.length (-1)) := rfl
      have e11 : Hid ((st1 s K (toN fs) 0).2 = endN s K) := rfl
      have e20 : Hid ((st2 s K (toN fs) 0).1 = (st1 s K (toN fs) (toN fs).length).1) := rfl
      have e21 : Hid ((st2 s K (toN fs) 0).2 = begN s K) := rfl
      have e30 : Hid ((st3 s K (toN fs) 0).1 = outI s (st2 s K (toN fs) (s.length + 1)).1) := rfl
      have e31 : Hid ((st3 s K (toN fs) 0).2 = endN s K) := rfl
      rw [HI.out, HB.out]
      clear hfit hfir hfst hnat h0 h1 hK9
      go_enter Tryz.func57, Tryz.ntmps57
      go_wp2_with fail
      refine (counts_any _ s (K : Int) w HV.out HLEN.out).mono ?_
      rw [HF.out, HCC.out]
      rintro e w1 ⟨s1, rfl, ho, he⟩
      have S1 := hide' ho.sl
      have X1 := hide' he
      clear ho he
      go_wp2_with fail
      refine (isFirst_any _ _ fs s w1 (HFV.out.ext X1.out) (HV.out.ext X1.out) HLEN.out).mono ?_
      rw [HR.out]
      rintro e w2 ⟨rfl, he⟩
      have S2 := hide' (S1.out.ext he)
      have X2 := hide' (X1.out.trans he)
      clear he S1 X1
      go_wp2_with fail
      refine (small_any _ s w2 (HV.out.ext X2.out) (by have := HLEN.out; omega)).mono ?_
      rintro e w0 ⟨s2, rfl, ho, he⟩
      have SB := hide' ho.sl
      have S3 := hide' (S2.out.ext he)
      have X3 := hide' (X2.out.trans he)
      have VS := hide' (HV.out.ext X3.out)
      have VF := hide' (HFV.out.ext X3.out)
      rw [← HNT.out] at VF
      have hsz : w.heap.size ≤ w0.heap.size := X3.out.size
      have hnl : Hid ((natL (toN fs)).length = fs.length) := by show _ = _; rw [HNT.out]
      rw [hnl.out] at VF
      clear ho he S2 X2
      go_wp2_with fail
      refine (emptyRow_any s.length w0 HLEN.out).mono ?_
      rintro e w4 ⟨rfl, ho, he⟩
      have OR := hide' ho
      have X4 := hide' he
      have hg4 : w0.heap.size < w4.heap.size := (World.ownsRow.lt ho w0.heap.size rfl).2
      clear ho he
      obtain ⟨g, HG⟩ : ∃ g, Hid (w0.heap.size = g) := ⟨_, rfl⟩
      have hg0 : w0.heap.size ≤ g := by rw [HG.out]; exact Nat.le_refl _
      rw [HG.out] at OR hg4
      have hgw : w.heap.size ≤ g := by rw [HG.out] at hsz; exact hsz
      rw [HG.out]
      go_wp2_with fail
      refine (ends_any _ s K w4 HFT.out (S3.out.ext X4.out) HK9.out HLEN.out).mono ?_
      rintro e w5 ⟨s3, rfl, ho, he⟩
      have OE := hide' ho
      have OR5 := hide' (OR.out.ext he)
      have X5 := hide' (X4.out.trans he)
      have hz5 : w4.heap.size ≤ w5.heap.size := he.size
      rw [← e10.out] at OR5
      rw [← e11.out] at OE
      clear ho he OR X4
      go_wp2_with fail
      refine (layFirst_any g w4.heap.size g K _ _ _ s (toN fs) w0 w5 HFT.out HFF.out VS.out VF.out X5.out OR5.out OE.out hg0 hg4 HLEN.out).mono ?_
      rintro e w6 ⟨rfl, ho, he⟩
      have OR6 := hide' ho
      have X6 := hide' he
      rw [← e20.out] at OR6
      have hg6 : g < w6.heap.size := (World.ownsRow.lt ho g rfl).2
      clear ho he OR5 OE X5
      go_wp2_with fail
      refine (starts_any _ _ w6 (S3.out.ext X6.out) HCL.out HSB.out).mono ?_
      rw [HBG.out]
      rintro e w7 ⟨s4, rfl, ho, he⟩
      have OE := hide' ho
      have OR7 := hide' (OR6.out.ext he)
      have X7 := hide' (X6.out.trans he)
      rw [← e21.out] at OE
      clear ho he OR6 X6
      go_wp2_with fail
      refine (layLarge_any g w6.heap.size g K _ _ _ s (toN fs) w0 w7 HFT.out HFF.out VS.out SB.out X7.out OR7.out OE.out hg0 hg6 HLEN.out).mono ?_
      rintro e w8 ⟨rfl, ho, he⟩
      have OR8 := hide' ho
      have X8 := hide' he
      clear ho he OR7 OE X7
      go_wp2_with fail
      refine (takeOut_any g g _ s _ w0 w8 SB.out X8.out HV2.out.1 HV2.out.2 OR8.out hg0 HLEN.out).mono ?_
      rintro e w9 ⟨rfl, ho, he⟩
      have OR9 := hide' ho
      have X9 := hide' he
      rw [← e30.out] at OR9
      have hg9 : g < w9.heap.size := (World.ownsRow.lt ho g rfl).2
      clear ho he OR8 X8
      go_wp2_with fail
      refine (ends_any _ s K w9 HFT.out (S3.out.ext X9.out) HK9.out HLEN.out).mono ?_
      rintro e w10 ⟨s5, rfl, ho, he⟩
      have OE := hide' ho
      have OR10 := hide' (OR9.out.ext he)
      have X10 := hide' (X9.out.trans he)
      rw [← e31.out] at OE
      clear ho he OR9 X9
      go_wp2_with fail
      refine (laySmall_any g w9.heap.size g K _ _ _ s (toN fs) w0 w10 HFT.out HFF.out VS.out SB.out X10.out OR10.out OE.out hg0 hg9 HLEN.out).mono ?_
      rintro e w11 ⟨rfl, ho, he⟩
      have OR11 := hide' ho
      have X11 := hide' (X3.out.trans he)
      clear ho he OR10 OE X10
      go_wp2
      go_ret2
      exact ⟨_, rfl, OR11.out.low hgw, X11.out⟩
end Go.Proofs.YtlmbdafilboblaaGreat

/- Contract of sais.byPieces: the pieces in order, by induced sorting. -/
namespace Go.Proofs.YtlmbdafilboblaaGreat
set_option linter.unusedVariables false
set_option linter.unusedSimpArgs false
open Go.RowKit

/-- Which piece begins at a place, of the first i ones. -/
structure PieceAt (s : List Int) (i : Nat) (pa : List Int) : Prop where
  len : pa.length = s.length
  yes : ∀ j, j < i → pa.getD ((firstN s).getD j 0) 0 = (j : Int)
  no : ∀ p, p < s.length → (∀ j, j < i → (firstN s).getD j 0 ≠ p) → pa.getD p 0 = -1
theorem PieceAt.start (s : List Int) : PieceAt s 0 (List.replicate s.length (-1)) :=
  ⟨List.length_replicate, fun j hj => by omega, fun p hp _ => by simp [List.getD, hp]⟩
theorem PieceAt.next {s : List Int} {i : Nat} {pa : List Int} (h : PieceAt s i pa) (hi : i < (firstN s).length) : PieceAt s (i + 1) (pa.set ((firstN s).getD i 0) (i : Int)) := by
  have hlt := (firstN_at hi).1
  refine ⟨by rw [List.length_set]; exact h.len, fun j hj => ?_, fun p hp hn => ?_⟩
  · by_cases e : j = i
    · subst e
      rw [setI_same (by rw [h.len]; exact hlt)]
    · have := firstN_lt s (show j < i by omega) hi
      rw [setI_other (by omega)]
      exact h.yes j (by omega)
  · rw [setI_other (hn i (by omega))]
    exact h.no p hp fun j hj => hn j (by omega)
theorem PieceAt.first {s : List Int} {pa : List Int} (h : PieceAt s (firstN s).length pa) {p : Nat} (hp : p < s.length) (hf : fsB s p = true) : ∃ j, j < (firstN s).length ∧ (firstN s).getD j 0 = p ∧ pa.getD p 0 = (j : Int) := by
  have hm : p ∈ firstN s := firN_mem.2 ⟨hp, hf⟩
  obtain ⟨j, hj, ej⟩ := mem_getN hm
  exact ⟨j, hj, ej, by rw [← ej]; exact h.yes j hj⟩
theorem PieceAt.other {s : List Int} {pa : List Int} (h : PieceAt s (firstN s).length pa) {p : Nat} (hp : p < s.length) (hf : fsB s p = false) : pa.getD p 0 = -1 :=
  h.no p hp fun j hj e => by
    have := (firstN_at hj).2
    rw [e, hf] at this
    cases this
/-- Pieces in the row's order, as far as the first t places of it. -/
structure Pieces (s : List Int) (R : List Nat) (t : Nat) (P : List Nat) : Prop where
  row : P.map (fun (i : Nat) => (firstN s).getD i 0) = firOf s (R.take t)
  lt : ∀ i ∈ P, i < (firstN s).length
theorem Pieces.start (s : List Int) (R : List Nat) : Pieces s R 0 [] := ⟨rfl, fun i hi => by cases hi⟩
theorem Pieces.yes {s : List Int} {R P : List Nat} {t j : Nat} (h : Pieces s R t P) (ht : t < R.length) (hf : fsB s (R.getD t 0) = true) (hj : j < (firstN s).length) (ej : (firstN s).getD j 0 = R.getD t 0) : Pieces s R (t + 1) (P ++ [j]) := by
  refine ⟨?_, fun i hi => ?_⟩
  · rw [takeN_succ ht]
    unfold firOf
    rw [List.filter_append, List.map_append, h.row, List.filter_cons_of_pos hf, List.map_cons, ej]
    rfl
  · rcases List.mem_append.1 hi with g | g
    · exact h.lt i g
    · rw [List.mem_singleton.1 g]; exact hj
theorem Pieces.no {s : List Int} {R P : List Nat} {t : Nat} (h : Pieces s R t P) (ht : t < R.length) (hf : fsB s (R.getD t 0) = false) : Pieces s R (t + 1) P := by
  refine ⟨?_, h.lt⟩
  rw [takeN_succ ht, h.row]
  unfold firOf
  rw [List.filter_append, List.filter_cons_of_neg (by rw [hf]; simp), List.filter_nil, List.append_nil]
theorem Pieces.len {s : List Int} {R P : List Nat} {t : Nat} (h : Pieces s R t P) : P.length ≤ R.length := by
  have := congrArg List.length h.row
  rw [List.length_map] at this
  rw [this]
  unfold firOf
  exact Nat.le_trans (List.length_filter_le _ _) (by rw [List.length_take]; omega)

set_option maxHeartbeats 1000000 in
theorem byPieces_any (sv fv : Value) (s : List Int) (k : Int) (w : World) (hs : Sl .i64 w sv s) (hf : Sl .i64 w fv (natL (firstN s))) (hfit : fitB s k = true) (hlen : s.length ≤ 1000000) :
    Calls Tryz.prog 74 #[sv, .int .i64 k, fv] w fun e w' => ∃ u P R, e = .returned u ∧ R.Perm (List.range s.length) ∧ R.Pairwise (fun a b => cmpI (cutW s a) (cutW s b) ≤ 0) ∧ Pieces s R s.length P ∧ Own .i64 3 w.heap.size w' u (natL P) ∧ Ext w w' := by
  have HV := hide' hs
  have HF := hide' hf
  have HLEN := hide' hlen
  have hfl : (firstN s).length ≤ s.length := by have := firstN_half s; omega
  obtain ⟨a, c, rfl, _⟩ := hs
  obtain ⟨a', c', rfl, _⟩ := hf
  obtain ⟨_, _, _, hcf⟩ := HF.out.nat
  have CF := hide' hcf
  clear hcf
  have HLN := hide' (natL_len (firstN s))
  have HB : Hid (sortB s k (natL (firstN s)) = true) := sortB_iff.2 ⟨hfit, firB_iff.2 (List.Perm.refl _)⟩
  obtain ⟨R, hR1, hR2, hR3⟩ := indI_cut (F := firstN s) (Fits.of hfit) ⟨List.Perm.refl _⟩
  have HI : Hid (sortI s k (natL (firstN s)) = natL R) := by show _ = _; rw [sortI_yes HB.out, toN_nat, hR1]
  have HR2 := hide' hR2
  have HR3 := hide' hR3
  have HRL : Hid (R.length = s.length) := by show _ = _; rw [hR2.length_eq, List.length_range]
  have C := hide' (sort_any _ _ s (natL (firstN s)) k w HV.out HF.out hlen)
  rw [HB.out, HI.out] at C
  clear hR1 hR2 hR3 hfit
  obtain ⟨n, HN⟩ : ∃ n, Hid (s.length = n) := ⟨_, rfl⟩
  obtain ⟨f, HL⟩ : ∃ f, Hid ((firstN s).length = f) := ⟨_, rfl⟩
  rw [HLN.out] at HF CF C ⊢
  rw [HN.out] at hlen hfl C HRL ⊢
  rw [HL.out] at HF CF C hfl ⊢
  clear HV
  go_enter Tryz.func74, Tryz.ntmps74
  go_wp2_with fail
  refine C.out.mono ?_
  rintro e w1 ⟨u, rfl, ho, he⟩
  have SR := hide' ho.sl
  have E1 := hide' he
  clear ho he C
  obtain ⟨ra, rc, rfl, _⟩ := SR.out
  rw [natL_len, HRL.out] at SR ⊢
  obtain ⟨_, _, _, hcr⟩ := SR.out.nat
  have CR := hide' hcr
  clear hcr SR
  have E2 := hide' (E1.out.trans (ext_alloc w1 (.cells #[.int .i64 (-1)] 3)))
  have CP := hide' (repeat_any _ (-1) n (w1.alloc (.cells #[.int .i64 (-1)] 3)) (Sl.lit w1 [-1] 1 rfl (by unfold maxLen; omega)) (by omega))
  go_wp2_with fail
  refine CP.out.mono ?_
  rintro e w2 ⟨rfl, ho, he⟩
  have X2 := hide' ((ext_alloc w1 (.cells #[.int .i64 (-1)] 3)).trans he)
  obtain ⟨g, HG⟩ : ∃ g, Hid ((w1.alloc (.cells #[.int .i64 (-1)] 3)).heap.size = g) := ⟨_, rfl⟩
  have hg1 : w1.heap.size ≤ g := by rw [← HG.out]; simp
  rw [HG.out] at ho ⊢
  have O2 := hide' ho
  clear ho he CP E2
  have PA0 : Hid (PieceAt s 0 (List.replicate n (-1))) := by show PieceAt _ _ _; rw [← HN.out]; exact PieceAt.start s
  go_wp2
  go_loopw [29] (fun vi wr => ∃ (i : Nat) (pa : List Int), i ≤ f ∧ vi = .int .i64 i ∧ Hid (PieceAt s i pa) ∧ Hid (Own .i64 3 g wr (.slice (some ⟨g, 0, none⟩) n n) pa) ∧ Hid (Ext w1 wr)) (fun vi _ => f - (intOf vi).toNat)
  case atStart => exact ⟨0, _, Nat.zero_le _, rfl, PA0, O2, X2⟩
  case round =>
    clear O2 X2 PA0
    obtain ⟨i, pa, hi, rfl, PA, HO, HE⟩ := hrel
    have HPL : Hid (pa.length = n) := by show _ = _; rw [PA.out.len, HN.out]
    by_cases hlt : i < f
    · have hlt' : (i : Int) < f := by omega
      obtain ⟨g1, o1, rfl, k1⟩ := CF.out (by omega)
      have c1 := HE.out.cellOf (E1.out.cellOf (k1 i hlt))
      clear k1
      have PB := hide' (PA.out.next (by rw [HL.out]; exact hlt))
      have hp := (firstN_at (s := s) (i := i) (by rw [HL.out]; exact hlt)).1
      rw [HN.out] at hp
      obtain ⟨p, HP⟩ : ∃ p, Hid ((firstN s).getD i 0 = p) := ⟨_, rfl⟩
      rw [HP.out] at c1 PB hp
      have c2 := HO.out.cell HPL.out p hp
      have z2 := HO.out.frozen HPL.out p
      have O3 := hide' (HO.out.store HPL.out p (i : Int))
      have X3 : Hid (Ext w1 (wr.setCell ⟨g, p, none⟩ (.int .i64 (i : Int)))) := Ext.but HE.out hg1 (but_set _ _ _ _)
      have hp' : (p : Int) < n := by omega
      clear HO HE PA
      go_wp2
      go_roundw
      case rel => exact ⟨i + 1, _, by omega, by go_num, PB, O3, X3⟩
      case measure => simp [intOf] <;> omega
    · have d1 : decide ((i : Int) < f) = false := by simp; omega
      have hif : i = f := by omega
      have PB : Hid (PieceAt s (firstN s).length pa) := by show PieceAt _ _ _; rw [HL.out, ← hif]; exact PA.out
      obtain ⟨w3, hmk, ho, he⟩ := make_roomI wr f (by omega)
      have CP : Hid (∀ j, j < n → wr.cell? ⟨g, j, none⟩ = some (.int .i64 (pa.getD j 0))) := fun j hj => HO.out.cell HPL.out j hj
      have E3 := hide' (E1.out.trans HE.out)
      have E4 := hide' (HE.out)
      have O3 := hide' ho
      have X3 := hide' he
      have hz3 := E3.out.size
      clear ho he HO HE PA hif
      go_wp2
      generalize HGW : wr = W at *
      clear HGW
      go_loopw [12, 44] (fun ov vi wq => ∃ (i : Nat) (P : List Nat), i ≤ n ∧ vi = .int .i64 i ∧ Hid (Pieces s R i P) ∧ Hid (Own .i64 3 W.heap.size wq ov (natL P)) ∧ Hid (Ext W wq)) (fun _ vi _ => n - (intOf vi).toNat)
      case atStart => exact ⟨0, [], Nat.zero_le _, rfl, Pieces.start _ _, O3, X3⟩
      case round =>
        clear O3 X3 hmk
        obtain ⟨i, P, hi, rfl, PP, HO, HE⟩ := hrel
        have hsz := HE.out.size
        by_cases hlt : i < n
        · have hlt' : (i : Int) < n := by omega
          obtain ⟨g1, o1, rfl, k1⟩ := CR.out (by omega)
          have c1 := HE.out.cellOf (E4.out.cellOf (k1 i hlt))
          clear k1
          have hiR : i < R.length := by rw [HRL.out]; exact hlt
          have hp := List.mem_range.1 (HR2.out.mem_iff.1 (getN_mem hiR))
          have HPL : Hid ((natL P).length ≤ 1000000) := by
            show _ ≤ _
            rw [natL_len]
            have := PP.out.len
            rw [HRL.out] at this
            omega
          have c2 := HE.out.cellOf (CP.out (R.getD i 0) (by rw [← HN.out]; exact hp))
          cases hfs : fsB s (R.getD i 0)
          · have HPN := hide' (PP.out.no hiR hfs)
            rw [PB.out.other hp hfs] at c2
            rw [HN.out] at hp
            obtain ⟨p, HP⟩ : ∃ p, Hid (R.getD i 0 = p) := ⟨_, rfl⟩
            rw [HP.out] at c1 c2 hp
            have hp' : (p : Int) < n := by omega
            clear hfs hiR PP
            go_wp2
            go_roundw
            case rel => exact ⟨i + 1, P, by omega, by go_num, HPN, HO, HE⟩
            case measure => simp [intOf] <;> omega
          · obtain ⟨j, hj1, hj2, hj3⟩ := PB.out.first hp hfs
            have HPN := hide' (PP.out.yes hiR hfs hj1 hj2)
            rw [hj3] at c2
            rw [HN.out] at hp
            obtain ⟨p, HP⟩ : ∃ p, Hid (R.getD i 0 = p) := ⟨_, rfl⟩
            rw [HP.out] at c1 c2 hp
            have hp' : (p : Int) < n := by omega
            have hj4 : ((j : Int) == -1) = false := by simp
            have hj5 : ((j : Int) != -1) = true := by simp
            clear hfs hiR hj1 hj2 hj3 PP
            go_wp2_with (at_builtin; refine wpList_snoc _ rfl _ _ 32 rfl 3 .i64 8 Tryz.underlying32 infoI64 W.heap.size _ (natL P) (j : Int) ⟨wr.heap.size, 0, none⟩ rfl rfl ?c4 (HO.out.alloc _) ?c3 ?c5 ?_)
            case c3 => have := HPL.out; unfold maxLen; omega
            case c5 => simp; omega
            case c4 => simp only [World.cell?, heap_alloc_top]; simp
            intro v1 w4 ho1 hb1
            have HO1 : Hid (Own .i64 3 W.heap.size w4 v1 (natL (P ++ [j]))) := by rw [← natL_snoc]; exact ho1
            have HE1 : Hid (Ext W w4) := Below.trans (HE.out.trans (ext_alloc _ _)) hb1
            clear ho1 hb1
            go_wp2
            go_roundw
            case rel => exact ⟨i + 1, _, by omega, by go_num, HPN, HO1, HE1⟩
            case measure => simp [intOf] <;> omega
        · have d1 : decide ((i : Int) < n) = false := by simp; omega
          have hin : n = i := by omega
          go_wp2
          go_ret
          exact ⟨_, P, R, rfl, by have := HR2.out; rw [HN.out] at this; exact this, HR3.out, by have := PP.out; rw [← hin] at this; exact this, HO.out.low hz3, E3.out.trans HE.out⟩
end Go.Proofs.YtlmbdafilboblaaGreat

/- Contract of sais.nameAll: names of the pieces. -/
namespace Go.Proofs.YtlmbdafilboblaaGreat
set_option linter.unusedVariables false
set_option linter.unusedSimpArgs false
open Go.RowKit

/-- Pieces, each once, in some order, and the places at which they begin. -/
structure Ordd (s : List Int) (P G : List Nat) : Prop where
  len : P.length = (firstN s).length
  nodup : P.Nodup
  lt : ∀ i ∈ P, i < (firstN s).length
  place : P.map (fun (i : Nat) => (firstN s).getD i 0) = G
theorem Ordd.at {s : List Int} {P G : List Nat} (h : Ordd s P G) {t : Nat} (ht : t < P.length) : P.getD t 0 < (firstN s).length ∧ (firstN s).getD (P.getD t 0) 0 = G.getD t 0 := by
  refine ⟨h.lt _ (getN_mem ht), ?_⟩
  rw [← h.place]
  simp [List.getD, ht]
theorem Ordd.of {s : List Int} {R P : List Nat} (hR : R.Perm (List.range s.length)) (h : Pieces s R s.length P) : Ordd s P (firOf s R) := by
  have hl : R.length = s.length := by rw [hR.length_eq, List.length_range]
  have hr := h.row
  rw [List.take_of_length_le (by omega)] at hr
  have hp := firOf_perm (s := s) hR
  refine ⟨?_, ?_, h.lt, hr⟩
  · have := congrArg List.length hr
    rw [List.length_map] at this
    rw [this, hp.length_eq]
  · have hn : (P.map fun (i : Nat) => (firstN s).getD i 0).Nodup := by rw [hr]; exact hp.nodup_iff.2 (firstN_nodup s)
    exact (List.pairwise_map.1 hn).imp fun h e => h (by rw [e])
/-- Names as far as the first i pieces of the row. -/
structure Named (s : List Int) (P G : List Nat) (i : Nat) (N : List Int) (c : Nat) : Prop where
  len : N.length = P.length
  name : ∀ t, t < i → N.getD (P.getD t 0) 0 = (nmG s G t : Int)
  zero : i = 0 → c = 0
  count : ∀ t, i = t + 1 → c = nmG s G t + 1
theorem Named.start (s : List Int) (P G : List Nat) : Named s P G 0 (List.replicate P.length 0) 0 := ⟨List.length_replicate, fun t h => by omega, fun _ => rfl, fun t h => by omega⟩
theorem Named.next {s : List Int} {P G : List Nat} {i c : Nat} {N : List Int} (h : Named s P G i N c) (ho : Ordd s P G) (hi : i < P.length) : Named s P G (i + 1) (N.set (P.getD i 0) (nmG s G i : Int)) (nmG s G i + 1) := by
  have hlt : P.getD i 0 < N.length := by rw [h.len, ho.len]; exact (ho.at hi).1
  refine ⟨by rw [List.length_set]; exact h.len, fun t ht => ?_, fun h0 => by omega, fun t ht => by rw [show i = t by omega]⟩
  by_cases e : t = i
  · subst e
    rw [setI_same hlt]
  · rw [setI_other (fun e2 => e (nodup_getN ho.nodup (by omega) hi e2.symm))]
    exact h.name t (by omega)
theorem Named.le {s : List Int} {P G : List Nat} {i c : Nat} {N : List Int} (h : Named s P G i N c) : c ≤ i := by
  by_cases h0 : i = 0
  · rw [h.zero h0]; omega
  · rw [h.count (i - 1) (by omega)]
    have := nmG_le s G (i - 1)
    omega

set_option maxHeartbeats 1000000 in
theorem nameAll_any (sv fv pv : Value) (s : List Int) (P G : List Nat) (w : World) (hs : Sl .i64 w sv s) (hf : Sl .i64 w fv (natL (firstN s))) (hp : Sl .i64 w pv (natL P)) (hod : Ordd s P G) (hlen : s.length ≤ 1000000) :
    Calls Tryz.prog 75 #[sv, fv, pv] w fun e w' => ∃ (u : Value) (N : List Int) (c : Nat), e = .returned (.tuple #[u, .int .i64 c]) ∧ Named s P G P.length N c ∧ Own .i64 3 w.heap.size w' u N ∧ Ext w w' := by
  have HV := hide' hs
  have HF := hide' hf
  have HLEN := hide' hlen
  have HOD := hide' hod
  have hfl : P.length ≤ s.length := by rw [hod.len]; have := firstN_half s; omega
  obtain ⟨pa, pc, rfl, _⟩ := id hp
  rw [natL_len] at hp ⊢
  obtain ⟨_, _, _, hcp⟩ := hp.nat
  have CP := hide' hcp
  obtain ⟨f, HL⟩ : ∃ f, Hid (P.length = f) := ⟨_, rfl⟩
  have HFF : Hid ((firstN s).length = f) := by show _ = _; rw [← hod.len]; exact HL.out
  rw [HL.out] at hfl CP ⊢
  obtain ⟨w1, hmk, ho, he⟩ := make_ints w f (by omega)
  obtain ⟨g, HG⟩ : ∃ g, Hid (w.heap.size = g) := ⟨_, rfl⟩
  have hgw : w.heap.size ≤ g := by rw [HG.out]; exact Nat.le_refl _
  rw [HG.out] at ho hmk ⊢
  have O1 := hide' ho
  have X1 := hide' he
  have N0 : Hid (Named s P G 0 (List.replicate f 0) 0) := by show Named _ _ _ _ _ _; rw [← HL.out]; exact Named.start s P G
  clear ho he hp hcp hod hs hf
  go_enter Tryz.func75, Tryz.ntmps75
  go_wp2
  go_loopw [7, 15] (fun vc vi wr => ∃ (i c : Nat) (N : List Int), i ≤ f ∧ vi = .int .i64 i ∧ vc = .int .i64 c ∧ Hid (Named s P G i N c) ∧ Hid (Own .i64 3 g wr (.slice (some ⟨g, 0, none⟩) f f) N) ∧ Hid (Ext w wr)) (fun _ vi _ => f - (intOf vi).toNat)
  case atStart => exact ⟨0, 0, _, Nat.zero_le _, rfl, rfl, N0, O1, X1⟩
  case round =>
    clear O1 X1 N0 hmk
    obtain ⟨i, c, N, hi, rfl, rfl, HN, HO, HE⟩ := hrel
    have HNL : Hid (N.length = f) := by show _ = _; rw [HN.out.len, HL.out]
    by_cases hlt : i < f
    · have hlt' : (i : Int) < f := by omega
      have hiP : i < P.length := by rw [HL.out]; exact hlt
      have N1 := hide' (HN.out.next HOD.out hiP)
      have hp1 := (HOD.out.at hiP).1
      rw [HFF.out] at hp1
      obtain ⟨g1, o1, rfl, k1⟩ := CP.out (by omega)
      have K1 := hide' k1
      have c1 := HE.out.cellOf (k1 i hlt)
      have hm := nmG_le s G i
      obtain ⟨p, HP⟩ : ∃ p, Hid (P.getD i 0 = p) := ⟨_, rfl⟩
      obtain ⟨m, HM⟩ : ∃ m, Hid (nmG s G i = m) := ⟨_, rfl⟩
      rw [HP.out] at c1 N1 hp1
      rw [HM.out] at N1 hm
      have hp1' : (p : Int) < f := by omega
      clear k1 hiP
      have fin : Hid (∀ wr', Ext wr wr' → wr'.cell? ⟨g, p, none⟩ = some (.int .i64 (N.getD p 0)) ∧ wr'.frozen? ⟨g, p, none⟩ = false ∧ Own .i64 3 g (wr'.setCell ⟨g, p, none⟩ (.int .i64 (m : Int))) (.slice (some ⟨g, 0, none⟩) f f) (N.set p (m : Int)) ∧ Ext w (wr'.setCell ⟨g, p, none⟩ (.int .i64 (m : Int)))) := fun wr' hx => by
        have h1 := HO.out.ext hx
        exact ⟨h1.cell HNL.out p hp1, h1.frozen HNL.out p, h1.store HNL.out p _, Ext.but (HE.out.trans hx) hgw (but_set _ _ _ _)⟩
      by_cases hi0 : i = 0
      · have hc0 := HN.out.zero hi0
        have hcm : m = c := by omega
        subst hcm
        have d0 : ((i : Int) == 0) = true := by simp; omega
        have e5 : ((m : Int) + 1) - 1 = (m : Int) := by omega
        clear hi0 hc0
        obtain ⟨z1, z2, z3, z4⟩ := fin.out wr (Ext.refl _)
        have Z3 := hide' z3
        have Z4 := hide' z4
        clear z3 z4 HO HE fin HN
        go_wp2
        go_roundw
        case rel => exact ⟨i + 1, m + 1, _, by omega, by go_num, by go_num, N1, Z3, Z4⟩
        case measure => simp [intOf] <;> omega
      · obtain ⟨j, HJ⟩ : ∃ j, Hid (i = j + 1) := ⟨i - 1, by show _ = _; omega⟩
        have hj : (i : Int) - 1 = (j : Int) := by have := HJ.out; omega
        have hjf : j < f := by have := HJ.out; omega
        have hjf' : (j : Int) < f := by omega
        have d0 : ((i : Int) == 0) = false := by simp; omega
        have hjP : j < P.length := by rw [HL.out]; exact hjf
        have c2 := HE.out.cellOf (K1.out j hjf)
        have hq1 := (HOD.out.at hjP).1
        have HCC := hide' (HN.out.count j HJ.out)
        have HAB : Hid (alikeB s (P.getD j 0) p = decide (cutW s (G.getD j 0) = cutW s (G.getD (j + 1) 0))) := by
          show _ = _
          have a1 := HOD.out.at hjP
          have a2 := HOD.out.at (t := j + 1) (by rw [HL.out, ← HJ.out]; exact hlt)
          have e : P.getD (j + 1) 0 = p := by rw [← HJ.out]; exact HP.out
          rw [e] at a2
          rw [alikeB_cut a1.1 a2.1 (fun e2 => by
            have := nodup_getN HOD.out.nodup hjP (show j + 1 < P.length by rw [HL.out, ← HJ.out]; exact hlt) (by rw [e, e2])
            omega), a1.2, a2.2]
        have CA := hide' (toExt (saAlike_any sv fv s (P.getD j 0) p wr (HV.out.ext HE.out) (HF.out.ext HE.out) hq1 (by rw [HFF.out]; exact hp1) HLEN.out))
        rw [HAB.out] at CA
        obtain ⟨q, HQ⟩ : ∃ q, Hid (P.getD j 0 = q) := ⟨_, rfl⟩
        rw [HQ.out] at c2 CA
        by_cases hcut : cutW s (G.getD j 0) = cutW s (G.getD (j + 1) 0)
        · have hcm : c = m + 1 := by rw [HCC.out, ← HM.out, HJ.out, nmG_same hcut]
          subst hcm
          rw [decide_eq_true hcut] at CA
          have e5 : ((m + 1 : Nat) : Int) - 1 = (m : Int) := by omega
          clear hcut hi0 HN HQ hq1 hjP HCC HAB
          go_wp2_with fail
          refine CA.out.mono ?_
          rintro e wr' ⟨rfl, hx⟩
          obtain ⟨z1, z2, z3, z4⟩ := fin.out wr' hx
          have Z3 := hide' z3
          have Z4 := hide' z4
          clear z3 z4 HO HE fin hx CA
          go_wp2
          go_roundw
          case rel => exact ⟨i + 1, m + 1, _, by omega, by go_num, by go_num, N1, Z3, Z4⟩
          case measure => simp [intOf] <;> omega
        · have hcm : m = c := by rw [HCC.out, ← HM.out, HJ.out, nmG_other hcut]
          subst hcm
          rw [decide_eq_false hcut] at CA
          have e5 : ((m : Int) + 1) - 1 = (m : Int) := by omega
          clear hcut hi0 HN HQ hq1 hjP HCC HAB
          go_wp2_with fail
          refine CA.out.mono ?_
          rintro e wr' ⟨rfl, hx⟩
          obtain ⟨z1, z2, z3, z4⟩ := fin.out wr' hx
          have Z3 := hide' z3
          have Z4 := hide' z4
          clear z3 z4 HO HE fin hx CA
          go_wp2
          go_roundw
          case rel => exact ⟨i + 1, m + 1, _, by omega, by go_num, by go_num, N1, Z3, Z4⟩
          case measure => simp [intOf] <;> omega
    · have d1 : decide ((i : Int) < f) = false := by simp; omega
      have hin : f = i := by omega
      go_wp2
      first | go_ret2 | go_ret
      exact ⟨_, N, c, rfl, by have := HN.out; rw [← hin] at this; exact this, HO.out, HE.out⟩
end Go.Proofs.YtlmbdafilboblaaGreat

/- Contracts of sais.order and firstInOrder: endings in order, by induction on how many numbers there are. -/
namespace Go.Proofs.YtlmbdafilboblaaGreat
set_option linter.unusedVariables false
set_option linter.unusedSimpArgs false
open Go.RowKit

theorem nmG_add (s : List Int) (G : List Nat) (t : Nat) : ∀ d, nmG s G (t + d) ≤ nmG s G t + d := by
  intro d
  induction d with
  | zero => exact Nat.le_refl _
  | succ d ih =>
    show nmG s G (t + d) + _ ≤ _
    split <;> omega
theorem Named.all {s N : List Int} {P G : List Nat} {c : Nat} (h : Named s P G P.length N c) (ho : Ordd s P G) (hp : G.Perm (firstN s)) : ∀ t i, t < G.length → i < N.length → G.getD t 0 = (firstN s).getD i 0 → N.getD i 0 = (nmG s G t : Int) := by
  intro t i ht hi e
  have hl : G.length = P.length := by rw [← ho.place, List.length_map]
  have h1 := ho.at (t := t) (by omega)
  rw [← h.name t (by omega)]
  congr 1
  have hi2 : i < (firstN s).length := by rw [← ho.len, ← h.len]; exact hi
  rcases Nat.lt_trichotomy i (P.getD t 0) with g | g | g
  · have := firstN_lt s g h1.1
    omega
  · exact g
  · have := firstN_lt s g hi2
    omega
theorem Named.names {s N : List Int} {P G : List Nat} {c : Nat} (h : Named s P G P.length N c) (ho : Ordd s P G) (hp : G.Perm (firstN s)) (hc : G.Pairwise (fun a b => cmpI (cutW s a) (cutW s b) ≤ 0)) : Names s N :=
  names_of hp hc (by rw [h.len, ho.len]) (h.all ho hp)
theorem Named.fit {s N : List Int} {P G : List Nat} {c : Nat} (h : Named s P G P.length N c) (ho : Ordd s P G) (hp : G.Perm (firstN s)) (hl : P.length ≤ 1000000) : fitB N (c : Int) = true := by
  have hG : G.length = P.length := by rw [← ho.place, List.length_map]
  refine fitB_iff.2 ⟨by omega, by have := h.le; omega, goodI_iff.2 fun z hz => ?_⟩
  obtain ⟨i, hi, rfl⟩ := List.getElem_of_mem hz
  have hi2 : i < (firstN s).length := by rw [← ho.len, ← h.len]; exact hi
  obtain ⟨t, ht, et⟩ := mem_getN (hp.mem_iff.2 (getN_mem hi2))
  have h1 := h.all ho hp t i ht hi et
  have h2 : N.getD i 0 = N[i] := by simp [List.getD, hi]
  rw [← h2, h1, h.count (P.length - 1) (by omega)]
  have := nmG_mono s G (show t ≤ P.length - 1 by omega)
  omega
theorem Named.apart {s N : List Int} {P G : List Nat} {c : Nat} (h : Named s P G P.length N c) (hl : G.length = P.length) (hc : P.length ≤ c) : ∀ t, t + 1 < G.length → cutW s (G.getD t 0) ≠ cutW s (G.getD (t + 1) 0) := fun t ht e => by
  have h1 := h.count (P.length - 1) (by omega)
  have h2 := nmG_add s G (t + 1) (P.length - 1 - (t + 1))
  rw [show t + 1 + (P.length - 1 - (t + 1)) = P.length - 1 by omega, nmG_same e] at h2
  have h3 := nmG_le s G t
  omega

/-- A row as far as it is laid. -/
structure Half (F Q : List Nat) (i : Nat) (r : List Nat) : Prop where
  len : r.length = Q.length
  at' : ∀ t, t < i → r.getD t 0 = F.getD (Q.getD t 0) 0
theorem Half.start (F Q : List Nat) : Half F Q 0 (List.replicate Q.length 0) := ⟨List.length_replicate, fun t h => by omega⟩
theorem Half.next {F Q r : List Nat} {i : Nat} (h : Half F Q i r) (hi : i < Q.length) : Half F Q (i + 1) (r.set i (F.getD (Q.getD i 0) 0)) := by
  refine ⟨by rw [List.length_set]; exact h.len, fun t ht => ?_⟩
  by_cases e : t = i
  · subst e
    rw [set_same (by rw [h.len]; exact hi)]
  · rw [set_other (by omega)]
    exact h.at' t (by omega)
theorem Half.done {F Q r : List Nat} (h : Half F Q Q.length r) : r = Q.map fun (i : Nat) => F.getD i 0 :=
  natL_ext (by rw [h.len, List.length_map]) fun i hi => by
    rw [h.len] at hi
    rw [h.at' i hi]
    simp [List.getD, hi]

/-- What order answers, of fewer than n numbers. -/
def OrderOK (n : Nat) : Prop := ∀ (sv : Value) (s : List Int) (k : Int) (w : World), s.length < n → Sl .i64 w sv s → fitB s k = true → s.length ≤ 1000000 →
  Calls Tryz.prog 42 #[sv, .int .i64 k] w fun e w' => ∃ u R, e = .returned u ∧ InOrd s R ∧ Own .i64 3 w.heap.size w' u (natL R) ∧ Ext w w'

set_option maxHeartbeats 2000000 in
theorem firstInOrder_any {n : Nat} (IH : Hid (OrderOK n)) (sv : Value) (s : List Int) (k : Int) (w : World) (hsn : s.length ≤ n) (hs : Sl .i64 w sv s) (hfit : fitB s k = true) (hlen : s.length ≤ 1000000) :
    Calls Tryz.prog 58 #[sv, .int .i64 k] w fun e w' => ∃ u F, e = .returned u ∧ F.Perm (firstN s) ∧ F.Pairwise (ltE s) ∧ Own .i64 3 w.heap.size w' u (natL F) ∧ Ext w w' := by
  have HV := hide' hs
  have HLEN := hide' hlen
  have HFIT := hide' hfit
  have HSN := hide' hsn
  have hhalf := firstN_half s
  have HHALF := hide' hhalf
  clear hs hfit hsn
  have C1 := hide' (first_any sv s w HV.out hlen)
  obtain ⟨f, HF⟩ : ∃ f, Hid ((firstN s).length = f) := ⟨_, rfl⟩
  rw [HF.out] at hhalf
  have hf : f ≤ 1000000 := by omega
  clear hhalf hlen
  go_enter Tryz.func58, Tryz.ntmps58
  go_wp2_with fail
  refine C1.out.mono ?_
  rintro e w1 ⟨fv, rfl, ho, he⟩
  have OF := hide' ho
  have X1 := hide' he
  have SF := hide' ho.sl
  clear ho he C1
  obtain ⟨fa, fc, rfl, _⟩ := SF.out
  rw [natL_len, HF.out] at OF SF ⊢
  by_cases hf2 : f < 2
  · have d1 : ((f : Int) < 2) := by omega
    have HFL : Hid ((firstN s).length ≤ 1) := by show _ ≤ _; rw [HF.out]; omega
    clear hf2
    go_wp2
    go_ret
    refine ⟨_, firstN s, rfl, List.Perm.refl _, ?_, OF.out, X1.out⟩
    rw [List.pairwise_iff_getElem]
    intro i j hi hj hij
    have := HFL.out
    omega
  · have d1 : decide ((f : Int) < 2) = false := by simp; omega
    have HF2 := hide' hf2
    clear OF
    go_wp2_with fail
    refine (byPieces_any _ _ s k w1 (HV.out.ext X1.out) SF.out HFIT.out HLEN.out).mono ?_
    rintro e w2 ⟨pv, P, R, rfl, hR1, hR2, hP, ho, he⟩
    have HOD := hide' (Ordd.of hR1 hP)
    obtain ⟨G, HGG⟩ : ∃ G, Hid (firOf s R = G) := ⟨_, rfl⟩
    have HGP := hide' (firOf_perm (s := s) hR1)
    have HGC := hide' (firOf_cut (s := s) hR2)
    rw [HGG.out] at HOD HGP HGC
    have OP := hide' ho
    have SP := hide' ho.sl
    have X2 := hide' (X1.out.trans he)
    have SF2 := hide' (SF.out.ext he)
    clear ho he hR1 hR2 hP SF HGG X1
    go_wp2_with fail
    refine (nameAll_any _ _ _ s P G w2 (HV.out.ext X2.out) SF2.out SP.out HOD.out HLEN.out).mono ?_
    rintro e w3 ⟨nv, N, c, rfl, hN, ho, he⟩
    have HNM := hide' hN
    have SN := hide' ho.sl
    have X3 := hide' (X2.out.trans he)
    have SF3 := hide' (SF2.out.ext he)
    have SP3 := hide' (SP.out.ext he)
    have HPL : Hid (P.length = f) := by show _ = _; rw [HOD.out.len, HF.out]
    have hcf : c ≤ f := by have := hN.le; rw [HPL.out] at this; exact this
    clear ho he hN SF2 SP X2 OP
    by_cases hc : c < f
    · have hc' : ((c : Int) < f) := by omega
      have HGL : Hid (G.length = P.length) := by show _ = _; rw [HGP.out.length_eq, HOD.out.len]
      have HNN := hide' (HNM.out.names HOD.out HGP.out HGC.out)
      have HFT := hide' (HNM.out.fit HOD.out HGP.out (by rw [HPL.out]; exact hf))
      have hNl : N.length = f := by rw [HNM.out.len, HPL.out]
      have CO := hide' (IH.out _ N (c : Int) w3 (by rw [hNl]; have := HSN.out; have := HHALF.out; rw [HF.out] at this; omega) SN.out HFT.out (by rw [hNl]; exact hf))
      have HNL := hide' hNl
      clear hNl
      go_wp2_with fail
      refine CO.out.mono ?_
      rintro e w4 ⟨qv, Q, rfl, hQ, ho, he⟩
      have HPP := hide' (red_ord HNN.out hQ).1
      have HPW := hide' (red_ord HNN.out hQ).2
      have HQL : Hid (Q.length = f) := by show _ = _; rw [hQ.len, HNL.out]
      have HQM : Hid (∀ i, i < f → Q.getD i 0 < f) := fun i hi => by have := hQ.mem (i := i) (by rw [HNL.out]; exact hi); rw [HNL.out] at this; exact this
      have SQ := hide' ho.sl
      have X4 := hide' (X3.out.trans he)
      have SF4 := hide' (SF3.out.ext he)
      clear ho he hQ CO SF3 SP3 X3 SN
      obtain ⟨qa, qc, rfl, _⟩ := SQ.out
      rw [natL_len, HQL.out] at SQ ⊢
      obtain ⟨_, _, _, hcq⟩ := SQ.out.nat
      have CQ := hide' hcq
      obtain ⟨_, _, _, hcf⟩ := SF4.out.nat
      have CF := hide' hcf
      obtain ⟨w5, hmk, ho, he⟩ := make_nats w4 f hf
      have hz4 := X4.out.size
      have O5 := hide' ho
      have X5 := hide' he
      have H0 : Hid (Half (firstN s) Q 0 (List.replicate f 0)) := by show Half _ _ _ _; rw [← HQL.out]; exact Half.start _ _
      obtain ⟨g, HG⟩ : ∃ g, Hid (w4.heap.size = g) := ⟨_, rfl⟩
      have hgw : w4.heap.size ≤ g := by rw [HG.out]; exact Nat.le_refl _
      rw [HG.out] at O5 hmk
      clear ho he hcq hcf SQ SF4
      go_wp2
      go_loopw [41] (fun vi wr => ∃ (i : Nat) (r : List Nat), i ≤ f ∧ vi = .int .i64 i ∧ Hid (Half (firstN s) Q i r) ∧ Hid (Own .i64 3 g wr (.slice (some ⟨g, 0, none⟩) f f) (natL r)) ∧ Hid (Ext w4 wr)) (fun vi _ => f - (intOf vi).toNat)
      case atStart => exact ⟨0, _, Nat.zero_le _, rfl, H0, O5, X5⟩
      case round =>
        clear O5 X5 H0 hmk
        obtain ⟨i, r, hi, rfl, HH, HO, HE⟩ := hrel
        have HRL : Hid (r.length = f) := by show _ = _; rw [HH.out.len, HQL.out]
        have HRN : Hid ((natL r).length = f) := by show _ = _; rw [natL_len, HRL.out]
        by_cases hlt : i < f
        · have hlt' : (i : Int) < f := by omega
          have H1 := hide' (HH.out.next (by rw [HQL.out]; exact hlt))
          obtain ⟨g1, o1, rfl, k1⟩ := CQ.out (by omega)
          have c1 := HE.out.cellOf (k1 i hlt)
          obtain ⟨g2, o2, rfl, k2⟩ := CF.out (by omega)
          have hq := HQM.out i hlt
          have c2 := HE.out.cellOf (k2 (Q.getD i 0) hq)
          obtain ⟨q, HQ⟩ : ∃ q, Hid (Q.getD i 0 = q) := ⟨_, rfl⟩
          rw [HQ.out] at c1 c2 hq H1
          obtain ⟨x, HX⟩ : ∃ x, Hid ((firstN s).getD q 0 = x) := ⟨_, rfl⟩
          rw [HX.out] at c2 H1
          have hq' : (q : Int) < f := by omega
          have c3 := HO.out.cell HRN.out i hlt
          have z3 := HO.out.frozen HRN.out i
          have O6 := hide' (HO.out.storeN HRL.out i x)
          have X6 : Hid (Ext w4 (wr.setCell ⟨g, i, none⟩ (.int .i64 (x : Int)))) := Ext.but HE.out hgw (but_set _ _ _ _)
          clear k1 k2 HO HE HH
          go_wp2
          go_roundw
          case rel => exact ⟨i + 1, _, by omega, by go_num, H1, O6, X6⟩
          case measure => simp [intOf] <;> omega
        · have d2 : decide ((i : Int) < f) = false := by simp; omega
          have hin : f = i := by omega
          have HD : Hid (r = Q.map fun (i : Nat) => (firstN s).getD i 0) := by
            show _ = _
            have := HH.out
            rw [← hin, ← HQL.out] at this
            exact this.done
          go_wp2
          go_ret
          refine ⟨_, r, rfl, by rw [HD.out]; exact HPP.out, by rw [HD.out]; exact HPW.out, ?_, X4.out.trans HE.out⟩
          exact HO.out.low (by have := X4.out.size; have := HG.out; omega)
    · have hc' : decide ((c : Int) < f) = false := by simp; omega
      have HGL : Hid (G.length = P.length) := by show _ = _; rw [HGP.out.length_eq, HOD.out.len]
      have HPP : Hid ((P.map fun (i : Nat) => (firstN s).getD i 0).Perm (firstN s)) := by show List.Perm _ _; rw [HOD.out.place]; exact HGP.out
      have HPW : Hid ((P.map fun (i : Nat) => (firstN s).getD i 0).Pairwise (ltE s)) := by
        show List.Pairwise _ _
        rw [HOD.out.place]
        exact firOf_ord HGP.out HGC.out (HNM.out.apart HGL.out (by rw [HPL.out]; omega))
      obtain ⟨Q, HQQ⟩ : ∃ Q, Hid (P = Q) := ⟨_, rfl⟩
      have HQM : Hid (∀ i, i < f → P.getD i 0 < f) := fun i hi => by have := (HOD.out.at (t := i) (by rw [HPL.out]; exact hi)).1; rw [HF.out] at this; exact this
      have HQL := HPL
      rw [HQQ.out] at HPP HPW HQM HQL
      have SQ := SP3
      rw [HQQ.out] at SQ
      obtain ⟨qv, HQV⟩ : ∃ v, Hid (pv = v) := ⟨_, rfl⟩
      rw [HQV.out] at SQ ⊢
      have X4 := X3
      have SF4 := SF3
      clear SF3 SP3 X3 SN
      obtain ⟨qa, qc, rfl, _⟩ := SQ.out
      rw [natL_len, HQL.out] at SQ ⊢
      obtain ⟨_, _, _, hcq⟩ := SQ.out.nat
      have CQ := hide' hcq
      obtain ⟨_, _, _, hcf⟩ := SF4.out.nat
      have CF := hide' hcf
      obtain ⟨w5, hmk, ho, he⟩ := make_nats w3 f hf
      have hz4 := X4.out.size
      have O5 := hide' ho
      have X5 := hide' he
      have H0 : Hid (Half (firstN s) Q 0 (List.replicate f 0)) := by show Half _ _ _ _; rw [← HQL.out]; exact Half.start _ _
      obtain ⟨g, HG⟩ : ∃ g, Hid (w3.heap.size = g) := ⟨_, rfl⟩
      have hgw : w3.heap.size ≤ g := by rw [HG.out]; exact Nat.le_refl _
      rw [HG.out] at O5 hmk
      clear ho he hcq hcf SQ SF4
      go_wp2
      go_loopw [41] (fun vi wr => ∃ (i : Nat) (r : List Nat), i ≤ f ∧ vi = .int .i64 i ∧ Hid (Half (firstN s) Q i r) ∧ Hid (Own .i64 3 g wr (.slice (some ⟨g, 0, none⟩) f f) (natL r)) ∧ Hid (Ext w3 wr)) (fun vi _ => f - (intOf vi).toNat)
      case atStart => exact ⟨0, _, Nat.zero_le _, rfl, H0, O5, X5⟩
      case round =>
        clear O5 X5 H0 hmk
        obtain ⟨i, r, hi, rfl, HH, HO, HE⟩ := hrel
        have HRL : Hid (r.length = f) := by show _ = _; rw [HH.out.len, HQL.out]
        have HRN : Hid ((natL r).length = f) := by show _ = _; rw [natL_len, HRL.out]
        by_cases hlt : i < f
        · have hlt' : (i : Int) < f := by omega
          have H1 := hide' (HH.out.next (by rw [HQL.out]; exact hlt))
          obtain ⟨g1, o1, rfl, k1⟩ := CQ.out (by omega)
          have c1 := HE.out.cellOf (k1 i hlt)
          obtain ⟨g2, o2, rfl, k2⟩ := CF.out (by omega)
          have hq := HQM.out i hlt
          have c2 := HE.out.cellOf (k2 (Q.getD i 0) hq)
          obtain ⟨q, HQ⟩ : ∃ q, Hid (Q.getD i 0 = q) := ⟨_, rfl⟩
          rw [HQ.out] at c1 c2 hq H1
          obtain ⟨x, HX⟩ : ∃ x, Hid ((firstN s).getD q 0 = x) := ⟨_, rfl⟩
          rw [HX.out] at c2 H1
          have hq' : (q : Int) < f := by omega
          have c3 := HO.out.cell HRN.out i hlt
          have z3 := HO.out.frozen HRN.out i
          have O6 := hide' (HO.out.storeN HRL.out i x)
          have X6 : Hid (Ext w3 (wr.setCell ⟨g, i, none⟩ (.int .i64 (x : Int)))) := Ext.but HE.out hgw (but_set _ _ _ _)
          clear k1 k2 HO HE HH
          go_wp2
          go_roundw
          case rel => exact ⟨i + 1, _, by omega, by go_num, H1, O6, X6⟩
          case measure => simp [intOf] <;> omega
        · have d2 : decide ((i : Int) < f) = false := by simp; omega
          have hin : f = i := by omega
          have HD : Hid (r = Q.map fun (i : Nat) => (firstN s).getD i 0) := by
            show _ = _
            have := HH.out
            rw [← hin, ← HQL.out] at this
            exact this.done
          go_wp2
          go_ret
          refine ⟨_, r, rfl, by rw [HD.out]; exact HPP.out, by rw [HD.out]; exact HPW.out, ?_, X4.out.trans HE.out⟩
          exact HO.out.low (by have := X4.out.size; have := HG.out; omega)

theorem order_any : ∀ n, OrderOK n := by
  intro n
  induction n with
  | zero => intro sv s k w h; omega
  | succ n ih =>
    intro sv s k w hn hs hfit hlen
    have IH := hide' ih
    have HV := hide' hs
    have HLEN := hide' hlen
    have HFIT := hide' hfit
    have CF := hide' (firstInOrder_any IH sv s k w (by omega) hs hfit hlen)
    clear hs hfit hlen hn
    go_enter Tryz.func42, Tryz.ntmps42
    go_wp2_with fail
    refine CF.out.mono ?_
    rintro e w1 ⟨u, F, rfl, hp, hw, ho, he⟩
    have HB : Hid (sortB s k (natL F) = true) := sortB_iff.2 ⟨HFIT.out, firB_iff.2 (hp.map _)⟩
    obtain ⟨R, hR1, hR2⟩ := sais_ord (Fits.of HFIT.out) hp hw
    have HI : Hid (sortI s k (natL F) = natL R) := by show _ = _; rw [sortI_yes HB.out, toN_nat, hR1]
    have HR := hide' hR2
    have SU := hide' ho.sl
    have X1 := hide' he
    have hz := he.size
    have CS := hide' (sort_any _ _ s (natL F) k w1 (HV.out.ext X1.out) SU.out HLEN.out)
    rw [HB.out, HI.out] at CS
    clear ho he hp hw hR1 hR2 CF
    go_wp2_with fail
    refine CS.out.mono ?_
    rintro e w2 ⟨v, rfl, ho, he⟩
    have O2 := hide' (ho.low hz)
    have X2 := hide' (X1.out.trans he)
    clear ho he CS
    go_wp2
    go_ret
    exact ⟨_, R, rfl, HR.out, O2.out, X2.out⟩
end Go.Proofs.YtlmbdafilboblaaGreat

/- 'make([]byte, n)', 'make([]byte, 0, n)'. No conditions. -/
namespace Go.Proofs.YtlmbdafilboblaaGreat
set_option linter.unusedVariables false
set_option linter.unusedSimpArgs false
open Go.RowKit

theorem make_bytes (w : World) (n : Nat) (hn : n ≤ 4000000) : ∃ w', (Instr.makeSlice 22 (.int .i64 (n : Int)) (.int .i64 (n : Int))).run Tryz.prog w = .ok (.slice (some ⟨w.heap.size, 0, none⟩) n n) w' ∧ Own .u8 5 w.heap.size w' (.slice (some ⟨w.heap.size, 0, none⟩) n n) (List.replicate n 0) ∧ Ext w w' := by
  obtain ⟨i0, hi, hz0, hz1, hz2⟩ := info_parts infoU8
  obtain ⟨w', h1, h2, h3⟩ := run_make_full (P := Tryz.prog) w w.heap.size 22 5 i0 (.int .u8 0) 1 Tryz.underlying22 hi hz0 hz1 .i64 .i64 n (by rw [hz2]; omega) (by unfold maxLen; omega) (Nat.le_refl _)
  refine ⟨w', h1, ?_, ⟨h3.os, h3.tape, h3.output, h3.size, fun k hk => h3.block k hk (by simp)⟩⟩
  unfold Own
  have e1 : (Value.int .u8 0).cells = #[Value.int .u8 0] := rfl
  rw [e1, Nat.mul_one, toList_madeCells_one] at h2
  simpa using h2
/-- 'make([]byte, 0, n)' -/
theorem make_room8 (w : World) (n : Nat) (hn : n ≤ 1000000) : ∃ w', (Instr.makeSlice 22 (.int .i64 0) (.int .i64 (n : Int))).run Tryz.prog w = .ok (.slice (some ⟨w.heap.size, 0, none⟩) 0 n) w' ∧ Own .u8 5 w.heap.size w' (.slice (some ⟨w.heap.size, 0, none⟩) 0 n) [] ∧ Ext w w' := by
  obtain ⟨i0, hi, hz0, hz1, hz2⟩ := info_parts infoU8
  obtain ⟨w', h1, h2, h3⟩ := run_make_own (P := Tryz.prog) w w.heap.size 22 5 i0 (.int .u8 0) 1 Tryz.underlying22 hi hz0 hz1 .i64 .i64 n (by rw [hz2]; omega) (by unfold maxLen; omega) (Nat.le_refl _)
  exact ⟨w', h1, h2, ⟨h3.os, h3.tape, h3.output, h3.size, fun k hk => h3.block k hk (by simp)⟩⟩
end Go.Proofs.YtlmbdafilboblaaGreat
