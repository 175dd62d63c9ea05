/- Parts named in order: the names' endings stand as the first places' endings do. Plain numbers, no conditions. -/
import Derived.Test.YtabgbioocfdjiaaSaMath
import Derived.Test.YtabgbioocfdjiaaPermMath
namespace Go.Proofs.Ytabgbioocfdjiaa
set_option linter.unusedVariables false
set_option linter.unusedSimpArgs false

/-- Names of the parts, in the first places' order in the text: less names are of less parts. -/
structure Names (s N : List Int) : Prop where
  len : N.length = (firstN s).length
  lt : ∀ i j, i < N.length → j < N.length → (N.getD i 0 < N.getD j 0 ↔ cmpI (cutW s ((firstN s).getD i 0)) (cutW s ((firstN s).getD j 0)) < 0)

theorem Names.same {s N : List Int} (h : Names s N) {i j : Nat} (hi : i < N.length) (hj : j < N.length) (e : N.getD i 0 = N.getD j 0) : cutW s ((firstN s).getD i 0) = cutW s ((firstN s).getD j 0) := by
  have h1 := h.lt i j hi hj
  have h2 := h.lt j i hj hi
  rw [cmpI_swap] at h2
  have h3 : ¬ cmpI (cutW s ((firstN s).getD i 0)) (cutW s ((firstN s).getD j 0)) < 0 := fun h => by have := h1.2 h; omega
  have h4 : ¬ -cmpI (cutW s ((firstN s).getD i 0)) (cutW s ((firstN s).getD j 0)) < 0 := fun h => by have := h2.2 h; omega
  exact cmpI_zero (by omega)
theorem firstN_lt (s : List Int) {i j : Nat} (hij : i < j) (hj : j < (firstN s).length) : (firstN s).getD i 0 < (firstN s).getD j 0 := pairN_at (firN_sorted s s.length) hij hj
theorem firstN_at {s : List Int} {i : Nat} (hi : i < (firstN s).length) : (firstN s).getD i 0 < s.length ∧ fsB s ((firstN s).getD i 0) = true := firN_mem.1 (getN_mem hi)
/-- The next first place is the next of the row. -/
theorem firstN_next {s : List Int} {i e : Nat} (hi : i < (firstN s).length) (he : 1 ≤ e) (hf : fsB s ((firstN s).getD i 0 + e) = true) (hb : ∀ x, 1 ≤ x → x < e → fsB s ((firstN s).getD i 0 + x) = false) :
    i + 1 < (firstN s).length ∧ (firstN s).getD (i + 1) 0 = (firstN s).getD i 0 + e := by
  have hlt : (firstN s).getD i 0 + e < s.length := by
    apply Nat.lt_of_not_le
    intro hle
    rw [fsB_out hle] at hf
    cases hf
  have hm : (firstN s).getD i 0 + e ∈ firstN s := firN_mem.2 ⟨hlt, hf⟩
  obtain ⟨j, hj, ej⟩ := mem_getN hm
  have hij : i < j := by
    apply Nat.lt_of_not_le
    intro hle
    by_cases e2 : j = i
    · subst e2; omega
    · have := firstN_lt s (show j < i by omega) hi
      omega
  refine ⟨by omega, ?_⟩
  by_cases e2 : j = i + 1
  · rw [← e2, ej]
  · have h1 := firstN_lt s (show i < i + 1 by omega) (by omega)
    have h2 := firstN_lt s (show i + 1 < j by omega) hj
    have h3 := (firstN_at (s := s) (i := i + 1) (by omega)).2
    have h4 := hb ((firstN s).getD (i + 1) 0 - (firstN s).getD i 0) (by omega) (by omega)
    rw [show (firstN s).getD i 0 + ((firstN s).getD (i + 1) 0 - (firstN s).getD i 0) = (firstN s).getD (i + 1) 0 by omega, h3] at h4
    cases h4

theorem red_lt {s N : List Int} (h : Names s N) : ∀ d i j, N.length - i = d → i < N.length → j < N.length → ltE N i j → ltE s ((firstN s).getD i 0) ((firstN s).getD j 0) := by
  intro d
  induction d with
  | zero => intro i j h1 h2; omega
  | succ d ih =>
    intro i j hd hi hj hlt
    have hl := h.len
    have fi := firstN_at (s := s) (i := i) (by omega)
    have fj := firstN_at (s := s) (i := j) (by omega)
    rcases Int.lt_trichotomy (N.getD i 0) (N.getD j 0) with hc | hc | hc
    · exact cut_lt _ _ _ rfl fi.1 fj.1 ((h.lt i j hi hj).1 hc)
    · have hne : i ≠ j := fun e => by
        subst e
        exact ltE_irrefl hlt
      have hne2 : (firstN s).getD i 0 ≠ (firstN s).getD j 0 := fun e => by
        rcases Nat.lt_or_gt_of_ne hne with g | g
        · have := firstN_lt s g (by omega); omega
        · have := firstN_lt s g (by omega); omega
      obtain ⟨e, e1, e2, e3, e4, e5⟩ := cut_same _ _ _ rfl fi.1 fj.1 hne2 (h.same hi hj hc)
      obtain ⟨n1, n2⟩ := firstN_next (s := s) (i := i) (by omega) e1 e2 fun x h1 h2 => (e4 x h1 h2).1
      obtain ⟨n3, n4⟩ := firstN_next (s := s) (i := j) (by omega) e1 e3 fun x h1 h2 => (e4 x h1 h2).2
      rw [ltE_same hi hj hc] at hlt
      have := ih (i + 1) (j + 1) (by omega) (by omega) (by omega) hlt
      rw [n2, n4] at this
      exact e5.2 this
    · exact absurd (ltE_trans hlt (ltE_less hj hi hc)) ltE_irrefl

/-- The names' order brings the first places into theirs. -/
theorem red_ord {s N : List Int} {R : List Nat} (h : Names s N) (hR : InOrd N R) : (R.map fun i => (firstN s).getD i 0).Perm (firstN s) ∧ (R.map fun i => (firstN s).getD i 0).Pairwise (ltE s) := by
  constructor
  · have h1 := hR.1.map fun i => (firstN s).getD i 0
    refine h1.trans ?_
    have e : (List.range N.length).map (fun i => (firstN s).getD i 0) = firstN s := natL_ext (by rw [List.length_map, List.length_range, h.len]) fun i hi => by
      rw [List.length_map, List.length_range] at hi
      exact mapI_at _ _ hi
    rw [e]
  · rw [List.pairwise_map]
    refine hR.2.imp_of_mem fun ha hb hlt => ?_
    exact red_lt h _ _ _ rfl (List.mem_range.1 (hR.1.mem_iff.1 ha)) (List.mem_range.1 (hR.1.mem_iff.1 hb)) hlt
theorem sais_ord {s : List Int} {K : Nat} {F : List Nat} (f : Fits s K) (hp : F.Perm (firstN s)) (ho : F.Pairwise (ltE s)) : ∃ R, indI s K F = natL R ∧ InOrd s R := by
  obtain ⟨R, h1, h2, _, h4⟩ := indI_all f ⟨hp⟩
  exact ⟨R, h1, h2, h4 ho⟩

/-- The first places as a row has them. -/
def firOf (s : List Int) (R : List Nat) : List Nat := R.filter (fsB s)
theorem firOf_perm {s : List Int} {R : List Nat} (h : R.Perm (List.range s.length)) : (firOf s R).Perm (firstN s) := h.filter _
theorem firOf_cut {s : List Int} {R : List Nat} (h : R.Pairwise (fun a b => cmpI (cutW s a) (cutW s b) ≤ 0)) : (firOf s R).Pairwise (fun a b => cmpI (cutW s a) (cutW s b) ≤ 0) := h.filter _
/-- Where no two parts are one, their order is that of the endings. -/
theorem firOf_ord {s : List Int} {G : List Nat} (hp : G.Perm (firstN s)) (h : G.Pairwise (fun a b => cmpI (cutW s a) (cutW s b) ≤ 0)) (hd : ∀ t, t + 1 < G.length → cutW s (G.getD t 0) ≠ cutW s (G.getD (t + 1) 0)) : G.Pairwise (ltE s) := by
  rw [List.pairwise_iff_getElem]
  intro i j hi hj hij
  have mem : ∀ t, t < G.length → G.getD t 0 < s.length := fun t ht => (firN_mem.1 (hp.mem_iff.1 (getN_mem ht))).1
  have key : ∀ d t, t + d + 1 < G.length → ltE s (G.getD t 0) (G.getD (t + d + 1) 0) := by
    intro d
    induction d with
    | zero =>
      intro t ht
      have h1 := pairN_at h (show t < t + 1 by omega) (by omega)
      have h2 : cmpI (cutW s (G.getD t 0)) (cutW s (G.getD (t + 1) 0)) ≠ 0 := fun e => hd t (by omega) (cmpI_zero e)
      exact cut_lt _ _ _ rfl (mem t (by omega)) (mem (t + 1) (by omega)) (Int.lt_iff_le_and_ne.2 ⟨h1, h2⟩)
    | succ d ih =>
      intro t ht
      have h1 := ih t (by omega)
      have h2 := pairN_at h (show t + d + 1 < t + (d + 1) + 1 by omega) (by omega)
      have h3 : cmpI (cutW s (G.getD (t + d + 1) 0)) (cutW s (G.getD (t + d + 1 + 1) 0)) ≠ 0 := fun e => hd (t + d + 1) (by omega) (cmpI_zero e)
      refine ltE_trans h1 (cut_lt _ _ _ rfl (mem _ (by omega)) (mem _ (by omega)) ?_)
      rw [show t + (d + 1) + 1 = t + d + 1 + 1 by omega] at h2 ⊢
      omega
  have := key (j - i - 1) i (by omega)
  rw [show i + (j - i - 1) + 1 = j by omega] at this
  simpa [List.getD, List.getElem?_eq_getElem hi, List.getElem?_eq_getElem hj] using this

/-- Names by counting: one more where a part is not the one ahead of it. -/
def nmG (s : List Int) (G : List Nat) : Nat → Nat
  | 0 => 0
  | t + 1 => nmG s G t + if cutW s (G.getD t 0) = cutW s (G.getD (t + 1) 0) then 0 else 1
theorem nmG_same {s : List Int} {G : List Nat} {t : Nat} (h : cutW s (G.getD t 0) = cutW s (G.getD (t + 1) 0)) : nmG s G (t + 1) = nmG s G t := by
  show nmG s G t + _ = _
  rw [if_pos h]; rfl
theorem nmG_other {s : List Int} {G : List Nat} {t : Nat} (h : cutW s (G.getD t 0) ≠ cutW s (G.getD (t + 1) 0)) : nmG s G (t + 1) = nmG s G t + 1 := by
  show nmG s G t + _ = _
  rw [if_neg h]
theorem nmG_le (s : List Int) (G : List Nat) (t : Nat) : nmG s G t ≤ t := by
  induction t with
  | zero => exact Nat.le_refl _
  | succ t ih =>
    show nmG s G t + _ ≤ _
    split <;> omega
theorem nmG_step (s : List Int) (G : List Nat) (t : Nat) : nmG s G t ≤ nmG s G (t + 1) := by
  show _ ≤ nmG s G t + _
  omega
theorem nmG_mono (s : List Int) (G : List Nat) {t u : Nat} (h : t ≤ u) : nmG s G t ≤ nmG s G u := by
  induction h with
  | refl => exact Nat.le_refl _
  | step _ ih => exact Nat.le_trans ih (nmG_step _ _ _)
theorem cmpI_anti {x y : List Int} (h1 : cmpI x y ≤ 0) (h2 : cmpI y x ≤ 0) : x = y := by
  rw [cmpI_swap] at h2
  exact cmpI_zero (by omega)
theorem nmG_iff {s : List Int} {G : List Nat} (h : G.Pairwise (fun a b => cmpI (cutW s a) (cutW s b) ≤ 0)) : ∀ d t, t + d < G.length → (nmG s G t = nmG s G (t + d) ↔ cutW s (G.getD t 0) = cutW s (G.getD (t + d) 0)) := by
  intro d
  induction d with
  | zero => intro t _; simp
  | succ d ih =>
    intro t ht
    have i1 := ih t (by omega)
    have m1 := nmG_mono s G (show t ≤ t + d by omega)
    by_cases e : cutW s (G.getD (t + d) 0) = cutW s (G.getD (t + d + 1) 0)
    · rw [show t + (d + 1) = t + d + 1 by omega, nmG_same e, ← e]
      exact i1
    · rw [show t + (d + 1) = t + d + 1 by omega, nmG_other e]
      constructor
      · intro h1; omega
      · intro h1
        exfalso
        by_cases hd : d = 0
        · subst hd
          exact e h1
        · have p1 := pairN_at h (show t < t + d by omega) (by omega)
          have p2 := pairN_at h (show t + d < t + d + 1 by omega) (by omega)
          rw [← h1] at p2
          exact e ((cmpI_anti p1 p2).symm.trans h1)
theorem nmG_lt {s : List Int} {G : List Nat} (h : G.Pairwise (fun a b => cmpI (cutW s a) (cutW s b) ≤ 0)) {t u : Nat} (ht : t < G.length) (hu : u < G.length) : nmG s G t < nmG s G u ↔ cmpI (cutW s (G.getD t 0)) (cutW s (G.getD u 0)) < 0 := by
  have key : ∀ {a b : Nat}, a < b → b < G.length → (nmG s G a < nmG s G b ↔ cmpI (cutW s (G.getD a 0)) (cutW s (G.getD b 0)) < 0) ∧ cmpI (cutW s (G.getD a 0)) (cutW s (G.getD b 0)) ≤ 0 := fun {a b} hab hb => by
    have h1 := nmG_iff h (b - a) a (by omega)
    rw [show a + (b - a) = b by omega] at h1
    have h2 := pairN_at h hab hb
    have h3 := nmG_mono s G (show a ≤ b by omega)
    refine ⟨⟨fun h4 => ?_, fun h4 => ?_⟩, h2⟩
    · have : cmpI (cutW s (G.getD a 0)) (cutW s (G.getD b 0)) ≠ 0 := fun e => by have := h1.2 (cmpI_zero e); omega
      omega
    · have : nmG s G a ≠ nmG s G b := fun e => by
        rw [h1.1 e, cmpI_self] at h4
        omega
      omega
  rcases Nat.lt_trichotomy t u with g | g | g
  · exact (key g hu).1
  · subst g
    rw [cmpI_self]
    omega
  · have h1 := nmG_mono s G (show u ≤ t by omega)
    have h2 := (key g ht).2
    rw [cmpI_swap] at h2
    omega
/-- The names that counting gives, laid by the first places' order in the text. -/
theorem names_of {s N : List Int} {G : List Nat} (hp : G.Perm (firstN s)) (h : G.Pairwise (fun a b => cmpI (cutW s a) (cutW s b) ≤ 0)) (hl : N.length = (firstN s).length) (hN : ∀ t i, t < G.length → i < N.length → G.getD t 0 = (firstN s).getD i 0 → N.getD i 0 = (nmG s G t : Int)) : Names s N := by
  refine ⟨hl, fun i j hi hj => ?_⟩
  obtain ⟨t, ht, et⟩ := mem_getN (hp.mem_iff.2 (getN_mem (l := firstN s) (i := i) (by omega)))
  obtain ⟨u, hu, eu⟩ := mem_getN (hp.mem_iff.2 (getN_mem (l := firstN s) (i := j) (by omega)))
  rw [hN t i ht hi et, hN u j hu hj eu, ← et, ← eu, ← nmG_lt h ht hu]
  omega
end Go.Proofs.Ytabgbioocfdjiaa
