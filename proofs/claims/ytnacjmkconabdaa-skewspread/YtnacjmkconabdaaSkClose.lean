/- Numbers closed up: each kind that is there by a number of its own, from 1 on, in the same order. Plain numbers, no conditions. -/
import Derived.Test.YtnacjmkconabdaaSkMath
namespace Go.Proofs.Ytnacjmkconabdaa
set_option linter.unusedVariables false
set_option linter.unusedSimpArgs false

/-- How many numbers below q are there. -/
def kdN (s : List Int) : Nat → Nat
  | 0 => 0
  | q + 1 => kdN s q + if 0 < cntI s q s.length then 1 else 0
theorem kdN_yes {s : List Int} {q : Nat} (h : 0 < cntI s q s.length) : kdN s (q + 1) = kdN s q + 1 := by
  show kdN s q + _ = _
  rw [if_pos h]
theorem kdN_no {s : List Int} {q : Nat} (h : ¬ 0 < cntI s q s.length) : kdN s (q + 1) = kdN s q := by
  show kdN s q + _ = _
  rw [if_neg h]
  rfl
theorem kdN_mono (s : List Int) (q : Nat) : ∀ d, kdN s q ≤ kdN s (q + d) := by
  intro d
  induction d with
  | zero => exact Nat.le_refl _
  | succ d ih =>
    refine Nat.le_trans ih ?_
    show _ ≤ kdN s (q + d) + _
    omega
theorem cntI_mono (s : List Int) (q i : Nat) : ∀ d, cntI s q i ≤ cntI s q (i + d) := by
  intro d
  induction d with
  | zero => exact Nat.le_refl _
  | succ d ih =>
    refine Nat.le_trans ih ?_
    rw [← Nat.add_assoc, cntI_succ]
    omega
theorem cntI_pos {s : List Int} {i q : Nat} (hi : i < s.length) (h : s.getD i 0 = (q : Int)) : 0 < cntI s q s.length := by
  have h1 := cntI_same h
  have h2 := cntI_mono s q (i + 1) (s.length - (i + 1))
  rw [show i + 1 + (s.length - (i + 1)) = s.length by omega] at h2
  omega
theorem kdN_le {s : List Int} {K : Nat} (hg : goodI (K : Int) s = true) : kdN s K ≤ s.length := by
  have hz : ∀ j, j < (List.range s.length).length → s.getD j 0 = ((s.getD ((List.range s.length).getD j 0) 0).toNat : Int) := fun j hj => by
    rw [List.length_range] at hj
    rw [rangeN_at hj]
    have := goodI_at hg hj
    omega
  have h1 : ∀ q, q ≤ K → kdN s q ≤ offs (List.range s.length) (fun p => (s.getD p 0).toNat) q := by
    intro q
    induction q with
    | zero => intro _; exact Nat.zero_le _
    | succ q ih =>
      intro hq
      have h2 := cntI_pick (ps := List.range s.length) (key := fun p => (s.getD p 0).toNat) (zs := s) hz q s.length (by rw [List.length_range]; exact Nat.le_refl _)
      rw [List.take_of_length_le (by rw [List.length_range]; exact Nat.le_refl _)] at h2
      rw [offs_succ, ← h2]
      have h3 := ih (by omega)
      show kdN s q + _ ≤ _
      split <;> omega
  have h2 := h1 K (Nat.le_refl _)
  rw [csort_len (fun p hp => by
    have := goodI_at hg (List.mem_range.1 hp)
    show (s.getD p 0).toNat < K
    omega), List.length_range] at h2
  exact h2
/-- Closed up, from 0 on. -/
def clI (s : List Int) : List Int := s.map fun z => (kdN s z.toNat : Int)
theorem clI_len (s : List Int) : (clI s).length = s.length := List.length_map _
theorem clI_at {s : List Int} {i : Nat} (h : i < s.length) : (clI s).getD i 0 = (kdN s (s.getD i 0).toNat : Int) := by simp [clI, List.getD, h]
theorem clI_nonneg (s : List Int) : NonNeg (clI s) := fun i hi => by
  rw [clI_len] at hi
  rw [clI_at hi]
  omega
theorem kdN_lt {s : List Int} {K : Nat} (hg : goodI (K : Int) s = true) {i : Nat} (hi : i < s.length) : kdN s (s.getD i 0).toNat < kdN s K := by
  have h1 := goodI_at hg hi
  have h2 := kdN_yes (s := s) (q := (s.getD i 0).toNat) (cntI_pos hi (by omega))
  have h3 := kdN_mono s ((s.getD i 0).toNat + 1) (K - ((s.getD i 0).toNat + 1))
  rw [show (s.getD i 0).toNat + 1 + (K - ((s.getD i 0).toNat + 1)) = K by omega] at h3
  omega
theorem clI_fit {s : List Int} {K : Nat} (hg : goodI (K : Int) s = true) (hl : s.length ≤ 1000000) : fitB (tailI (clI s)) ((kdN s K : Int) + 1) = true := by
  have h1 := kdN_le hg
  refine fitB_iff.2 ⟨by omega, by omega, goodI_of fun j hj => ?_⟩
  rw [tailI_at]
  by_cases e : j < s.length
  · rw [padI_in (by rw [clI_len]; exact e), clI_at e]
    have := kdN_lt hg e
    omega
  · rw [padI_out (by rw [clI_len]; omega)]
    omega
theorem cmpI_mapOn {f : Int → Int} {P : Int → Prop} (hf : ∀ x y, P x → P y → x < y → f x < f y) : ∀ (x y : List Int), (∀ z ∈ x, P z) → (∀ z ∈ y, P z) → cmpI (x.map f) (y.map f) = cmpI x y
  | [], [], _, _ => rfl
  | [], _ :: _, _, _ => rfl
  | _ :: _, [], _, _ => rfl
  | a :: x, b :: y, hx, hy => by
    have pa := hx a (List.mem_cons_self ..)
    have pb := hy b (List.mem_cons_self ..)
    rw [List.map_cons, List.map_cons, cmpI, cmpI, cmpI_mapOn hf x y (fun z hz => hx z (List.mem_cons_of_mem _ hz)) (fun z hz => hy z (List.mem_cons_of_mem _ hz))]
    rcases Int.lt_trichotomy a b with h | h | h
    · rw [if_pos h, if_pos (hf _ _ pa pb h)]
    · subst h
      rw [if_neg (by omega), if_neg (by omega), if_neg (by omega), if_neg (by omega)]
    · have := hf _ _ pb pa h
      rw [if_neg (by omega), if_pos this, if_neg (by omega), if_pos h]
theorem clI_ord {s : List Int} {K : Nat} (hg : goodI (K : Int) s = true) {R : List Nat} (h : InOrd (clI s) R) : InOrd s R := by
  refine ⟨by have := h.1; rw [clI_len] at this; exact this, h.2.imp fun {a b} hab => ?_⟩
  have hf : ∀ x y : Int, x ∈ s → y ∈ s → x < y → (kdN s x.toNat : Int) < (kdN s y.toNat : Int) := fun x y hx hy hxy => by
    obtain ⟨i, hi, rfl⟩ := mem_getI hx
    obtain ⟨j, hj, rfl⟩ := mem_getI hy
    have h1 := goodI_at hg hi
    have h2 := kdN_yes (s := s) (q := (s.getD i 0).toNat) (cntI_pos hi (by omega))
    have h3 := kdN_mono s ((s.getD i 0).toNat + 1) ((s.getD j 0).toNat - ((s.getD i 0).toNat + 1))
    rw [show (s.getD i 0).toNat + 1 + ((s.getD j 0).toNat - ((s.getD i 0).toNat + 1)) = (s.getD j 0).toNat by omega] at h3
    omega
  unfold ltE at *
  unfold clI at hab
  rw [← List.map_drop, ← List.map_drop, cmpI_mapOn (P := fun z => z ∈ s) hf _ _ (fun z hz => List.mem_of_mem_drop hz) (fun z hz => List.mem_of_mem_drop hz)] at hab
  exact hab
/-- Numbers by kind, as far as kind i. -/
structure KindT (s : List Int) (K i : Nat) (A : List Nat) : Prop where
  len : A.length = K
  yes : ∀ q, q < i → 0 < cntI s q s.length → A.getD q 0 = kdN s q + 1
theorem KindT.start (s : List Int) (K : Nat) : KindT s K 0 (List.replicate K 0) := ⟨List.length_replicate, fun q h => by omega⟩
theorem KindT.put {s : List Int} {K i : Nat} {A : List Nat} (h : KindT s K i A) (hi : i < K) : KindT s K (i + 1) (A.set i (kdN s i + 1)) := by
  refine ⟨by rw [List.length_set]; exact h.len, fun q hq hc => ?_⟩
  by_cases e : q = i
  · subst e
    rw [set_same (by rw [h.len]; exact hi)]
  · rw [set_other (by omega)]
    exact h.yes q (by omega) hc
theorem KindT.skip {s : List Int} {K i : Nat} {A : List Nat} (h : KindT s K i A) (hc : ¬ 0 < cntI s i s.length) : KindT s K (i + 1) A := by
  refine ⟨h.len, fun q hq hc2 => ?_⟩
  by_cases e : q = i
  · subst e
    exact absurd hc2 hc
  · exact h.yes q (by omega) hc2
theorem KindT.at {s : List Int} {K : Nat} {A : List Nat} (h : KindT s K K A) (hg : goodI (K : Int) s = true) {i q : Nat} (hi : i < s.length) (hq : s.getD i 0 = (q : Int)) : (clI s).getD i 0 + 1 = ((A.getD q 0 : Nat) : Int) := by
  have h1 := goodI_at hg hi
  rw [clI_at hi, hq, Int.toNat_natCast, h.yes q (by omega) (cntI_pos hi hq)]
  omega
end Go.Proofs.Ytnacjmkconabdaa
