/- What stands ahead of each place, and how much both have alike; in order it falls by 1 at most. Plain numbers, no conditions. -/
import Derived.Test.YtikohabbffjpkaaKasMath
namespace Go.Proofs.Ytikohabbffjpkaa
set_option linter.unusedVariables false
set_option linter.unusedSimpArgs false

def ahL (A B : List Nat) : List Int := (List.range A.length).map fun x => if B.getD x 0 = 0 then (-1 : Int) else (A.getD (B.getD x 0 - 1) 0 : Int)
def plN (s : List Int) (A B : List Nat) : List Nat := (List.range A.length).map fun x => if B.getD x 0 = 0 then 0 else comN s (A.getD (B.getD x 0 - 1) 0) x
def ahI (a : List Int) : List Int := if ordB a = true then ahL (toN a) (toN (invI a)) else []
def plI (s a : List Int) : List Int := if lcpOk s a = true then natL (plN s (toN a) (toN (invI a))) else []
theorem ahL_len (A B : List Nat) : (ahL A B).length = A.length := by simp [ahL]
theorem plN_len (s : List Int) (A B : List Nat) : (plN s A B).length = A.length := by simp [plN]
theorem ahL_at {A B : List Nat} {x : Nat} (h : x < A.length) : (ahL A B).getD x 0 = if B.getD x 0 = 0 then (-1 : Int) else (A.getD (B.getD x 0 - 1) 0 : Int) := mapI_at _ _ h
theorem plN_at {s : List Int} {A B : List Nat} {x : Nat} (h : x < A.length) : (plN s A B).getD x 0 = if B.getD x 0 = 0 then 0 else comN s (A.getD (B.getD x 0 - 1) 0) x := mapI_at _ _ h
theorem ahI_no {a : List Int} (h : ordB a = false) : ahI a = [] := by unfold ahI; rw [h]; rfl
theorem plI_no {s a : List Int} (h : lcpOk s a = false) : plI s a = [] := by unfold plI; rw [h]; rfl
theorem ahI_le (a : List Int) : (ahI a).length ≤ a.length := by
  unfold ahI
  split
  · rw [ahL_len, toN_len]; exact Nat.le_refl _
  · exact Nat.zero_le _
theorem plI_le (s a : List Int) : (plI s a).length ≤ a.length := by
  unfold plI
  split
  · rw [natL_len, plN_len, toN_len]; exact Nat.le_refl _
  · exact Nat.zero_le _
theorem ahI_nat {A : List Nat} (h : A.Perm (List.range A.length)) : ahI (natL A) = ahL A (toN (invI (natL A))) := by
  unfold ahI
  rw [if_pos (ordB_nat h), toN_nat]
theorem plI_nat {s : List Int} {A : List Nat} (h : A.Perm (List.range A.length)) (hl : A.length = s.length) : plI s (natL A) = natL (plN s A (toN (invI (natL A)))) := by
  unfold plI
  rw [if_pos (lcpOk_yes (by rw [natL_len, hl]) (ordB_nat h)), toN_nat]

/-- What is told once the first i of a row are looked at. -/
structure AhTo (A : List Nat) (R : List Int) (i : Nat) : Prop where
  len : R.length = A.length
  at' : ∀ q, q < i → q < A.length → R.getD (A.getD q 0) 0 = if q = 0 then (-1 : Int) else (A.getD (q - 1) 0 : Int)
theorem AhTo.start (A : List Nat) : AhTo A (List.replicate A.length 0) 0 := ⟨List.length_replicate, fun q h => by omega⟩
theorem AhTo.next {A : List Nat} {R : List Int} {i : Nat} {z : Int} (h : AhTo A R i) (hA : A.Perm (List.range A.length)) (hi : i < A.length) (hz : z = if i = 0 then (-1 : Int) else (A.getD (i - 1) 0 : Int)) : AhTo A (R.set (A.getD i 0) z) (i + 1) := by
  have hn : A.Nodup := hA.nodup_iff.2 List.nodup_range
  refine ⟨by rw [List.length_set]; exact h.len, fun q h1 h2 => ?_⟩
  by_cases e : q = i
  · subst e
    rw [setI_same (by rw [h.len]; exact perm_lt hA h2), hz]
  · rw [setI_other fun e2 => e (nodup_getN hn h2 hi e2.symm)]
    exact h.at' q (by omega) h2
theorem AhTo.done {A B : List Nat} {R : List Int} (h : AhTo A R A.length) (hB : InvOf A B) : R = ahL A B := by
  refine rowI_ext (by rw [h.len, ahL_len]) fun x hx => ?_
  rw [h.len] at hx
  have h1 := h.at' _ (hB.lt x hx) (hB.lt x hx)
  rw [hB.back x hx] at h1
  rw [ahL_at hx, h1]

/-- Between two endings more is alike. -/
theorem com_sand : ∀ (x y z : List Int), cmpI x y ≤ 0 → cmpI y z ≤ 0 → comI x z ≤ comI y z
  | [], y, z, _, _ => by rw [comI_nil_left]; omega
  | a :: x, [], z, h, _ => by simp [cmpI] at h
  | a :: x, b :: y, [], _, _ => by rw [comI_nil_right]; omega
  | a :: x, b :: y, c :: z, h1, h2 => by
    simp only [cmpI] at h1 h2
    simp only [comI]
    by_cases e : a = c
    · subst e
      by_cases g : a < b
      · rw [if_neg (by omega), if_pos g] at h2
        omega
      · by_cases g2 : b < a
        · rw [if_neg g, if_pos g2] at h1
          omega
        · have e2 : b = a := by omega
          subst e2
          rw [if_neg (by omega), if_neg (by omega)] at h1 h2
          rw [if_pos rfl, if_pos rfl]
          have := com_sand x y z h1 h2
          omega
    · rw [if_neg e]
      omega
/-- In order, from place to place it falls by 1 at most. -/
theorem pl_falls {s : List Int} {A B : List Nat} (h : InOrd s A) (hB : InvOf A B) {i : Nat} (h0 : 0 < i) (hi : i < A.length) : (plN s A B).getD (i - 1) 0 ≤ (plN s A B).getD i 0 + 1 := by
  have hl := h.len
  have hA : A.Perm (List.range A.length) := by rw [hl]; exact h.1
  rw [plN_at (by omega), plN_at hi]
  by_cases e0 : B.getD (i - 1) 0 = 0
  · rw [if_pos e0]; omega
  · rw [if_neg e0]
    obtain ⟨b, hb⟩ : ∃ b, B.getD (i - 1) 0 = b + 1 := ⟨B.getD (i - 1) 0 - 1, by omega⟩
    have hbl := hB.lt (i - 1) (by omega)
    have hbk := hB.back (i - 1) (by omega)
    rw [hb] at hbl hbk ⊢
    rw [Nat.add_sub_cancel]
    obtain ⟨y, hy⟩ : ∃ y, A.getD b 0 = y := ⟨_, rfl⟩
    have hyl := perm_lt hA (p := b) (by omega)
    rw [hy] at hyl ⊢
    have hlt : ltE s y (i - 1) := by
      have := pairN_at h.2 (show b < b + 1 by omega) hbl
      rwa [hy, hbk] at this
    rcases Nat.lt_or_ge (comN s y (i - 1)) 2 with g | g
    · omega
    · have e1 := comN_next (s := s) (i := y) (j := i - 1) (by omega)
      rw [Nat.sub_add_cancel h0] at e1
      have hhead : s.getD y 0 = s.getD (i - 1) 0 := by
        apply Classical.byContradiction
        intro hne
        have : comN s y (i - 1) = 0 := by
          unfold comN
          rw [drop_getD (show y < s.length by omega), drop_getD (show i - 1 < s.length by omega), comI, if_neg hne]
        omega
      have hlt2 := (ltE_same (show y < s.length by omega) (show i - 1 < s.length by omega) hhead).1 hlt
      rw [Nat.sub_add_cancel h0] at hlt2
      have hy1 : y + 1 < s.length := by
        apply Classical.byContradiction
        intro hne
        have : comN s (y + 1) i = 0 := by
          unfold comN
          rw [List.drop_of_length_le (l := s) (i := y + 1) (by omega), comI_nil_left]
        omega
      have hord : B.getD (y + 1) 0 < B.getD i 0 := by
        rcases Nat.lt_trichotomy (B.getD (y + 1) 0) (B.getD i 0) with g2 | g2 | g2
        · exact g2
        · have e2 := hB.back (y + 1) (by omega)
          rw [g2, hB.back i hi] at e2
          rw [← e2] at hlt2
          exact absurd hlt2 ltE_irrefl
        · have h3 := pairN_at h.2 g2 (hB.lt _ (by omega))
          rw [hB.back i hi, hB.back (y + 1) (by omega)] at h3
          exact absurd (ltE_trans hlt2 h3) ltE_irrefl
      rw [if_neg (by omega)]
      obtain ⟨z, hz⟩ : ∃ z, A.getD (B.getD i 0 - 1) 0 = z := ⟨_, rfl⟩
      rw [hz]
      have hil := hB.lt i hi
      have hzi : ltE s z i := by
        have := pairN_at h.2 (show B.getD i 0 - 1 < B.getD i 0 by omega) hil
        rwa [hz, hB.back i hi] at this
      have hyz : cmpI (s.drop (y + 1)) (s.drop z) ≤ 0 := by
        rcases Nat.lt_or_ge (B.getD (y + 1) 0) (B.getD i 0 - 1) with g2 | g2
        · have h3 := pairN_at h.2 g2 (by omega)
          rw [hB.back (y + 1) (by omega), hz] at h3
          exact Int.le_of_lt h3
        · have e3 : B.getD (y + 1) 0 = B.getD i 0 - 1 := by omega
          have e4 := hB.back (y + 1) (by omega)
          rw [e3, hz] at e4
          rw [e4, cmpI_self]
          omega
      have := com_sand _ _ _ hyz (Int.le_of_lt hzi)
      unfold comN at e1 ⊢
      omega
/-- Each neighbour's number, by the place. -/
theorem lcp_pl {s : List Int} {A B : List Nat} (hA : A.Perm (List.range A.length)) (hB : InvOf A B) {i : Nat} (hi : i < A.length) : (lcpN s A).getD i 0 = (plN s A B).getD (A.getD i 0) 0 := by
  rw [plN_at (perm_lt hA hi), hB.on i hi]
  by_cases h0 : i = 0
  · subst h0
    rw [lcpN_zero, if_pos rfl]
  · rw [lcpN_at (by omega) hi, if_neg h0]
/-- What the walk by places keeps. -/
structure PlTo (s : List Int) (A B R : List Nat) (i : Nat) : Prop where
  len : R.length = A.length
  at' : ∀ q, q < i → q < A.length → R.getD q 0 = (plN s A B).getD q 0
  rest : ∀ q, i ≤ q → R.getD q 0 = 0
theorem PlTo.start (s : List Int) (A B : List Nat) : PlTo s A B (List.replicate A.length 0) 0 :=
  ⟨List.length_replicate, (fun q h => by omega), fun q _ => by
    simp only [List.getD_eq_getElem?_getD, List.getElem?_replicate]
    split <;> rfl⟩
theorem PlTo.next {s : List Int} {A B R : List Nat} {i c : Nat} (h : PlTo s A B R i) (hi : i < A.length) (hc : c = (plN s A B).getD i 0) : PlTo s A B (R.set i c) (i + 1) := by
  refine ⟨by rw [List.length_set]; exact h.len, fun q h1 h2 => ?_, fun q h1 => ?_⟩
  · by_cases e : q = i
    · subst e
      rw [set_same (by rw [h.len]; exact h2), hc]
    · rw [set_other fun e2 => e e2.symm]
      exact h.at' q (by omega) h2
  · rw [set_other (by omega)]
    exact h.rest q (by omega)
theorem PlTo.skip {s : List Int} {A B R : List Nat} {i : Nat} (h : PlTo s A B R i) (hi : i < A.length) (hc : (plN s A B).getD i 0 = 0) : PlTo s A B R (i + 1) := by
  refine ⟨h.len, fun q h1 h2 => ?_, fun q h1 => h.rest q (by omega)⟩
  by_cases e : q = i
  · subst e
    rw [hc]
    exact h.rest q (Nat.le_refl _)
  · exact h.at' q (by omega) h2
theorem PlTo.done {s : List Int} {A B R : List Nat} (h : PlTo s A B R A.length) : R = plN s A B :=
  natL_ext (by rw [h.len, plN_len]) fun q hq => by rw [h.len] at hq; exact h.at' q hq hq
end Go.Proofs.Ytikohabbffjpkaa
