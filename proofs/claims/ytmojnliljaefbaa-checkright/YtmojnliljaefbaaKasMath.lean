/- How much neighbours of a row have alike, told place by place of the text. Plain numbers, no conditions. -/
import Derived.Test.YtmojnliljaefbaaOrdMore
import Derived.Test.YtmojnliljaefbaaInvMath
namespace Go.Proofs.Ytmojnliljaefbaa
set_option linter.unusedVariables false
set_option linter.unusedSimpArgs false

/-- How much two endings have alike. -/
def comN (s : List Int) (i j : Nat) : Nat := comI (s.drop i) (s.drop j)
theorem comN_swap (s : List Int) (i j : Nat) : comN s i j = comN s j i := comI_swap _ _
theorem comN_le (s : List Int) (i j : Nat) : comN s i j ≤ s.length := by
  have := (comI_le (s.drop i) (s.drop j)).1
  rw [List.length_drop] at this
  unfold comN
  omega
theorem comL_nat {s : List Int} {i j : Nat} (hi : i ≤ s.length) (hj : j ≤ s.length) : comL s i j = (comN s i j : Int) := comL_in hi hj
/-- The first of what they have alike away, one less is alike. -/
theorem comN_next {s : List Int} {i j : Nat} (h : 0 < comN s i j) : comN s i j = comN s (i + 1) (j + 1) + 1 := by
  unfold comN at *
  by_cases h1 : i < s.length
  · by_cases h2 : j < s.length
    · rw [drop_getD h1, drop_getD h2, comI] at h ⊢
      by_cases e : s.getD i 0 = s.getD j 0
      · rw [if_pos e]
      · rw [if_neg e] at h
        omega
    · rw [List.drop_of_length_le (l := s) (i := j) (by omega), comI_nil_right] at h
      omega
  · rw [List.drop_of_length_le (l := s) (i := i) (by omega), comI_nil_left] at h
    omega

/-- Of each place how much it has alike with the one ahead of it. -/
def lcpN (s : List Int) (A : List Nat) : List Nat := (List.range A.length).map fun i => if i = 0 then 0 else comN s (A.getD (i - 1) 0) (A.getD i 0)
theorem lcpN_len (s : List Int) (A : List Nat) : (lcpN s A).length = A.length := by simp [lcpN]
theorem lcpN_zero {s : List Int} {A : List Nat} : (lcpN s A).getD 0 0 = 0 := by
  by_cases h : 0 < A.length
  · unfold lcpN
    rw [mapI_at _ _ h, if_pos rfl]
  · rw [List.getD_eq_getElem?_getD, List.getElem?_eq_none (by rw [lcpN_len]; omega)]; rfl
theorem lcpN_at {s : List Int} {A : List Nat} {i : Nat} (h0 : 0 < i) (h : i < A.length) : (lcpN s A).getD i 0 = comN s (A.getD (i - 1) 0) (A.getD i 0) := by
  unfold lcpN
  rw [mapI_at _ _ h, if_neg (by omega)]
def lcpOk (s a : List Int) : Bool := decide (a.length = s.length) && ordB a
def lcpL (s a : List Int) : List Int := if lcpOk s a = true then natL (lcpN s (toN a)) else []
theorem lcpOk_long {s a : List Int} (h : a.length ≠ s.length) : lcpOk s a = false := by simp [lcpOk, h]
theorem lcpOk_no {s a : List Int} (h : ordB a = false) : lcpOk s a = false := by simp [lcpOk, h]
theorem lcpOk_yes {s a : List Int} (h : a.length = s.length) (h' : ordB a = true) : lcpOk s a = true := by simp [lcpOk, h, h']
theorem lcpL_no {s a : List Int} (h : lcpOk s a = false) : lcpL s a = [] := by unfold lcpL; rw [h]; rfl
theorem lcpL_yes {s a : List Int} (h : lcpOk s a = true) : lcpL s a = natL (lcpN s (toN a)) := by unfold lcpL; rw [if_pos h]
theorem lcpL_le (s a : List Int) : (lcpL s a).length ≤ a.length := by
  cases h : lcpOk s a
  · rw [lcpL_no h]; exact Nat.zero_le _
  · rw [lcpL_yes h, natL_len, lcpN_len, toN_len]; exact Nat.le_refl _

/-- An order as naturals. -/
theorem ordB_cast {a : List Int} (h : ordB a = true) : natL (toN a) = a ∧ (toN a).Perm (List.range a.length) := by
  have h1 : natL (toN a) = a := natL_toN (n := a.length) (goodI_iff.2 fun z hz => (ordB_mem h).1 hz)
  refine ⟨h1, ?_⟩
  have h2 := (ordB_iff.1 h).map Int.toNat
  have h3 : (natL (List.range a.length)).map Int.toNat = List.range a.length := toN_nat _
  rw [h3] at h2
  exact h2
/-- Where each stands, as naturals. -/
structure InvOf (A B : List Nat) : Prop where
  len : B.length = A.length
  lt : ∀ i, i < A.length → B.getD i 0 < A.length
  back : ∀ i, i < A.length → A.getD (B.getD i 0) 0 = i
  on : ∀ p, p < A.length → B.getD (A.getD p 0) 0 = p
theorem inv_nat {A : List Nat} (h : A.Perm (List.range A.length)) : invI (natL A) = natL (toN (invI (natL A))) ∧ InvOf A (toN (invI (natL A))) := by
  have ho := ordB_nat h
  have hl := invI_len ho
  rw [natL_len] at hl
  have hb : ∀ p, p < A.length → ∃ q : Nat, q < A.length ∧ (invI (natL A)).getD p 0 = (q : Int) ∧ A.getD q 0 = p := fun p hp => by
    obtain ⟨q, h1, h2, h3⟩ := invI_back ho (p := p) (by rw [natL_len]; exact hp)
    rw [natL_len] at h1
    rw [natL_at] at h3
    exact ⟨q, h1, h2, by omega⟩
  have hat : ∀ p, p < A.length → (toN (invI (natL A))).getD p 0 < A.length ∧ A.getD ((toN (invI (natL A))).getD p 0) 0 = p := fun p hp => by
    obtain ⟨q, h1, h2, h3⟩ := hb p hp
    rw [toN_at, h2, Int.toNat_natCast]
    exact ⟨h1, h3⟩
  refine ⟨(natL_toN (n := A.length) (goodI_of fun p hp => ?_)).symm, ⟨by rw [toN_len, hl], fun i hi => (hat i hi).1, fun i hi => (hat i hi).2, fun p hp => ?_⟩⟩
  · rw [hl] at hp
    obtain ⟨q, h1, h2, _⟩ := hb p hp
    omega
  · have hm := List.mem_range.1 (h.mem_iff.1 (getN_mem hp))
    have h2 := hat _ hm
    exact nodup_getN (h.nodup_iff.2 List.nodup_range) h2.1 hp h2.2
theorem perm_lt {A : List Nat} (h : A.Perm (List.range A.length)) {p : Nat} (hp : p < A.length) : A.getD p 0 < A.length := List.mem_range.1 (h.mem_iff.1 (getN_mem hp))

/-- What is known of what neighbours have alike once all places of the text ahead of i are told. -/
structure Kas (s : List Int) (A R : List Nat) (i : Nat) : Prop where
  len : R.length = A.length
  zero : R.getD 0 0 = 0
  at' : ∀ q, 0 < q → q < A.length → A.getD q 0 < i → R.getD q 0 = comN s (A.getD (q - 1) 0) (A.getD q 0)
theorem Kas.start (s : List Int) (A : List Nat) : Kas s A (List.replicate A.length 0) 0 :=
  ⟨List.length_replicate, by cases A <;> simp [List.getD, List.replicate], fun q _ _ h => by omega⟩
theorem Kas.skip {s : List Int} {A B R : List Nat} {i : Nat} (h : Kas s A R i) (hB : InvOf A B) (h0 : B.getD i 0 = 0) : Kas s A R (i + 1) := by
  refine ⟨h.len, h.zero, fun q h1 h2 h3 => ?_⟩
  by_cases e : A.getD q 0 = i
  · have := hB.on q h2
    rw [e, h0] at this
    omega
  · exact h.at' q h1 h2 (by omega)
theorem Kas.next {s : List Int} {A B R : List Nat} {i p c : Nat} (h : Kas s A R i) (hB : InvOf A B) (hi : i < A.length) (hp : B.getD i 0 = p) (h0 : 0 < p) (hc : c = comN s i (A.getD (p - 1) 0)) : Kas s A (R.set p c) (i + 1) := by
  have hlt := hB.lt i hi
  rw [hp] at hlt
  have hback := hB.back i hi
  rw [hp] at hback
  refine ⟨by rw [List.length_set]; exact h.len, by rw [set_other (by omega)]; exact h.zero, fun q h1 h2 h3 => ?_⟩
  by_cases e : q = p
  · subst e
    rw [set_same (by rw [h.len]; exact h2), hc, hback, comN_swap]
  · rw [set_other (fun e2 => e e2.symm)]
    refine h.at' q h1 h2 ?_
    have : A.getD q 0 ≠ i := fun e2 => by
      have h4 := hB.on q h2
      rw [e2, hp] at h4
      exact e h4.symm
    omega
theorem Kas.done {s : List Int} {A R : List Nat} (h : Kas s A R A.length) (hA : A.Perm (List.range A.length)) : R = lcpN s A := by
  refine natL_ext (by rw [h.len, lcpN_len]) fun q hq => ?_
  rw [h.len] at hq
  by_cases h0 : q = 0
  · subst h0
    rw [h.zero, lcpN_zero]
  · rw [lcpN_at (by omega) hq, h.at' q (by omega) hq (perm_lt hA hq)]
/-- What the document's own loop keeps: all places up to i are told. -/
structure LcpTo (s : List Int) (A R : List Nat) (i : Nat) : Prop where
  len : R.length = A.length
  at' : ∀ q, q < i → q < A.length → R.getD q 0 = (lcpN s A).getD q 0
theorem LcpTo.start (s : List Int) (A : List Nat) : LcpTo s A (List.replicate A.length 0) 1 :=
  ⟨List.length_replicate, fun q hq h => by
    have : q = 0 := by omega
    subst this
    rw [lcpN_zero]
    simp [List.getD, h]⟩
theorem LcpTo.next {s : List Int} {A R : List Nat} {i c : Nat} (h : LcpTo s A R i) (h0 : 0 < i) (hi : i < A.length) (hc : c = comN s (A.getD (i - 1) 0) (A.getD i 0)) : LcpTo s A (R.set i c) (i + 1) := by
  refine ⟨by rw [List.length_set]; exact h.len, fun q h1 h2 => ?_⟩
  by_cases e : q = i
  · subst e
    rw [set_same (by rw [h.len]; exact h2), hc, lcpN_at h0 h2]
  · rw [set_other (fun e2 => e e2.symm)]
    exact h.at' q (by omega) h2
theorem LcpTo.done {s : List Int} {A R : List Nat} {i : Nat} (h : LcpTo s A R i) (hi : A.length ≤ i) : R = lcpN s A :=
  natL_ext (by rw [h.len, lcpN_len]) fun q hq => by rw [h.len] at hq; exact h.at' q (by omega) hq
end Go.Proofs.Ytmojnliljaefbaa
