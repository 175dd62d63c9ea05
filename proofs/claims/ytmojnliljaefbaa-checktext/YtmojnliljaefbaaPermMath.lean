/- Rows that have each place once, and where each stands. Plain numbers, no conditions. -/
import Derived.Test.YtmojnliljaefbaaBktMath
namespace Go.Proofs.Ytmojnliljaefbaa
set_option linter.unusedVariables false
set_option linter.unusedSimpArgs false

theorem nodup_perm {l : List Int} : ∀ {l' : List Int}, l.Nodup → (∀ x ∈ l, x ∈ l') → l'.length ≤ l.length → l.Perm l' := by
  induction l with
  | nil => intro l' _ _ h; rw [List.length_eq_zero_iff.1 (Nat.le_zero.1 h)]
  | cons a l ih =>
    intro l' hn hs hl
    rw [List.nodup_cons] at hn
    have ha := hs a List.mem_cons_self
    have h2 := List.length_erase_of_mem ha
    rw [List.length_cons] at hl
    have h1 := ih (l' := l'.erase a) hn.2 (fun x hx => by
      have hne : x ≠ a := fun e => hn.1 (e ▸ hx)
      exact (List.mem_erase_of_ne hne).2 (hs x (List.mem_cons_of_mem _ hx))) (by omega)
    exact (List.Perm.cons a h1).trans (List.perm_cons_erase ha).symm
theorem natL_mem {l : List Nat} {z : Int} : z ∈ natL l ↔ ∃ p, p ∈ l ∧ z = (p : Int) := by
  unfold natL
  rw [List.mem_map]
  exact ⟨fun ⟨p, h1, h2⟩ => ⟨p, h1, h2.symm⟩, fun ⟨p, h1, h2⟩ => ⟨p, h1, h2.symm⟩⟩
theorem natL_nodup {l : List Nat} (h : l.Nodup) : (natL l).Nodup := by
  unfold natL List.Nodup
  rw [List.pairwise_map]
  exact h.imp fun h e => h (Int.ofNat.inj e)
theorem takeI_succ {l : List Int} {i : Nat} (h : i < l.length) : l.take (i + 1) = l.take i ++ [l.getD i 0] := by
  rw [List.take_add_one, List.getElem?_eq_getElem h, List.getD_eq_getElem?_getD, List.getElem?_eq_getElem h]
  rfl
theorem nodup_getI {l : List Int} (h : l.Nodup) {i j : Nat} (hi : i < l.length) (hj : j < l.length) (e : l.getD i 0 = l.getD j 0) : i = j := by
  rw [List.getD_eq_getElem?_getD, List.getD_eq_getElem?_getD, List.getElem?_eq_getElem hi, List.getElem?_eq_getElem hj] at e
  exact (List.getElem_inj h).1 e

/-- Is it each place once? -/
def ordB (l : List Int) : Bool := l.isPerm (natL (List.range l.length))
theorem ordB_iff {l : List Int} : ordB l = true ↔ l.Perm (natL (List.range l.length)) := List.isPerm_iff
theorem ordB_no {l : List Int} (h : ¬ l.Perm (natL (List.range l.length))) : ordB l = false := by
  rw [Bool.eq_false_iff]
  exact fun e => h (ordB_iff.1 e)
theorem ordB_nat {n : Nat} {R : List Nat} (h : R.Perm (List.range n)) : ordB (natL R) = true := by
  rw [ordB_iff, natL_len, h.length_eq, List.length_range]
  exact h.map _
theorem ordB_nodup {l : List Int} (h : ordB l = true) : l.Nodup := (ordB_iff.1 h).nodup_iff.2 (natL_nodup List.nodup_range)
theorem ordB_mem {l : List Int} (h : ordB l = true) {z : Int} : z ∈ l ↔ 0 ≤ z ∧ z < l.length := by
  rw [(ordB_iff.1 h).mem_iff, natL_mem]
  constructor
  · rintro ⟨p, h1, rfl⟩
    have := List.mem_range.1 h1
    omega
  · intro ⟨h1, h2⟩
    exact ⟨z.toNat, List.mem_range.2 (by omega), by omega⟩
/-- Where each stands. -/
def invI (l : List Int) : List Int := if ordB l = true then natL ((List.range l.length).map fun (x : Nat) => l.idxOf (x : Int)) else []
theorem invI_no {l : List Int} (h : ordB l = false) : invI l = [] := by unfold invI; rw [h]; rfl
theorem invI_len {l : List Int} (h : ordB l = true) : (invI l).length = l.length := by
  unfold invI
  rw [if_pos h, natL_len, List.length_map, List.length_range]
theorem invI_at {l : List Int} (h : ordB l = true) {i p : Nat} (hi : i < l.length) (hp : l.getD i 0 = (p : Int)) : (invI l).getD p 0 = (i : Int) := by
  have hpn : p < l.length := by
    have := (ordB_mem h).1 (getI_mem hi)
    omega
  unfold invI
  rw [if_pos h, natL_at, mapI_at _ _ hpn]
  have hm : (p : Int) ∈ l := (ordB_mem h).2 ⟨by omega, by omega⟩
  have h1 := List.idxOf_lt_length_of_mem hm
  have h2 : l.getD (l.idxOf (p : Int)) 0 = (p : Int) := by
    rw [List.getD_eq_getElem?_getD, List.getElem?_eq_getElem h1]
    exact List.getElem_idxOf h1
  have := nodup_getI (ordB_nodup h) h1 hi (by rw [h2, hp])
  omega
theorem invI_eq {l bs : List Int} (h : ordB l = true) (hl : bs.length = l.length) (hb : ∀ i p : Nat, i < l.length → l.getD i 0 = (p : Int) → bs.getD p 0 = (i : Int)) : bs = invI l := by
  refine getD_ext (by rw [hl, invI_len h]) fun p hp => ?_
  rw [hl] at hp
  have hm : (p : Int) ∈ l := (ordB_mem h).2 ⟨by omega, by omega⟩
  obtain ⟨i, hi, e⟩ := mem_getI hm
  rw [hb i p hi e, invI_at h hi e]

/-- What the search for where each stands keeps. -/
structure Inv (l : List Int) (i : Nat) (bs : List Int) : Prop where
  len : bs.length = l.length
  nodup : (l.take i).Nodup
  good : ∀ z ∈ l.take i, 0 ≤ z ∧ z < l.length
  at' : ∀ j p : Nat, j < i → j < l.length → l.getD j 0 = (p : Int) → bs.getD p 0 = (j : Int)
  none : ∀ p : Nat, p < l.length → (p : Int) ∉ l.take i → bs.getD p 0 = -1
theorem Inv.start {l bs : List Int} (hl : bs.length = l.length) (h : ∀ x, x < l.length → bs.getD x 0 = -1) : Inv l 0 bs :=
  ⟨hl, by simp, by simp, (fun j p hj => by omega), fun p hp _ => h p hp⟩
theorem Inv.bad {l bs : List Int} {i : Nat} (h : Inv l i bs) (hi : i < l.length) (hz : l.getD i 0 < 0 ∨ (l.length : Int) ≤ l.getD i 0 ∨ 0 ≤ bs.getD (l.getD i 0).toNat 0) : ordB l = false ∧ invI l = [] := by
  have : ordB l = false := by
    rw [Bool.eq_false_iff]
    intro ho
    have hm := (ordB_mem ho).1 (getI_mem hi)
    rcases hz with hz | hz | hz
    · omega
    · omega
    · obtain ⟨p, hp⟩ : ∃ p : Nat, l.getD i 0 = (p : Int) := ⟨(l.getD i 0).toNat, by omega⟩
      rw [hp, Int.toNat_natCast] at hz
      by_cases hin : (p : Int) ∈ l.take i
      · have hd : (l.take (i + 1)).Nodup := List.Pairwise.sublist (List.take_sublist _ _) (ordB_nodup ho)
        rw [takeI_succ hi, List.nodup_append] at hd
        exact hd.2.2 _ hin _ (List.mem_singleton.2 rfl) hp.symm
      · rw [h.none p (by omega) hin] at hz
        omega
  exact ⟨this, invI_no this⟩
theorem Inv.next {l bs : List Int} {i p : Nat} (h : Inv l i bs) (hi : i < l.length) (hp : l.getD i 0 = (p : Int)) (hpn : p < l.length) (hb : bs.getD p 0 < 0) : Inv l (i + 1) (bs.set p (i : Int)) := by
  have hnot : (p : Int) ∉ l.take i := fun hm => by
    obtain ⟨j, hj, e⟩ := mem_getI hm
    rw [List.length_take] at hj
    have e2 : (l.take i).getD j 0 = l.getD j 0 := by
      simp only [List.getD_eq_getElem?_getD, List.getElem?_take]
      rw [if_pos (by omega)]
    rw [e2] at e
    have := h.at' j p (by omega) (by omega) e
    omega
  refine ⟨by rw [List.length_set]; exact h.len, ?_, fun z hz => ?_, fun j q hj hjl hq => ?_, fun q hq hnq => ?_⟩
  · rw [takeI_succ hi, hp]
    refine List.nodup_append.2 ⟨h.nodup, by simp, fun a ha c hc e => ?_⟩
    simp only [List.mem_singleton] at hc
    exact hnot (by rw [← hc, ← e]; exact ha)
  · rw [takeI_succ hi, hp] at hz
    rcases List.mem_append.1 hz with h1 | h1
    · exact h.good z h1
    · simp only [List.mem_singleton] at h1
      omega
  · by_cases e : j = i
    · subst e
      have : q = p := by omega
      subst this
      rw [setI_same (by rw [h.len]; exact hpn)]
    · have hqp : p ≠ q := fun e2 => by
        subst e2
        refine hnot ?_
        rw [← hq]
        have : (l.take i).getD j 0 = l.getD j 0 := by
          simp only [List.getD_eq_getElem?_getD, List.getElem?_take]
          rw [if_pos (by omega)]
        rw [← this]
        exact getI_mem (by rw [List.length_take]; omega)
      rw [setI_other hqp]
      exact h.at' j q (by omega) hjl hq
  · rw [takeI_succ hi, hp, List.mem_append, List.mem_singleton] at hnq
    rw [setI_other (fun e => hnq (.inr (by rw [e])))]
    exact h.none q hq (fun e => hnq (.inl e))
theorem Inv.done {l bs : List Int} (h : Inv l l.length bs) : ordB l = true ∧ invI l = bs := by
  have h1 := h.nodup
  have h2 := h.good
  rw [List.take_length] at h1 h2
  have ho : ordB l = true := by
    rw [ordB_iff]
    refine nodup_perm h1 (fun z hz => natL_mem.2 ?_) (by rw [natL_len, List.length_range]; exact Nat.le_refl _)
    have := h2 z hz
    exact ⟨z.toNat, List.mem_range.2 (by omega), by omega⟩
  exact ⟨ho, (invI_eq ho h.len fun i p hi hp => h.at' i p hi hi hp).symm⟩
end Go.Proofs.Ytmojnliljaefbaa
