/- All rotations of words, listed and in order. Plain numbers, no conditions. -/
import Derived.Test.YtifemkgkgghapaaOmInMath
namespace Go.Proofs.Ytifemkgkgghapaa
set_option linter.unusedVariables false
set_option linter.unusedSimpArgs false

def wordAt (zss : List (List Int)) (i : Nat) : List Int := zss.getD i []
def rowP (i n : Nat) : List (Nat × Nat) := (List.range n).map fun j => (i, j)
/-- All rotations of the first so many words. -/
def listK (zss : List (List Int)) (k : Nat) : List (Nat × Nat) := (List.range k).flatMap fun i => rowP i (wordAt zss i).length
def listP (zss : List (List Int)) : List (Nat × Nat) := listK zss zss.length
def offP (zss : List (List Int)) (k : Nat) : Nat := (listK zss k).length

theorem rowP_len (i n : Nat) : (rowP i n).length = n := by simp [rowP]
theorem rowP_at {i n j : Nat} (h : j < n) : (rowP i n).getD j (0, 0) = (i, j) := by simp [rowP, List.getD, h]
theorem rowP_succ (i n : Nat) : rowP i (n + 1) = rowP i n ++ [(i, n)] := by simp [rowP, List.range_succ]
theorem listK_succ (zss : List (List Int)) (k : Nat) : listK zss (k + 1) = listK zss k ++ rowP k (wordAt zss k).length := by
  unfold listK
  rw [List.range_succ, List.flatMap_append]
  simp
theorem offP_succ (zss : List (List Int)) (k : Nat) : offP zss (k + 1) = offP zss k + (wordAt zss k).length := by
  unfold offP
  rw [listK_succ, List.length_append, rowP_len]
theorem offP_mono (zss : List (List Int)) : ∀ {k l : Nat}, k ≤ l → offP zss k ≤ offP zss l := by
  intro k l h
  induction h with
  | refl => exact Nat.le_refl _
  | step _ ih => rw [offP_succ]; omega
theorem offP_in (zss : List (List Int)) {k l t : Nat} (h : k < l) (ht : t < (wordAt zss k).length) : offP zss k + t < offP zss l := by
  have := offP_mono zss (show k + 1 ≤ l from h)
  rw [offP_succ] at this
  omega
theorem listK_at (zss : List (List Int)) : ∀ {K k t : Nat}, k < K → t < (wordAt zss k).length → (listK zss K).getD (offP zss k + t) (0, 0) = (k, t) := by
  intro K
  induction K with
  | zero => intro k t h _; omega
  | succ K ih =>
    intro k t hk ht
    rw [listK_succ]
    by_cases h : k < K
    · have hlt : offP zss k + t < (listK zss K).length := offP_in zss h ht
      rw [← ih h ht]
      simp only [List.getD_eq_getElem?_getD]
      rw [List.getElem?_append_left hlt]
    · have e : k = K := by omega
      subst e
      rw [← rowP_at (i := k) ht]
      simp only [List.getD_eq_getElem?_getD]
      rw [List.getElem?_append_right (by unfold offP; omega)]
      congr 2
      unfold offP; omega
theorem listK_split (zss : List (List Int)) : ∀ {K j : Nat}, j < offP zss K → ∃ k t, k < K ∧ t < (wordAt zss k).length ∧ j = offP zss k + t := by
  intro K
  induction K with
  | zero => intro j h; simp [offP, listK] at h
  | succ K ih =>
    intro j hj
    by_cases h : j < offP zss K
    · obtain ⟨k, t, h1, h2, h3⟩ := ih h
      exact ⟨k, t, by omega, h2, h3⟩
    · rw [offP_succ] at hj
      exact ⟨K, j - offP zss K, by omega, by omega, by omega⟩
theorem offP_flat (zss : List (List Int)) : ∀ {k : Nat}, k ≤ zss.length → offP zss k = (zss.take k).flatten.length := by
  intro k
  induction k with
  | zero => intro _; simp [offP, listK]
  | succ k ih =>
    intro h
    rw [offP_succ, ih (by omega), List.take_add_one, List.getElem?_eq_getElem (by omega), Option.toList_some, List.flatten_append, List.length_append]
    simp [wordAt, List.getD, List.getElem?_eq_getElem (show k < zss.length by omega)]

/-- What is read from a rotation's beginning on, without end. -/
def sqP (zss : List (List Int)) (t : Nat × Nat) (k : Nat) : Int := (wordAt zss t.1).getD ((t.2 + k) % (wordAt zss t.1).length) 0
theorem sqP_turn {zss : List (List Int)} {t : Nat × Nat} (h : t.2 < (wordAt zss t.1).length) (k : Nat) : atW (turnI (wordAt zss t.1) t.2) k = sqP zss t k := by
  unfold atW sqP
  rw [turnI_len (by omega), turnI_at h (Nat.mod_lt _ (by omega)), Nat.add_mod_mod]
/-- Ahead in the list. -/
def Bef (t u : Nat × Nat) : Prop := t.1 < u.1 ∨ (t.1 = u.1 ∧ t.2 < u.2)
/-- Less without end; of the same ones by the word's place, then the rotation's. -/
def RP (zss : List (List Int)) (t u : Nat × Nat) : Prop := LtF (sqP zss t) (sqP zss u) ∨ ((∀ k, sqP zss t k = sqP zss u k) ∧ Bef t u)

theorem RP.asymm {zss : List (List Int)} {t u : Nat × Nat} (h : RP zss t u) (k : RP zss u t) : False := by
  rcases h with h | ⟨h1, h2⟩ <;> rcases k with k | ⟨k1, k2⟩
  · exact LtF.irr h k
  · obtain ⟨m, _, h2⟩ := h; have := k1 m; omega
  · obtain ⟨m, _, h3⟩ := k; have := h1 m; omega
  · unfold Bef at *; omega

def bP (zss : List (List Int)) (p : Nat) : Int := sqP zss ((listP zss).getD p (0, 0)) 0
def nxP (zss : List (List Int)) (p : Nat) : Nat := p - ((listP zss).getD p (0, 0)).2 + (((listP zss).getD p (0, 0)).2 + 1) % (wordAt zss ((listP zss).getD p (0, 0)).1).length

theorem listP_at {zss : List (List Int)} {i j : Nat} (hi : i < zss.length) (hj : j < (wordAt zss i).length) : (listP zss).getD (offP zss i + j) (0, 0) = (i, j) := listK_at zss hi hj
theorem nxP_at {zss : List (List Int)} {i j : Nat} (hi : i < zss.length) (hj : j < (wordAt zss i).length) : nxP zss (offP zss i + j) = offP zss i + (j + 1) % (wordAt zss i).length := by
  unfold nxP
  rw [listP_at hi hj]
  show offP zss i + j - j + (j + 1) % (wordAt zss i).length = _
  omega
theorem itP_at {zss : List (List Int)} {i : Nat} (hi : i < zss.length) : ∀ (k : Nat) {j : Nat}, j < (wordAt zss i).length → itN (nxP zss) k (offP zss i + j) = offP zss i + (j + k) % (wordAt zss i).length
  | 0, j, hj => by rw [Nat.add_zero, Nat.mod_eq_of_lt hj]; rfl
  | k + 1, j, hj => by
    show itN (nxP zss) k (nxP zss (offP zss i + j)) = _
    rw [nxP_at hi hj, itP_at hi k (Nat.mod_lt _ (by omega)), Nat.mod_add_mod]
    congr 2
    omega
theorem seqP_at {zss : List (List Int)} {i j : Nat} (hi : i < zss.length) (hj : j < (wordAt zss i).length) (k : Nat) : seqN (bP zss) (nxP zss) (offP zss i + j) k = sqP zss (i, j) k := by
  have hm : (j + k) % (wordAt zss i).length < (wordAt zss i).length := Nat.mod_lt _ (by omega)
  unfold seqN bP
  rw [itP_at hi k hj, listP_at hi hm]
  simp only [sqP, Nat.add_zero, Nat.mod_mod]
theorem nxP_lt {zss : List (List Int)} : ∀ p, p < (listP zss).length → nxP zss p < (listP zss).length := fun p hp => by
  obtain ⟨i, j, hi, hj, rfl⟩ := listK_split zss (K := zss.length) hp
  rw [nxP_at hi hj]
  exact offP_in zss hi (Nat.mod_lt _ (by omega))
theorem RR_RP {zss : List (List Int)} {p q : Nat} (hp : p < (listP zss).length) (hq : q < (listP zss).length) (h : RR (bP zss) (nxP zss) p q) : RP zss ((listP zss).getD p (0, 0)) ((listP zss).getD q (0, 0)) := by
  obtain ⟨i, j, hi, hj, rfl⟩ := listK_split zss (K := zss.length) hp
  obtain ⟨i', j', hi', hj', rfl⟩ := listK_split zss (K := zss.length) hq
  rw [listP_at hi hj, listP_at hi' hj']
  have e1 : seqN (bP zss) (nxP zss) (offP zss i + j) = sqP zss (i, j) := by funext k; exact seqP_at hi hj k
  have e2 : seqN (bP zss) (nxP zss) (offP zss i' + j') = sqP zss (i', j') := by funext k; exact seqP_at hi' hj' k
  unfold RR at h
  rw [e1, e2] at h
  rcases h with h | ⟨h1, h2⟩
  · exact .inl h
  · refine .inr ⟨h1, ?_⟩
    show i < i' ∨ (i = i' ∧ j < j')
    rcases Nat.lt_trichotomy i i' with g | g | g
    · exact .inl g
    · subst g; exact .inr ⟨rfl, by omega⟩
    · have := offP_in zss g hj'; omega

theorem map_range_getD {α : Type} (l : List α) (d : α) : (List.range l.length).map (fun p => l.getD p d) = l := by
  refine List.ext_getElem (by simp) fun k h1 h2 => ?_
  simp [List.getD, List.getElem?_eq_getElem h2]
/-- The order that omega makes, as pairs. -/
theorem turns_sorted {zss : List (List Int)} {ord : List Nat} (hp : ord.Perm (List.range (listP zss).length)) (hr : ord.Pairwise (RR (bP zss) (nxP zss))) :
    (ord.map fun p => (listP zss).getD p (0, 0)).Perm (listP zss) ∧ (ord.map fun p => (listP zss).getD p (0, 0)).Pairwise (RP zss) := by
  constructor
  · have := hp.map fun p => (listP zss).getD p (0, 0)
    rwa [map_range_getD] at this
  · rw [List.pairwise_map]
    refine List.Pairwise.imp_of_mem ?_ hr
    intro p q h1 h2 h
    exact RR_RP (List.mem_range.1 (hp.mem_iff.1 h1)) (List.mem_range.1 (hp.mem_iff.1 h2)) h
theorem sorted_unique {zss : List (List Int)} {l l' : List (Nat × Nat)} (h1 : l.Perm (listP zss)) (h2 : l'.Perm (listP zss)) (k1 : l.Pairwise (RP zss)) (k2 : l'.Pairwise (RP zss)) : l = l' :=
  List.Perm.eq_of_pairwise (le := RP zss) (fun a b _ _ h k => (h.asymm k).elim) k1 k2 (h1.trans h2.symm)

/-- What the document's search for the place keeps. -/
def Ins (zss : List (List Int)) (out : List (Nat × Nat)) (t : Nat × Nat) (j : Nat) : Prop := ∀ m, j ≤ m → m < out.length → LtF (sqP zss t) (sqP zss (out.getD m (0, 0)))
theorem getP_mem {l : List (Nat × Nat)} {i : Nat} (h : i < l.length) : l.getD i (0, 0) ∈ l := by
  rw [List.getD_eq_getElem?_getD, List.getElem?_eq_getElem h]
  exact List.getElem_mem h
theorem mem_getP {l : List (Nat × Nat)} {x : Nat × Nat} (h : x ∈ l) : ∃ i, i < l.length ∧ l.getD i (0, 0) = x := by
  obtain ⟨i, hi, e⟩ := List.mem_iff_getElem.1 h
  exact ⟨i, hi, by rw [List.getD_eq_getElem?_getD, List.getElem?_eq_getElem hi]; exact e⟩
theorem pairP_at {R : Nat × Nat → Nat × Nat → Prop} {l : List (Nat × Nat)} (h : l.Pairwise R) {i j : Nat} (hij : i < j) (hj : j < l.length) : R (l.getD i (0, 0)) (l.getD j (0, 0)) := by
  have := List.pairwise_iff_getElem.1 h i j (by omega) hj hij
  simpa [List.getD, List.getElem?_eq_getElem hj, List.getElem?_eq_getElem (show i < l.length by omega)] using this
/-- In its place: what is ahead of it is not greater, what is behind it is. -/
theorem Ins.place {zss : List (List Int)} {out : List (Nat × Nat)} {t : Nat × Nat} {j : Nat} (hj : j ≤ out.length) (h : Ins zss out t j) (hs : out.Pairwise (RP zss)) (hb : ∀ u ∈ out, Bef u t)
    (he : j = 0 ∨ ¬ LtF (sqP zss t) (sqP zss (out.getD (j - 1) (0, 0)))) : (out.take j ++ [t] ++ out.drop j).Pairwise (RP zss) := by
  have hahead : ∀ x ∈ out.take j, RP zss x t := fun x hx => by
    have hx' : x ∈ out := List.mem_of_mem_take hx
    obtain ⟨m, hm, rfl⟩ := mem_getP hx
    rw [List.length_take] at hm
    have e0 : (out.take j).getD m (0, 0) = out.getD m (0, 0) := by
      simp only [List.getD_eq_getElem?_getD, List.getElem?_take]
      rw [if_pos (by omega)]
    rw [e0] at hx' ⊢
    have hne : ¬ LtF (sqP zss t) (sqP zss (out.getD m (0, 0))) := fun hlt => by
      rcases he with he | he
      · omega
      · by_cases hmj : m = j - 1
        · subst hmj; exact he hlt
        · rcases pairP_at hs (show m < j - 1 by omega) (by omega) with g | ⟨g, _⟩
          · exact he (LtF.trans hlt g)
          · obtain ⟨n, n1, n2⟩ := hlt
            exact he ⟨n, fun k hk => (n1 k hk).trans (g k), by rw [← g n]; exact n2⟩
    by_cases hlt : LtF (sqP zss (out.getD m (0, 0))) (sqP zss t)
    · exact .inl hlt
    · refine .inr ⟨fun k => ?_, hb _ hx'⟩
      rcases first_other (f := sqP zss (out.getD m (0, 0))) (g := sqP zss t) (k + 1) with g | ⟨n, _, g1, g2⟩
      · exact g k (by omega)
      · exfalso
        by_cases g3 : sqP zss (out.getD m (0, 0)) n < sqP zss t n
        · exact hlt ⟨n, g1, g3⟩
        · exact hne ⟨n, fun k hk => (g1 k hk).symm, by omega⟩
  have hbehind : ∀ y ∈ out.drop j, RP zss t y := fun y hy => by
    obtain ⟨m, hm, rfl⟩ := mem_getP hy
    rw [List.length_drop] at hm
    have e0 : (out.drop j).getD m (0, 0) = out.getD (j + m) (0, 0) := by
      simp only [List.getD_eq_getElem?_getD, List.getElem?_drop]
    rw [e0]
    exact .inl (h (j + m) (by omega) (by omega))
  have hs' : (out.take j ++ out.drop j).Pairwise (RP zss) := by rw [List.take_append_drop]; exact hs
  rw [List.pairwise_append] at hs' ⊢
  obtain ⟨p1, p2, p3⟩ := hs'
  refine ⟨?_, p2, ?_⟩
  · rw [List.pairwise_append]
    exact ⟨p1, List.pairwise_singleton _ _, fun a ha b hb => by rw [List.mem_singleton] at hb; subst hb; exact hahead a ha⟩
  · intro a ha y hy
    rcases List.mem_append.1 ha with ha | ha
    · exact p3 a ha y hy
    · rw [List.mem_singleton] at ha; subst ha; exact hbehind y hy
theorem ins_perm {out l : List (Nat × Nat)} {t : Nat × Nat} {j : Nat} (h : out.Perm l) : (out.take j ++ [t] ++ out.drop j).Perm (l ++ [t]) := by
  have h1 : (out.take j ++ [t] ++ out.drop j).Perm (out.take j ++ (out.drop j ++ [t])) := by
    rw [List.append_assoc]
    exact List.perm_append_comm.append_left _
  refine h1.trans ?_
  rw [← List.append_assoc, List.take_append_drop]
  exact h.append_right _
/-- All that were listed ahead of a rotation are ahead of it. -/
theorem listed_bef {zss : List (List Int)} {i j : Nat} {u : Nat × Nat} (h : u ∈ listK zss i ++ rowP i j) : Bef u (i, j) := by
  rcases List.mem_append.1 h with h | h
  · obtain ⟨k, hk, hu⟩ := List.mem_flatMap.1 h
    obtain ⟨m, hm, rfl⟩ := List.mem_map.1 hu
    exact .inl (List.mem_range.1 hk)
  · obtain ⟨m, hm, rfl⟩ := List.mem_map.1 h
    exact .inr ⟨rfl, List.mem_range.1 hm⟩
theorem listed_in {zss : List (List Int)} {i j : Nat} {u : Nat × Nat} (hi : i < zss.length) (hj : j ≤ (wordAt zss i).length) (h : u ∈ listK zss i ++ rowP i j) : u.1 < zss.length ∧ u.2 < (wordAt zss u.1).length := by
  rcases List.mem_append.1 h with h | h
  · obtain ⟨k, hk, hu⟩ := List.mem_flatMap.1 h
    obtain ⟨m, hm, rfl⟩ := List.mem_map.1 hu
    have := List.mem_range.1 hk
    have := List.mem_range.1 hm
    exact ⟨by show k < _; omega, by show m < _; omega⟩
  · obtain ⟨m, hm, rfl⟩ := List.mem_map.1 h
    have := List.mem_range.1 hm
    exact ⟨hi, by show m < (wordAt zss i).length; omega⟩
end Go.Proofs.Ytifemkgkgghapaa
