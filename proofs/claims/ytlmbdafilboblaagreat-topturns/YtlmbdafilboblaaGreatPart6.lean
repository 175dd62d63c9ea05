/- Texts laid together: TurnMath, FacCut, Args, Slss, Vals, BjFac, CycMath, CycMore, GrMath, GrLast, BjLastB, Pr, SlsWord, OmListed, OmThru, KripTail, OmSorted, OmRanked, OmInOrder, OmNext, OmTurnsOp, BijMath, BjTurnOp. -/
import Derived.Test.YtlmbdafilboblaaGreatPart5
import Derived.Test.YtlmbdafilboblaaGreatPart1
import Derived.Deep.Matrix
import Derived.SizedLaws
import Derived.Test.YtlmbdafilboblaaGreatPart2
import Derived.Laws.OwnMore
import Derived.Laws.MakeOwn
import Derived.Deep.MidRow
import Derived.Test.YtlmbdafilboblaaGreatPart4
import Derived.StillTail
import Derived.Lib.MinMax
import Derived.Test.YtlmbdafilboblaaGreatPart3
/- All rotations of words, listed and in order. Plain numbers, no conditions. -/
namespace Go.Proofs.YtlmbdafilboblaaGreat
set_option linter.unusedVariables false
set_option linter.unusedSimpArgs false

def wordAt (zss : List (List Int)) (i : Nat) : List Int := zss.getD i []
def rowP (i n : Nat) : List (Nat × Nat) := (List.range n).map fun j => (i, j)
/-- All rotations of the first so many words. -/
def listK (zss : List (List Int)) (k : Nat) : List (Nat × Nat) := (List.range k).flatMap fun i => rowP i (wordAt zss i).length
def listP (zss : List (List Int)) : List (Nat × Nat) := listK zss zss.length
def offP (zss : List (List Int)) (k : Nat) : Nat := (listK zss k).length

theorem rowP_len (i n : Nat) : (rowP i n).length = n := by simp [rowP]
theorem rowP_at {i n j : Nat} (h : j < n) : (rowP i n).getD j (0, 0) = (i, j) := by simp [rowP, List.getD, h]
theorem rowP_succ (i n : Nat) : rowP i (n + 1) = rowP i n ++ [(i, n)] := by simp [rowP, List.range_succ]
theorem listK_succ (zss : List (List Int)) (k : Nat) : listK zss (k + 1) = listK zss k ++ rowP k (wordAt zss k).length := by
  unfold listK
  rw [List.range_succ, List.flatMap_append]
  simp
theorem offP_succ (zss : List (List Int)) (k : Nat) : offP zss (k + 1) = offP zss k + (wordAt zss k).length := by
  unfold offP
  rw [listK_succ, List.length_append, rowP_len]
theorem offP_mono (zss : List (List Int)) : ∀ {k l : Nat}, k ≤ l → offP zss k ≤ offP zss l := by
  intro k l h
  induction h with
  | refl => exact Nat.le_refl _
  | step _ ih => rw [offP_succ]; omega
theorem offP_in (zss : List (List Int)) {k l t : Nat} (h : k < l) (ht : t < (wordAt zss k).length) : offP zss k + t < offP zss l := by
  have := offP_mono zss (show k + 1 ≤ l from h)
  rw [offP_succ] at this
  omega
theorem listK_at (zss : List (List Int)) : ∀ {K k t : Nat}, k < K → t < (wordAt zss k).length → (listK zss K).getD (offP zss k + t) (0, 0) = (k, t) := by
  intro K
  induction K with
  | zero => intro k t h _; omega
  | succ K ih =>
    intro k t hk ht
    rw [listK_succ]
    by_cases h : k < K
    · have hlt : offP zss k + t < (listK zss K).length := offP_in zss h ht
      rw [← ih h ht]
      simp only [List.getD_eq_getElem?_getD]
      rw [List.getElem?_append_left hlt]
    · have e : k = K := by omega
      subst e
      rw [← rowP_at (i := k) ht]
      simp only [List.getD_eq_getElem?_getD]
      rw [List.getElem?_append_right (by unfold offP; omega)]
      congr 2
      unfold offP; omega
theorem listK_split (zss : List (List Int)) : ∀ {K j : Nat}, j < offP zss K → ∃ k t, k < K ∧ t < (wordAt zss k).length ∧ j = offP zss k + t := by
  intro K
  induction K with
  | zero => intro j h; simp [offP, listK] at h
  | succ K ih =>
    intro j hj
    by_cases h : j < offP zss K
    · obtain ⟨k, t, h1, h2, h3⟩ := ih h
      exact ⟨k, t, by omega, h2, h3⟩
    · rw [offP_succ] at hj
      exact ⟨K, j - offP zss K, by omega, by omega, by omega⟩
theorem offP_flat (zss : List (List Int)) : ∀ {k : Nat}, k ≤ zss.length → offP zss k = (zss.take k).flatten.length := by
  intro k
  induction k with
  | zero => intro _; simp [offP, listK]
  | succ k ih =>
    intro h
    rw [offP_succ, ih (by omega), List.take_add_one, List.getElem?_eq_getElem (by omega), Option.toList_some, List.flatten_append, List.length_append]
    simp [wordAt, List.getD, List.getElem?_eq_getElem (show k < zss.length by omega)]

/-- What is read from a rotation's beginning on, without end. -/
def sqP (zss : List (List Int)) (t : Nat × Nat) (k : Nat) : Int := (wordAt zss t.1).getD ((t.2 + k) % (wordAt zss t.1).length) 0
theorem sqP_turn {zss : List (List Int)} {t : Nat × Nat} (h : t.2 < (wordAt zss t.1).length) (k : Nat) : atW (turnI (wordAt zss t.1) t.2) k = sqP zss t k := by
  unfold atW sqP
  rw [turnI_len (by omega), turnI_at h (Nat.mod_lt _ (by omega)), Nat.add_mod_mod]
/-- Ahead in the list. -/
def Bef (t u : Nat × Nat) : Prop := t.1 < u.1 ∨ (t.1 = u.1 ∧ t.2 < u.2)
/-- Less without end; of the same ones by the word's place, then the rotation's. -/
def RP (zss : List (List Int)) (t u : Nat × Nat) : Prop := LtF (sqP zss t) (sqP zss u) ∨ ((∀ k, sqP zss t k = sqP zss u k) ∧ Bef t u)

theorem RP.asymm {zss : List (List Int)} {t u : Nat × Nat} (h : RP zss t u) (k : RP zss u t) : False := by
  rcases h with h | ⟨h1, h2⟩ <;> rcases k with k | ⟨k1, k2⟩
  · exact LtF.irr h k
  · obtain ⟨m, _, h2⟩ := h; have := k1 m; omega
  · obtain ⟨m, _, h3⟩ := k; have := h1 m; omega
  · unfold Bef at *; omega

def bP (zss : List (List Int)) (p : Nat) : Int := sqP zss ((listP zss).getD p (0, 0)) 0
def nxP (zss : List (List Int)) (p : Nat) : Nat := p - ((listP zss).getD p (0, 0)).2 + (((listP zss).getD p (0, 0)).2 + 1) % (wordAt zss ((listP zss).getD p (0, 0)).1).length

theorem listP_at {zss : List (List Int)} {i j : Nat} (hi : i < zss.length) (hj : j < (wordAt zss i).length) : (listP zss).getD (offP zss i + j) (0, 0) = (i, j) := listK_at zss hi hj
theorem nxP_at {zss : List (List Int)} {i j : Nat} (hi : i < zss.length) (hj : j < (wordAt zss i).length) : nxP zss (offP zss i + j) = offP zss i + (j + 1) % (wordAt zss i).length := by
  unfold nxP
  rw [listP_at hi hj]
  show offP zss i + j - j + (j + 1) % (wordAt zss i).length = _
  omega
theorem itP_at {zss : List (List Int)} {i : Nat} (hi : i < zss.length) : ∀ (k : Nat) {j : Nat}, j < (wordAt zss i).length → itN (nxP zss) k (offP zss i + j) = offP zss i + (j + k) % (wordAt zss i).length
  | 0, j, hj => by rw [Nat.add_zero, Nat.mod_eq_of_lt hj]; rfl
  | k + 1, j, hj => by
    show itN (nxP zss) k (nxP zss (offP zss i + j)) = _
    rw [nxP_at hi hj, itP_at hi k (Nat.mod_lt _ (by omega)), Nat.mod_add_mod]
    congr 2
    omega
theorem seqP_at {zss : List (List Int)} {i j : Nat} (hi : i < zss.length) (hj : j < (wordAt zss i).length) (k : Nat) : seqN (bP zss) (nxP zss) (offP zss i + j) k = sqP zss (i, j) k := by
  have hm : (j + k) % (wordAt zss i).length < (wordAt zss i).length := Nat.mod_lt _ (by omega)
  unfold seqN bP
  rw [itP_at hi k hj, listP_at hi hm]
  simp only [sqP, Nat.add_zero, Nat.mod_mod]
theorem nxP_lt {zss : List (List Int)} : ∀ p, p < (listP zss).length → nxP zss p < (listP zss).length := fun p hp => by
  obtain ⟨i, j, hi, hj, rfl⟩ := listK_split zss (K := zss.length) hp
  rw [nxP_at hi hj]
  exact offP_in zss hi (Nat.mod_lt _ (by omega))
theorem RR_RP {zss : List (List Int)} {p q : Nat} (hp : p < (listP zss).length) (hq : q < (listP zss).length) (h : RR (bP zss) (nxP zss) p q) : RP zss ((listP zss).getD p (0, 0)) ((listP zss).getD q (0, 0)) := by
  obtain ⟨i, j, hi, hj, rfl⟩ := listK_split zss (K := zss.length) hp
  obtain ⟨i', j', hi', hj', rfl⟩ := listK_split zss (K := zss.length) hq
  rw [listP_at hi hj, listP_at hi' hj']
  have e1 : seqN (bP zss) (nxP zss) (offP zss i + j) = sqP zss (i, j) := by funext k; exact seqP_at hi hj k
  have e2 : seqN (bP zss) (nxP zss) (offP zss i' + j') = sqP zss (i', j') := by funext k; exact seqP_at hi' hj' k
  unfold RR at h
  rw [e1, e2] at h
  rcases h with h | ⟨h1, h2⟩
  · exact .inl h
  · refine .inr ⟨h1, ?_⟩
    show i < i' ∨ (i = i' ∧ j < j')
    rcases Nat.lt_trichotomy i i' with g | g | g
    · exact .inl g
    · subst g; exact .inr ⟨rfl, by omega⟩
    · have := offP_in zss g hj'; omega

theorem map_range_getD {α : Type} (l : List α) (d : α) : (List.range l.length).map (fun p => l.getD p d) = l := by
  refine List.ext_getElem (by simp) fun k h1 h2 => ?_
  simp [List.getD, List.getElem?_eq_getElem h2]
/-- The order that omega makes, as pairs. -/
theorem turns_sorted {zss : List (List Int)} {ord : List Nat} (hp : ord.Perm (List.range (listP zss).length)) (hr : ord.Pairwise (RR (bP zss) (nxP zss))) :
    (ord.map fun p => (listP zss).getD p (0, 0)).Perm (listP zss) ∧ (ord.map fun p => (listP zss).getD p (0, 0)).Pairwise (RP zss) := by
  constructor
  · have := hp.map fun p => (listP zss).getD p (0, 0)
    rwa [map_range_getD] at this
  · rw [List.pairwise_map]
    refine List.Pairwise.imp_of_mem ?_ hr
    intro p q h1 h2 h
    exact RR_RP (List.mem_range.1 (hp.mem_iff.1 h1)) (List.mem_range.1 (hp.mem_iff.1 h2)) h
theorem sorted_unique {zss : List (List Int)} {l l' : List (Nat × Nat)} (h1 : l.Perm (listP zss)) (h2 : l'.Perm (listP zss)) (k1 : l.Pairwise (RP zss)) (k2 : l'.Pairwise (RP zss)) : l = l' :=
  List.Perm.eq_of_pairwise (le := RP zss) (fun a b _ _ h k => (h.asymm k).elim) k1 k2 (h1.trans h2.symm)

/-- What the document's search for the place keeps. -/
def Ins (zss : List (List Int)) (out : List (Nat × Nat)) (t : Nat × Nat) (j : Nat) : Prop := ∀ m, j ≤ m → m < out.length → LtF (sqP zss t) (sqP zss (out.getD m (0, 0)))
theorem getP_mem {l : List (Nat × Nat)} {i : Nat} (h : i < l.length) : l.getD i (0, 0) ∈ l := by
  rw [List.getD_eq_getElem?_getD, List.getElem?_eq_getElem h]
  exact List.getElem_mem h
theorem mem_getP {l : List (Nat × Nat)} {x : Nat × Nat} (h : x ∈ l) : ∃ i, i < l.length ∧ l.getD i (0, 0) = x := by
  obtain ⟨i, hi, e⟩ := List.mem_iff_getElem.1 h
  exact ⟨i, hi, by rw [List.getD_eq_getElem?_getD, List.getElem?_eq_getElem hi]; exact e⟩
theorem pairP_at {R : Nat × Nat → Nat × Nat → Prop} {l : List (Nat × Nat)} (h : l.Pairwise R) {i j : Nat} (hij : i < j) (hj : j < l.length) : R (l.getD i (0, 0)) (l.getD j (0, 0)) := by
  have := List.pairwise_iff_getElem.1 h i j (by omega) hj hij
  simpa [List.getD, List.getElem?_eq_getElem hj, List.getElem?_eq_getElem (show i < l.length by omega)] using this
/-- In its place: what is ahead of it is not greater, what is behind it is. -/
theorem Ins.place {zss : List (List Int)} {out : List (Nat × Nat)} {t : Nat × Nat} {j : Nat} (hj : j ≤ out.length) (h : Ins zss out t j) (hs : out.Pairwise (RP zss)) (hb : ∀ u ∈ out, Bef u t)
    (he : j = 0 ∨ ¬ LtF (sqP zss t) (sqP zss (out.getD (j - 1) (0, 0)))) : (out.take j ++ [t] ++ out.drop j).Pairwise (RP zss) := by
  have hahead : ∀ x ∈ out.take j, RP zss x t := fun x hx => by
    have hx' : x ∈ out := List.mem_of_mem_take hx
    obtain ⟨m, hm, rfl⟩ := mem_getP hx
    rw [List.length_take] at hm
    have e0 : (out.take j).getD m (0, 0) = out.getD m (0, 0) := by
      simp only [List.getD_eq_getElem?_getD, List.getElem?_take]
      rw [if_pos (by omega)]
    rw [e0] at hx' ⊢
    have hne : ¬ LtF (sqP zss t) (sqP zss (out.getD m (0, 0))) := fun hlt => by
      rcases he with he | he
      · omega
      · by_cases hmj : m = j - 1
        · subst hmj; exact he hlt
        · rcases pairP_at hs (show m < j - 1 by omega) (by omega) with g | ⟨g, _⟩
          · exact he (LtF.trans hlt g)
          · obtain ⟨n, n1, n2⟩ := hlt
            exact he ⟨n, fun k hk => (n1 k hk).trans (g k), by rw [← g n]; exact n2⟩
    by_cases hlt : LtF (sqP zss (out.getD m (0, 0))) (sqP zss t)
    · exact .inl hlt
    · refine .inr ⟨fun k => ?_, hb _ hx'⟩
      rcases first_other (f := sqP zss (out.getD m (0, 0))) (g := sqP zss t) (k + 1) with g | ⟨n, _, g1, g2⟩
      · exact g k (by omega)
      · exfalso
        by_cases g3 : sqP zss (out.getD m (0, 0)) n < sqP zss t n
        · exact hlt ⟨n, g1, g3⟩
        · exact hne ⟨n, fun k hk => (g1 k hk).symm, by omega⟩
  have hbehind : ∀ y ∈ out.drop j, RP zss t y := fun y hy => by
    obtain ⟨m, hm, rfl⟩ := mem_getP hy
    rw [List.length_drop] at hm
    have e0 : (out.drop j).getD m (0, 0) = out.getD (j + m) (0, 0) := by
      simp only [List.getD_eq_getElem?_getD, List.getElem?_drop]
    rw [e0]
    exact .inl (h (j + m) (by omega) (by omega))
  have hs' : (out.take j ++ out.drop j).Pairwise (RP zss) := by rw [List.take_append_drop]; exact hs
  rw [List.pairwise_append] at hs' ⊢
  obtain ⟨p1, p2, p3⟩ := hs'
  refine ⟨?_, p2, ?_⟩
  · rw [List.pairwise_append]
    exact ⟨p1, List.pairwise_singleton _ _, fun a ha b hb => by rw [List.mem_singleton] at hb; subst hb; exact hahead a ha⟩
  · intro a ha y hy
    rcases List.mem_append.1 ha with ha | ha
    · exact p3 a ha y hy
    · rw [List.mem_singleton] at ha; subst ha; exact hbehind y hy
theorem ins_perm {out l : List (Nat × Nat)} {t : Nat × Nat} {j : Nat} (h : out.Perm l) : (out.take j ++ [t] ++ out.drop j).Perm (l ++ [t]) := by
  have h1 : (out.take j ++ [t] ++ out.drop j).Perm (out.take j ++ (out.drop j ++ [t])) := by
    rw [List.append_assoc]
    exact List.perm_append_comm.append_left _
  refine h1.trans ?_
  rw [← List.append_assoc, List.take_append_drop]
  exact h.append_right _
/-- All that were listed ahead of a rotation are ahead of it. -/
theorem listed_bef {zss : List (List Int)} {i j : Nat} {u : Nat × Nat} (h : u ∈ listK zss i ++ rowP i j) : Bef u (i, j) := by
  rcases List.mem_append.1 h with h | h
  · obtain ⟨k, hk, hu⟩ := List.mem_flatMap.1 h
    obtain ⟨m, hm, rfl⟩ := List.mem_map.1 hu
    exact .inl (List.mem_range.1 hk)
  · obtain ⟨m, hm, rfl⟩ := List.mem_map.1 h
    exact .inr ⟨rfl, List.mem_range.1 hm⟩
theorem listed_in {zss : List (List Int)} {i j : Nat} {u : Nat × Nat} (hi : i < zss.length) (hj : j ≤ (wordAt zss i).length) (h : u ∈ listK zss i ++ rowP i j) : u.1 < zss.length ∧ u.2 < (wordAt zss u.1).length := by
  rcases List.mem_append.1 h with h | h
  · obtain ⟨k, hk, hu⟩ := List.mem_flatMap.1 h
    obtain ⟨m, hm, rfl⟩ := List.mem_map.1 hu
    have := List.mem_range.1 hk
    have := List.mem_range.1 hm
    exact ⟨by show k < _; omega, by show m < _; omega⟩
  · obtain ⟨m, hm, rfl⟩ := List.mem_map.1 h
    have := List.mem_range.1 hm
    exact ⟨hi, by show m < (wordAt zss i).length; omega⟩
end Go.Proofs.YtlmbdafilboblaaGreat

/- A text's factors, cut off one by one. No conditions. -/
namespace Go.Proofs.YtlmbdafilboblaaGreat
set_option linter.unusedVariables false
set_option linter.unusedSimpArgs false
open Go.RowKit

theorem cutFac_len : ∀ (l s : List Int), (cutFac l s).length = l.length
  | [], _ => rfl
  | _ :: l, s => by rw [cutFac, List.length_cons, List.length_cons, cutFac_len l]
theorem facW_len (s : List Int) : (facW s).length ≤ s.length := by
  unfold facW
  rw [cutFac_len]
  exact facL_len _ s (Nat.le_refl _)
theorem facW_off (s : List Int) : offP (facW s) (facW s).length = s.length := by
  rw [offP_flat (facW s) (Nat.le_refl _), List.take_length, (facW_flat s.length s (Nat.le_refl _)).1]
/-- What is left, a factor on. -/
theorem fac_next {F rest : List Int} {i : Nat} (hi : i < F.length) (h : F.drop i = facL rest) : rest.length ≠ 0 ∧ F.getD i 0 = (longI rest : Int) ∧ F.drop (i + 1) = facL (rest.drop (longI rest)) := by
  have hd := List.drop_eq_getElem_cons hi
  have h0 : rest.length ≠ 0 := fun e => by rw [facL_nil e, hd] at h; cases h
  rw [facL_cons h0, hd, List.cons.injEq] at h
  refine ⟨h0, ?_, h.2⟩
  rw [List.getD_eq_getElem?_getD, List.getElem?_eq_getElem hi]
  exact h.1
theorem sl_slice {k : IntKind} {w : World} {v : Value} {zs : List Int} (h : Sl k w v zs) : ∃ a c, v = .slice a zs.length c := by
  obtain ⟨a, c, rfl, _⟩ := h
  exact ⟨a, c, rfl⟩
end Go.Proofs.YtlmbdafilboblaaGreat

/- Arguments opened: a slice of slices of bytes. Over any program; no conditions. -/
namespace Go.Proofs.YtlmbdafilboblaaGreat
set_option linter.unusedVariables false
set_option linter.unusedSimpArgs false
open Go.RowKit Go.ChangeShapes Go.WideShapes Go.Deep

/-- A row of rows of bytes. -/
def Sls (w : World) (v : Value) (zss : List (List Int)) : Prop :=
  ∃ a c, v = .slice a zss.length c ∧ zss.length ≤ maxLen ∧ (zss = [] ∨ ∃ b off, a = some ⟨b, off, none⟩ ∧ ∀ i, i < zss.length → ∃ s, w.cell? ⟨b, off + i, none⟩ = some s ∧ Sl .u8 w s (zss.getD i []))

theorem mem_weightsAll {H : Type} {P : Program} {e : TypeId} {n : Nat} {d : DataW H} (hn : n ∈ d.weights P e) : ∀ {l : List (DataW H)}, d ∈ l → n ∈ DataW.weightsAll P e l
  | d0 :: l, h => by
    simp only [DataW.weightsAll, List.mem_append]
    rcases List.mem_cons.1 h with rfl | h
    · exact .inl hn
    · exact .inr (mem_weightsAll hn h)

/-- A slice of slices of bytes that came in: its rows, each byte in its bounds, each row within the reach. -/
theorem open_bytess {H : Type} {enc : TypeId × Value → H} {P : Program} {w : World} {t e q : TypeId} {a : Option Addr} {len cap : Nat} {d : DataW H} {ps : List MemPlace}
    (ht : P.underlying t = some (.slice e)) (he : P.underlying e = some (.slice q)) (hq : P.underlying q = some (.int .u8)) (ce : P.cellsOf e = 1) (cq : P.cellsOf q = 1) (bq : P.bytesOf q = 1)
    (h : DataW.Trod enc P w 0 (fun _ => true) true t (.slice a len cap) d ps) (hsz : ∀ n ∈ d.weights P t, n ≤ reachBytes) :
    ∃ zss, Sls w (.slice a len cap) zss ∧ (∀ zs ∈ zss, ∀ z ∈ zs, 0 ≤ z ∧ z ≤ 255) ∧ ∀ zs ∈ zss, zs.length ≤ 140737488351232 := by
  obtain ⟨fuel, hf⟩ := h
  rcases open_int_rows ht he hq ce cq hf with ⟨hcs, _⟩ | ⟨x, len', cap', A, L, C, Z, hcs, _, hl, hm, hx, hrows⟩
  · simp [Value.cells] at hcs
    obtain ⟨rfl, rfl, rfl⟩ := hcs
    exact ⟨[], ⟨_, 0, rfl, by simp, .inl rfl⟩, by simp, by simp⟩
  simp [Value.cells] at hcs
  obtain ⟨rfl, rfl, rfl⟩ := hcs
  simp only [Prod.mk.injEq] at hx
  obtain ⟨rfl, _⟩ := hx
  have hmem : ∀ zs, zs ∈ ((List.range len).map fun r => (Z r).take (L r)) → ∃ r, r < len ∧ zs = (Z r).take (L r) := fun zs hz => by
    obtain ⟨r, hr, e⟩ := List.mem_map.1 hz
    exact ⟨r, List.mem_range.1 hr, e.symm⟩
  refine ⟨(List.range len).map fun r => (Z r).take (L r), ?_, ?_, ?_⟩
  · refine ⟨some x, cap, by simp, by simp; omega, ?_⟩
    by_cases h0 : len = 0
    · subst h0; exact .inl rfl
    obtain ⟨b, off, spot⟩ := x
    have hspot : spot = none := by simpa [Addr.add] using World.cell?_spot (hrows 0 (by omega)).1
    subst hspot
    refine .inr ⟨b, off, rfl, fun i hi => ?_⟩
    have hi' : i < len := by simpa using hi
    obtain ⟨h1, h2, h3, h4, h5, h6, h7⟩ := hrows i (by omega)
    refine ⟨_, by rw [← add_plain]; exact h1, ?_⟩
    have e1 : ((List.range len).map fun r => (Z r).take (L r)).getD i [] = (Z i).take (L i) := by simp [List.getD, hi']
    rw [e1]
    refine (Sl.ofRow (zs := Z i) ?_).1
    cases hA : A i with
    | none =>
      have hc := h6 hA
      exact .inl ⟨rfl, by omega, hc, List.length_eq_zero_iff.1 (by omega)⟩
    | some a' => exact .inr ⟨a', rfl, h2, h3, h4, fun j hj => (h7 a' hA).2 j (by omega), h5⟩
  · intro zs hz z hzz
    obtain ⟨r, hr, rfl⟩ := hmem zs hz
    exact Go.bounds_u8 ((hrows r (by omega)).2.2.2.2.1 z (List.mem_of_mem_take hzz))
  · intro zs hz
    obtain ⟨r, hr, rfl⟩ := hmem zs hz
    obtain ⟨h1, h2, h3, h4, h5, h6, h7⟩ := hrows r (by omega)
    have hlen : ((Z r).take (L r)).length ≤ C r := by simp; omega
    refine Nat.le_trans hlen ?_
    cases hA : A r with
    | none => rw [h6 hA]; omega
    | some a' =>
      have hw : C r ∈ (intRow (H := H) .u8 (A r) (L r) (Z r)).weights P e := by
        rw [hA]
        simp only [intRow, DataW.weights, he, bq, lits, List.length_map, List.length_take, List.length_drop, Nat.mul_one, List.mem_cons]
        left; omega
      have hd : intRow (H := H) .u8 (A r) (L r) (Z r) ∈ (List.range len).map fun r => intRow .u8 (A r) (L r) (Z r) := List.mem_map.2 ⟨r, List.mem_range.2 hr, rfl⟩
      have := hsz (C r) (by
        simp only [DataW.weights, ht, List.mem_cons, List.mem_append]
        exact .inr (.inl (mem_weightsAll hw hd)))
      exact this
end Go.Proofs.YtlmbdafilboblaaGreat

/- Rows of rows of bytes: what stays, and some that are laid. Over any program; no conditions. -/
namespace Go.Proofs.YtlmbdafilboblaaGreat
set_option linter.unusedVariables false
set_option linter.unusedSimpArgs false
open Go.RowKit

theorem Sls.ext {w w' : World} {v : Value} {zss : List (List Int)} (h : Sls w v zss) (he : Ext w w') : Sls w' v zss := by
  obtain ⟨a, c, h1, h2, h4⟩ := h
  refine ⟨a, c, h1, h2, ?_⟩
  rcases h4 with h4 | ⟨g, off, h4, h5⟩
  · exact .inl h4
  · refine .inr ⟨g, off, h4, fun i hi => ?_⟩
    obtain ⟨s, h6, h7⟩ := h5 i hi
    exact ⟨s, he.cellOf h6, h7.ext he⟩

theorem drop_cons' {α : Type} (zs : List α) (k : Nat) (d x : α) (h : k < zs.length) (hx : zs.getD k d = x) : zs.drop k = x :: zs.drop (k + 1) := by
  rw [List.getD_eq_getElem?_getD, List.getElem?_eq_getElem h, Option.getD_some] at hx
  rw [← hx, ← List.getElem_cons_drop h]

theorem Sls.one {w : World} {s : Value} {zs : List Int} {e : TypeId} (h : Sl .u8 w s zs) (g : Nat) (hg : g = w.heap.size) : Sls (w.alloc (.cells #[s] e)) (.slice (some ⟨g, 0, none⟩) 1 1) [zs] := by
  subst hg
  refine ⟨_, 1, rfl, by simp [maxLen], .inr ⟨w.heap.size, 0, rfl, fun i hi => ?_⟩⟩
  have he : Ext w (w.alloc (.cells #[s] e)) := (Below.refl _ _).alloc (Nat.le_refl _) _
  match i, hi with
  | 0, _ => exact ⟨s, by simp, h.ext he⟩
theorem Sls.two {w : World} {s u : Value} {zs ys : List Int} {e : TypeId} (h : Sl .u8 w s zs) (h' : Sl .u8 w u ys) (g : Nat) (hg : g = w.heap.size) : Sls (w.alloc (.cells #[s, u] e)) (.slice (some ⟨g, 0, none⟩) 2 2) [zs, ys] := by
  subst hg
  refine ⟨_, 2, rfl, by simp [maxLen], .inr ⟨w.heap.size, 0, rfl, fun i hi => ?_⟩⟩
  have he : Ext w (w.alloc (.cells #[s, u] e)) := (Below.refl _ _).alloc (Nat.le_refl _) _
  match i, hi with
  | 0, _ => exact ⟨s, by simp, h.ext he⟩
  | 1, _ => exact ⟨u, by simp, h'.ext he⟩
theorem Sls.none (w : World) : Sls w (.slice .none 0 0) [] := ⟨_, 0, rfl, by simp, .inl rfl⟩

theorem flatten_take {zss : List (List Int)} {k : Nat} {zs : List Int} (hk : k < zss.length) (h : zss.getD k [] = zs) : (zss.take (k + 1)).flatten = (zss.take k).flatten ++ zs := by
  rw [List.getD_eq_getElem?_getD, List.getElem?_eq_getElem hk, Option.getD_some] at h
  rw [List.take_add_one, List.getElem?_eq_getElem hk, Option.toList_some, List.flatten_append, h]
  simp
theorem flatten_take_le (zss : List (List Int)) (k : Nat) : (zss.take k).flatten.length ≤ zss.flatten.length := by
  have h : (zss.take k).flatten ++ (zss.drop k).flatten = zss.flatten := by rw [← List.flatten_append, List.take_append_drop]
  rw [← h, List.length_append]
  omega

/-- The row at place k. -/
theorem Sls.row {w : World} {a : Option Addr} {n c : Nat} {zss : List (List Int)} (h : Sls w (.slice a n c) zss) {k : Nat} (hk : k < zss.length) :
    ∃ g off a2 c2, a = some ⟨g, off, .none⟩ ∧ w.cell? ⟨g, off + k, .none⟩ = some (.slice a2 (zss.getD k []).length c2) ∧ c2 ≤ maxLen ∧ (zss.getD k []).length ≤ c2 ∧ Sl .u8 w (.slice a2 (zss.getD k []).length c2) (zss.getD k []) := by
  obtain ⟨a', c', hv, _, h4⟩ := h
  simp only [Value.slice.injEq] at hv
  obtain ⟨rfl, _, rfl⟩ := hv
  rcases h4 with h4 | ⟨g, off, rfl, h5⟩
  · rw [h4] at hk; exact absurd hk (by simp)
  obtain ⟨s, h6, h7⟩ := h5 k hk
  have h8 := h7
  obtain ⟨a2, c2, rfl, h9, h10, _⟩ := h7
  exact ⟨g, off, a2, c2, rfl, h6, h10, h9, h8⟩
end Go.Proofs.YtlmbdafilboblaaGreat

/- Rows of slices of bytes as rows of values ([][]byte): read, owned, appended to. -/
namespace Go.Proofs.YtlmbdafilboblaaGreat
set_option linter.unusedVariables false
set_option linter.unusedSimpArgs false
open Go.RowKit

/-- A row of values that may be read. -/
def SlV (w : World) (v : Value) (vs : List Value) : Prop :=
  ∃ a c, v = .slice a vs.length c ∧ vs.length ≤ c ∧ c ≤ maxLen ∧ (a = none → c = 0) ∧ (vs = [] ∨ ∃ b off, a = some ⟨b, off, none⟩ ∧ ∀ i u, vs[i]? = some u → w.cell? ⟨b, off + i, none⟩ = some u)
/-- What they read as. -/
def Read8 (w : World) (vs : List Value) (zss : List (List Int)) : Prop := vs.length = zss.length ∧ ∀ i u, vs[i]? = some u → Sl .u8 w u (zss.getD i [])
/-- Each the call's own. -/
def Rows8 (B : Nat) (w : World) (vs : List Value) (zss : List (List Int)) : Prop := vs.length = zss.length ∧ ∀ i u, vs[i]? = some u → Own .u8 5 B w u (zss.getD i [])
/-- The row itself the call's own. -/
def OwnV (B : Nat) (w : World) (s : Value) (vs : List Value) : Prop := w.ownsRow B 22 1 s vs.length vs

theorem SlV.ext {w w' : World} {v : Value} {vs : List Value} (h : SlV w v vs) (he : Ext w w') : SlV w' v vs := by
  obtain ⟨a, c, h1, h2, h3, h0, h4⟩ := h
  refine ⟨a, c, h1, h2, h3, h0, ?_⟩
  rcases h4 with h4 | ⟨b, off, h4, h5⟩
  · exact .inl h4
  · exact .inr ⟨b, off, h4, fun j v hj => he.cellOf (h5 j v hj)⟩
theorem Read8.ext {w w' : World} {vs : List Value} {zss : List (List Int)} (h : Read8 w vs zss) (he : Ext w w') : Read8 w' vs zss := ⟨h.1, fun i u hu => (h.2 i u hu).ext he⟩
theorem Rows8.ext {B : Nat} {w w' : World} {vs : List Value} {zss : List (List Int)} (h : Rows8 B w vs zss) (he : Ext w w') : Rows8 B w' vs zss := ⟨h.1, fun i u hu => (h.2 i u hu).ext he⟩
theorem Rows8.low {B B' : Nat} {w : World} {vs : List Value} {zss : List (List Int)} (h : Rows8 B w vs zss) (hB : B' ≤ B) : Rows8 B' w vs zss := ⟨h.1, fun i u hu => (h.2 i u hu).low hB⟩
theorem Rows8.read {B : Nat} {w : World} {vs : List Value} {zss : List (List Int)} (h : Rows8 B w vs zss) : Read8 w vs zss := ⟨h.1, fun i u hu => (h.2 i u hu).sl⟩
theorem OwnV.ext {B : Nat} {w w' : World} {s : Value} {vs : List Value} (h : OwnV B w s vs) (he : Ext w w') : OwnV B w' s vs :=
  World.ownsRow.kept (row := none) h ⟨he.os, he.tape, he.output, he.size, fun i hi _ => he.block i hi⟩ (by cases hv : s.ownBlock <;> simp)
theorem OwnV.low {B B' : Nat} {w : World} {s : Value} {vs : List Value} (h : OwnV B w s vs) (hB : B' ≤ B) : OwnV B' w s vs := by
  obtain ⟨h1, h2⟩ := h
  refine ⟨h1, ?_⟩
  rcases h2 with h2 | ⟨g, cap, cur, h2, h3, h4⟩
  · exact .inl h2
  · exact .inr ⟨g, cap, cur, h2, Nat.le_trans hB h3, h4⟩
theorem OwnV.nil (B : Nat) (w : World) : OwnV B w (.slice none 0 0) [] := World.ownsRow_nil _ _ _ _
theorem OwnV.sl {B : Nat} {w : World} {s : Value} {vs : List Value} (h : OwnV B w s vs) : SlV w s vs := by
  rcases h.2 with ⟨rfl, h2⟩ | ⟨g, cap, cur, rfl, _, hh, hn, hm, hs, ht⟩
  · exact ⟨none, 0, by rw [h2], by omega, by simp [maxLen], fun _ => rfl, .inl (List.length_eq_zero_iff.1 h2)⟩
  · refine ⟨_, cap, rfl, hn, hm, (fun h => by cases h), .inr ⟨g, 0, rfl, fun j v hj => ?_⟩⟩
    have := World.ownsRow.cells h (g := g) rfl j v hj
    rwa [Addr.add_mid] at this
/-- An empty row just laid. -/
theorem OwnV.lit (B : Nat) (w : World) (hB : B ≤ w.heap.size) (g : Nat) (hg : g = w.heap.size) : OwnV B (w.alloc (.cells #[] 22)) (.slice (some ⟨g, 0, none⟩) 0 0) [] := by
  subst hg
  exact World.ownsRow_made w #[] 0 hB (by simp) (by simp)
theorem SlV.sls {w : World} {v : Value} {vs : List Value} {zss : List (List Int)} (h : SlV w v vs) (hr : Read8 w vs zss) : Sls w v zss := by
  obtain ⟨a, c, h1, h2, h3, h0, h4⟩ := h
  refine ⟨a, c, by rw [h1, hr.1], by rw [← hr.1]; omega, ?_⟩
  rcases h4 with h4 | ⟨b, off, h4, h5⟩
  · left
    have := hr.1
    rw [h4] at this
    exact List.length_eq_zero_iff.1 this.symm
  · refine .inr ⟨b, off, h4, fun i hi => ?_⟩
    have hv : vs[i]? = some (vs[i]'(by rw [hr.1]; exact hi)) := List.getElem?_eq_getElem _
    exact ⟨_, h5 i _ hv, hr.2 i _ hv⟩
theorem Sl.cell1 {k : IntKind} {w : World} {v : Value} {zs : List Int} (h : Sl k w v zs) : v.oneCell' = true := by
  obtain ⟨a, c, rfl, _⟩ := h
  rfl
theorem Read8.one {w : World} {vs : List Value} {zss : List (List Int)} (h : Read8 w vs zss) : ∀ u ∈ vs, u.oneCell' = true := fun u hu => by
  obtain ⟨i, hi, e⟩ := List.mem_iff_getElem.1 hu
  exact (h.2 i u (by rw [List.getElem?_eq_getElem hi, e])).cell1
theorem Read8.nil (w : World) : Read8 w [] [] := ⟨rfl, fun i u h => by simp at h⟩
theorem Rows8.nil (B : Nat) (w : World) : Rows8 B w [] [] := ⟨rfl, fun i u h => by simp at h⟩
theorem getD_app_left {α : Type} {x y : List α} {i : Nat} {d : α} (h : i < x.length) : (x ++ y).getD i d = x.getD i d := by simp only [List.getD_eq_getElem?_getD]; rw [List.getElem?_append_left h]
theorem getD_app_right {α : Type} {x y : List α} {i : Nat} {d : α} (h : x.length ≤ i) : (x ++ y).getD i d = y.getD (i - x.length) d := by simp only [List.getD_eq_getElem?_getD]; rw [List.getElem?_append_right h]
theorem lt_of_some {α : Type} {l : List α} {i : Nat} {u : α} (h : l[i]? = some u) : i < l.length := (List.getElem?_eq_some_iff.1 h).1
theorem Read8.app {w : World} {vs us : List Value} {zss yss : List (List Int)} (h : Read8 w vs zss) (k : Read8 w us yss) : Read8 w (vs ++ us) (zss ++ yss) := by
  refine ⟨by rw [List.length_append, List.length_append, h.1, k.1], fun i u hu => ?_⟩
  by_cases hi : i < vs.length
  · rw [List.getElem?_append_left hi] at hu
    rw [getD_app_left (by rw [← h.1]; exact hi)]
    exact h.2 i u hu
  · rw [List.getElem?_append_right (by omega)] at hu
    rw [getD_app_right (by rw [← h.1]; omega), ← h.1]
    exact k.2 _ u hu
theorem Read8.single {w : World} {u : Value} {zs : List Int} (h : Sl .u8 w u zs) : Read8 w [u] [zs] := ⟨rfl, fun i v hv => by
  have := lt_of_some hv
  simp at this
  subst this
  simp at hv
  subst hv
  exact h⟩
theorem Rows8.app {B : Nat} {w : World} {vs us : List Value} {zss yss : List (List Int)} (h : Rows8 B w vs zss) (k : Rows8 B w us yss) : Rows8 B w (vs ++ us) (zss ++ yss) := by
  refine ⟨by rw [List.length_append, List.length_append, h.1, k.1], fun i u hu => ?_⟩
  by_cases hi : i < vs.length
  · rw [List.getElem?_append_left hi] at hu
    rw [getD_app_left (by rw [← h.1]; exact hi)]
    exact h.2 i u hu
  · rw [List.getElem?_append_right (by omega)] at hu
    rw [getD_app_right (by rw [← h.1]; omega), ← h.1]
    exact k.2 _ u hu
theorem Rows8.single {B : Nat} {w : World} {u : Value} {zs : List Int} (h : Own .u8 5 B w u zs) : Rows8 B w [u] [zs] := ⟨rfl, fun i v hv => by
  have := lt_of_some hv
  simp at this
  subst this
  simp at hv
  subst hv
  exact h⟩
theorem Rows8.take {B : Nat} {w : World} {vs : List Value} {zss : List (List Int)} (h : Rows8 B w vs zss) (n : Nat) : Rows8 B w (vs.take n) (zss.take n) := by
  refine ⟨by rw [List.length_take, List.length_take, h.1], fun i u hu => ?_⟩
  rw [List.getElem?_take] at hu
  split at hu
  · rename_i hi
    rw [List.getD_eq_getElem?_getD, List.getElem?_take, if_pos hi, ← List.getD_eq_getElem?_getD]
    exact h.2 i u hu
  · cases hu
theorem Rows8.drop {B : Nat} {w : World} {vs : List Value} {zss : List (List Int)} (h : Rows8 B w vs zss) (n : Nat) : Rows8 B w (vs.drop n) (zss.drop n) := by
  refine ⟨by rw [List.length_drop, List.length_drop, h.1], fun i u hu => ?_⟩
  rw [List.getElem?_drop] at hu
  rw [List.getD_eq_getElem?_getD, List.getElem?_drop, ← List.getD_eq_getElem?_getD]
  exact h.2 _ u hu

/-- A block has one type: a row of another type stays. -/
theorem owns_other {e e' : TypeId} {B B' n m sz sz' : Nat} {w w' : World} {v x : Value} {xs ys : List Value} (hv : w.ownsRow B e sz v n xs) (hx : w.ownsRow B' e' sz' x m ys) (he : e ≠ e') (hg : w.grownBy w' v.ownBlock) : w'.ownsRow B' e' sz' x m ys := by
  refine World.ownsRow.kept (row := v.ownBlock) hx hg ?_
  rcases hx.2 with ⟨h, _⟩ | ⟨g, cap, cur, h, _, hb, _⟩
  · rw [h]; exact .inl rfl
  · refine .inr fun e1 => ?_
    rcases hv.2 with ⟨h', _⟩ | ⟨g', cap', cur', h', _, hb', _⟩
    · rw [h, h'] at e1; simp [Value.ownBlock] at e1
    · rw [h, h'] at e1
      simp only [Value.ownBlock, Option.some.injEq] at e1
      subst e1
      rw [hb] at hb'
      cases hb'
      exact he rfl
theorem owns_grown {e : TypeId} {B n sz : Nat} {w w' : World} {v : Value} {xs : List Value} (h : w.ownsRow B e sz v n xs) (hB : B ≤ w.heap.size) (hg : w.grownBy w' v.ownBlock) : Below B w w' :=
  (Below.refl _ _).grown hg hB (fun k hk => (World.ownsRow.lt h k hk).1)
theorem Rows8.other {B B' : Nat} {w w' : World} {s : Value} {vs us : List Value} {zss : List (List Int)} (h : Rows8 B w us zss) (hv : OwnV B' w s vs) (hg : w.grownBy w' s.ownBlock) : Rows8 B w' us zss :=
  ⟨h.1, fun i u hu => owns_other hv (h.2 i u hu) (by decide) hg⟩

theorem infoV : (Tryz.prog.info? 22).map (fun i => (i.zero, i.size, i.bytes)) = some (some (.slice none 0 0), 1, 24) := by kernel_rfl
theorem info_partsV {P : Program} {e : TypeId} {z : Value} {n b : Nat} (h : (P.info? e).map (fun i => (i.zero, i.size, i.bytes)) = some (some z, n, b)) : ∃ i, P.info? e = some i ∧ i.zero = some z ∧ i.size = n ∧ i.bytes = b := by
  cases hi : P.info? e with
  | none => simp [hi] at h
  | some i =>
    simp only [hi, Option.map_some, Option.some.injEq, Prod.mk.injEq] at h
    exact ⟨i, rfl, h.1, h.2.1, h.2.2⟩

/-- 'append(s, x)' -/
theorem wpList_snocV (w : World) {ops : Array Oper} {rest : List Oper} {o : Oper} {a : Act} {Q : Exit → Act → World → Prop} (hgd : o.guard = none) (s x : Operand)
    (ho : o.op = .call { callee := .builtin .append, args := #[s, x], argTypes := #[31, 31] }) (B : Nat) (v : Value) (vs : List Value) (u : Value) (g : Nat) (hs : a.eval s = v) (hx : a.eval x = .slice (some ⟨g, 0, none⟩) 1 1)
    (hc : w.cell? ⟨g, 0, none⟩ = some u) (h1 : u.oneCell' = true) (hown : OwnV B w v vs) (hlen : vs.length + 1 ≤ 1000000) (hB : B ≤ w.heap.size)
    (h : ∀ v' w', OwnV B w' v' (vs ++ [u]) → w.grownBy w' v.ownBlock → wpList Tryz.prog ops Q rest (a.put o.dst v') w') : wpList Tryz.prog ops Q (o :: rest) a w := by
  obtain ⟨i0, hi, hz0, hz1, hz2⟩ := info_partsV infoV
  refine wpList_append_own w hgd s x 31 ho B 22 i0 (.slice none 0 0) 1 24 Tryz.underlying31 hi hz0 hz1 hz2 rfl (by decide) v _ _ hs hown ⟨g, 0, none⟩ 1 1 [u] hx rfl ?_ (by simpa using h1) (by unfold maxLen; omega) (by omega) hB ?_
  · intro j u' hj
    rw [Addr.add_mid, Nat.zero_add]
    match j, hj with
    | 0, hj => simp at hj; subst hj; exact hc
  · intro v' w' k1 k2 _
    refine h v' w' ?_ k2
    unfold OwnV
    rw [List.length_append]
    exact k1

/-- 'append(s, xs...)' -/
theorem wpList_joinV (w : World) {ops : Array Oper} {rest : List Oper} {o : Oper} {a : Act} {Q : Exit → Act → World → Prop} (hgd : o.guard = none) (s x : Operand)
    (ho : o.op = .call { callee := .builtin .append, args := #[s, x], argTypes := #[31, 31] }) (B : Nat) (v y : Value) (vs us : List Value) (hs : a.eval s = v) (hx : a.eval x = y)
    (hsl : SlV w y us) (h1 : ∀ u ∈ us, u.oneCell' = true) (hown : OwnV B w v vs) (hlen : vs.length + us.length ≤ 1000000) (hB : B ≤ w.heap.size)
    (h : ∀ v' w', OwnV B w' v' (vs ++ us) → w.grownBy w' v.ownBlock → wpList Tryz.prog ops Q rest (a.put o.dst v') w') : wpList Tryz.prog ops Q (o :: rest) a w := by
  obtain ⟨i0, hi, hz0, hz1, hz2⟩ := info_partsV infoV
  obtain ⟨ad, c, rfl, h2, h3, h0, h4⟩ := hsl
  cases ad with
  | none =>
    have hc := h0 rfl
    subst hc
    have hy : us = [] := List.length_eq_zero_iff.1 (by omega)
    subst hy
    refine wpList_append_own_none hgd s x 31 ho B 22 i0 1 Tryz.underlying31 hi v _ _ hs hown hx ?_
    refine h v w ?_ ⟨rfl, rfl, rfl, Nat.le_refl _, fun _ _ _ => rfl⟩
    rw [List.append_nil]; exact hown
  | some ad =>
    refine wpList_append_own w hgd s x 31 ho B 22 i0 (.slice none 0 0) 1 24 Tryz.underlying31 hi hz0 hz1 hz2 rfl (by decide) v _ _ hs hown ad us.length c us hx (by simp) ?_ h1 (by unfold maxLen; omega) (by omega) hB (fun v' w' k1 k2 _ => h v' w' (by unfold OwnV; rw [List.length_append]; exact k1) k2)
    intro j u hj
    rcases h4 with rfl | ⟨b, off, hb, h5⟩
    · simp at hj
    · simp only [Option.some.injEq] at hb
      subst hb
      rw [Go.WideShapes.add_plain]
      exact h5 j u hj
end Go.Proofs.YtlmbdafilboblaaGreat

/- Contract of bij.factors. -/
namespace Go.Proofs.YtlmbdafilboblaaGreat
set_option linter.unusedVariables false
set_option linter.unusedSimpArgs false
open Go.RowKit

set_option maxHeartbeats 2000000 in
theorem bjFactors_any (v : Value) (zs : List Int) (w : World) (hv : Sl .u8 w v zs) (hlen : zs.length ≤ 100000) :
    Calls Tryz.prog 16 #[v] w fun e w' => ∃ s, e = .returned s ∧ Sls w' s (facW zs) ∧ Ext w w' := by
  have HV := hide' hv
  have C := hide' (factors_any v zs w hv (by omega))
  have HFL := hide' (facL_len zs.length zs (Nat.le_refl _))
  obtain ⟨a, c, rfl⟩ := sl_slice hv
  obtain ⟨n, HN⟩ : ∃ n, Hid (zs.length = n) := ⟨_, rfl⟩
  have HF0 : Hid ((facL zs).drop 0 = facL zs) := List.drop_zero
  have HW0 : Hid (facW zs = [] ++ facW zs) := rfl
  obtain ⟨F, HF⟩ : ∃ F, Hid (facL zs = F) := ⟨_, rfl⟩
  obtain ⟨m, HM⟩ : ∃ m, Hid (F.length = m) := ⟨_, rfl⟩
  rw [HN.out] at hlen HFL
  rw [HF.out] at C HFL
  rw [HM.out] at HFL
  have hm := HFL.out
  clear hv
  go_enter Tryz.func16, Tryz.ntmps16
  rw [HN.out] at C ⊢
  go_wp2_with fail
  refine C.out.mono ?_
  rintro e w1 ⟨s, rfl, ho, he⟩
  have S1 := hide' ho.sl
  have X1 := hide' he
  have hsz1 := he.size
  clear ho he C
  obtain ⟨sa, sc, hs⟩ := sl_slice S1.out
  rw [HM.out] at hs
  subst hs
  obtain ⟨_, _, _, hco⟩ := S1.out.int
  have CO := hide' hco
  clear hco S1
  go_wp2
  go_loopw [0, 3, 9] (fun vr vw vi wr => ∃ (i : Nat) (us : List Value) (ws : List (List Int)) (rest : List Int), i ≤ m ∧ vi = .int .i64 i ∧ Hid (facW zs = ws ++ facW rest) ∧ Hid (F.drop i = facL rest) ∧ Hid (Sl .u8 w vr rest) ∧
    Hid (OwnV w1.heap.size wr vw us) ∧ Hid (Read8 w us ws) ∧ Hid (us.length = i) ∧ Hid (Ext w1 wr)) (fun _ _ vi _ => m - (intOf vi).toNat)
  case atStart => exact ⟨0, [], [], zs, Nat.zero_le _, rfl, HW0, (by show _ = _; rw [List.drop_zero, HF.out]), (by have := HV.out; rw [HN.out] at this; exact this), OwnV.nil _ _, Read8.nil _, rfl, Ext.refl _⟩
  case round =>
    obtain ⟨i, us, ws, rest, hi, rfl, HFW, HFD, HR, HO, HU, HUL, HE⟩ := hrel
    obtain ⟨ra, rc, hr⟩ := sl_slice HR.out
    subst hr
    by_cases hlt : i < m
    · have hlt' : (i : Int) < m := by omega
      obtain ⟨og, ooff, rfl, ocell⟩ := CO.out (by omega)
      have oc := HE.out.cellOf (ocell i hlt)
      obtain ⟨h0, h1, h2⟩ := fac_next (by rw [HM.out]; exact hlt) HFD.out
      have hL := longI_spec h0
      have hLe := hL.le
      have HFD2 := hide' h2
      have HFW2 : Hid (facW zs = (ws ++ [rest.take (longI rest)]) ++ facW (rest.drop (longI rest))) := by
        show _ = _
        rw [HFW.out, facW_cons h0, List.append_assoc]
        rfl
      rw [h1] at oc
      obtain ⟨k, HK⟩ : ∃ k, Hid (longI rest = k) := ⟨_, rfl⟩
      rw [HK.out] at oc hLe HFD2 HFW2
      obtain ⟨r1, s1⟩ := HR.out.runTake (P := Tryz.prog) 22 5 Tryz.underlying22 size8 k hLe
      obtain ⟨a2, r2, s2, _⟩ := HR.out.runDrop (P := Tryz.prog) 22 5 Tryz.underlying22 size8 k hLe
      have S1 := hide' s1
      have S2 := hide' s2
      obtain ⟨R, HRL⟩ : ∃ R, Hid (rest.length = R) := ⟨_, rfl⟩
      rw [HRL.out] at r1 r2 S2 hLe ⊢
      have LU : Hid (us.length + 1 ≤ 1000000) := by show _ ≤ _; rw [HUL.out]; omega
      have hsz := HE.out.size
      have O2 := hide' (HO.out.ext (ext_alloc wr (.cells #[.slice ra k rc] 22)))
      have E2 := hide' (HE.out.trans (ext_alloc wr (.cells #[.slice ra k rc] 22)))
      clear h0 h1 h2 hL s1 s2 ocell
      go_wp2_with (at_builtin; refine wpList_snocV _ rfl _ _ rfl w1.heap.size _ us (.slice ra k rc) wr.heap.size rfl rfl ?c1 rfl O2.out LU.out E2.out.size ?_)
      case c1 => simp only [World.cell?, heap_alloc_top]; simp
      intro v1 w3 ho1 hg1
      have O3 := hide' ho1
      have E3 : Hid (Ext w1 w3) := Below.trans E2.out (owns_grown O2.out E2.out.size hg1)
      have U3 : Hid (Read8 w (us ++ [.slice ra k rc]) (ws ++ [rest.take k])) := HU.out.app (Read8.single S1.out)
      have UL3 : Hid ((us ++ [Value.slice ra k rc]).length = i + 1) := by show _ = _; rw [List.length_append, HUL.out]; rfl
      clear ho1 hg1 O2 E2 oc
      go_wp2
      go_roundw
      case rel => exact ⟨i + 1, us ++ [.slice ra k rc], ws ++ [rest.take k], rest.drop k, by omega, by go_num, HFW2, HFD2, S2, O3, U3, UL3, E3⟩
      case measure => simp [intOf]; omega
    · have hlt' : decide ((i : Int) < m) = false := by simp; omega
      have h3 : facW zs = ws := by
        have h4 := HFD.out
        rw [List.drop_of_length_le (by rw [HM.out]; omega)] at h4
        have h5 : rest.length = 0 := by
          apply Classical.byContradiction
          intro h5
          rw [facL_cons h5] at h4
          cases h4
        have := HFW.out
        rw [List.length_eq_zero_iff.1 h5, facW_nil, List.append_nil] at this
        exact this
      have HEW := hide' (X1.out.trans HE.out)
      have HSS : Hid (Sls wr u3 (facW zs)) := by show Sls _ _ _; rw [h3]; exact HO.out.sl.sls (HU.out.ext HEW.out)
      clear h3
      go_wp2
      go_ret
      exact ⟨_, rfl, HSS.out, HEW.out⟩
end Go.Proofs.YtlmbdafilboblaaGreat

/- The cycles of an order. Plain numbers, no conditions. -/
namespace Go.Proofs.YtlmbdafilboblaaGreat
set_option linter.unusedVariables false
set_option linter.unusedSimpArgs false

/-- What all rows of cycles have, found so far. -/
structure CycAll (p : Nat → Nat) (cs : List (List Nat)) : Prop where
  ne : ∀ c ∈ cs, 0 < c.length
  nxt : ∀ c ∈ cs, ∀ t, t < c.length → p (c.getD t 0) = c.getD ((t + 1) % c.length) 0
  least : ∀ c ∈ cs, ∀ x ∈ c, c.getD 0 0 ≤ x
  up : cs.Pairwise fun c d => c.getD 0 0 < d.getD 0 0
/-- The cycles of an order of n places. -/
structure CycOf (p : Nat → Nat) (n : Nat) (cs : List (List Nat)) : Prop extends CycAll p cs where
  all : cs.flatten.Perm (List.range n)
/-- The cycles of all places ahead of i. -/
structure CycTo (p : Nat → Nat) (n i : Nat) (cs : List (List Nat)) : Prop extends CycAll p cs where
  nodup : cs.flatten.Nodup
  lt : ∀ x ∈ cs.flatten, x < n
  upto : ∀ j, j < i → j ∈ cs.flatten
  heads : ∀ c ∈ cs, c.getD 0 0 < i
/-- One cycle, as far as it is walked; k is the next one. -/
structure CycIn (p : Nat → Nat) (n i : Nat) (cs : List (List Nat)) (c : List Nat) (k : Nat) : Prop where
  nodup : c.Nodup
  apart : ∀ x ∈ c, x ∉ cs.flatten
  lt : ∀ x ∈ c, x < n
  first : c = [] → k = i
  head : 0 < c.length → c.getD 0 0 = i
  nxt : ∀ t, t + 1 < c.length → p (c.getD t 0) = c.getD (t + 1) 0
  on : 0 < c.length → p (c.getD (c.length - 1) 0) = k
  klt : k < n

theorem CycTo.start (p : Nat → Nat) (n : Nat) : CycTo p n 0 [] :=
  { ne := (fun c hc => by cases hc), nxt := (fun c hc => by cases hc), least := (fun c hc => by cases hc), up := List.Pairwise.nil, nodup := (by simp), lt := (fun x hx => by simp at hx), upto := (fun j hj => by omega), heads := (fun c hc => by cases hc) }
theorem CycTo.skip {p : Nat → Nat} {n i : Nat} {cs : List (List Nat)} (h : CycTo p n i cs) (hi : i ∈ cs.flatten) : CycTo p n (i + 1) cs :=
  { h with
    upto := fun j hj => by
      by_cases e : j = i
      · subst e; exact hi
      · exact h.upto j (by omega)
    heads := fun c hc => by have := h.heads c hc; omega }
theorem CycIn.start {p : Nat → Nat} {n i : Nat} {cs : List (List Nat)} (hi : i < n) : CycIn p n i cs [] i :=
  ⟨by simp, (fun x hx => by cases hx), (fun x hx => by cases hx), (fun _ => rfl), (fun h => by simp at h), (fun t h => by simp at h), (fun h => by simp at h), hi⟩
theorem getN_snoc_lt {c : List Nat} {k t : Nat} (h : t < c.length) : (c ++ [k]).getD t 0 = c.getD t 0 := by
  simp only [List.getD_eq_getElem?_getD]
  rw [List.getElem?_append_left h]
theorem getN_snoc_eq {c : List Nat} {k t : Nat} (h : t = c.length) : (c ++ [k]).getD t 0 = k := by
  subst h
  simp
theorem CycIn.step {p : Nat → Nat} {n i k : Nat} {cs : List (List Nat)} {c : List Nat} (hp : ∀ x, x < n → p x < n) (h : CycIn p n i cs c k) (h1 : k ∉ c) (h2 : k ∉ cs.flatten) : CycIn p n i cs (c ++ [k]) (p k) := by
  have hl : (c ++ [k]).length = c.length + 1 := by simp
  refine ⟨?_, ?_, ?_, fun e => ?_, fun _ => ?_, fun t ht => ?_, fun _ => ?_, hp k h.klt⟩
  · refine List.nodup_append.2 ⟨h.nodup, by simp, fun a ha b hb e => ?_⟩
    rw [List.mem_singleton] at hb
    subst hb; subst e
    exact h1 ha
  · intro x hx
    rcases List.mem_append.1 hx with g | g
    · exact h.apart x g
    · rw [List.mem_singleton.1 g]; exact h2
  · intro x hx
    rcases List.mem_append.1 hx with g | g
    · exact h.lt x g
    · rw [List.mem_singleton.1 g]; exact h.klt
  · simp at e
  · by_cases e : c = []
    · subst e
      simp [h.first rfl]
    · have : 0 < c.length := List.length_pos_iff.2 e
      rw [getN_snoc_lt this]
      exact h.head this
  · rw [hl] at ht
    rw [getN_snoc_lt (by omega)]
    by_cases e : t + 1 = c.length
    · rw [getN_snoc_eq e]
      have := h.on (by omega)
      rw [show c.length - 1 = t by omega] at this
      exact this
    · rw [getN_snoc_lt (by omega)]
      exact h.nxt t (by omega)
  · rw [hl, Nat.add_sub_cancel, getN_snoc_eq rfl]
theorem mem_flat {cs : List (List Nat)} {x : Nat} : x ∈ cs.flatten ↔ ∃ c ∈ cs, x ∈ c := List.mem_flatten
/-- A place met again closes the cycle. -/
theorem CycIn.close {p : Nat → Nat} {n i k : Nat} {cs : List (List Nat)} {c : List Nat} (hinj : ∀ x y, x < n → y < n → p x = p y → x = y) (hc : CycTo p n i cs) (h : CycIn p n i cs c k) (hi : i ∉ cs.flatten) (hk : k ∈ c ∨ k ∈ cs.flatten) : CycTo p n (i + 1) (cs ++ [c]) := by
  have hne : 0 < c.length := by
    rcases Nat.eq_zero_or_pos c.length with e | e
    · have e2 := List.length_eq_zero_iff.1 e
      rw [h.first e2, e2] at hk
      rcases hk with g | g
      · cases g
      · exact absurd g hi
    · exact e
  have hlast : c.getD (c.length - 1) 0 ∈ c := getN_mem (by omega)
  have hon := h.on hne
  have hki : k = i := by
    rcases hk with g | g
    · obtain ⟨t, ht, e⟩ := mem_getN g
      by_cases e0 : t = 0
      · subst e0
        rw [← e]
        exact h.head hne
      · have h3 := h.nxt (t - 1) (by omega)
        rw [show t - 1 + 1 = t by omega, e, ← hon] at h3
        have h4 := hinj _ _ (h.lt _ (getN_mem (by omega))) (h.lt _ hlast) h3
        have h5 := nodup_getN h.nodup (by omega) (by omega) h4
        omega
    · exfalso
      obtain ⟨d, hd, hx⟩ := mem_flat.1 g
      obtain ⟨t, ht, e⟩ := mem_getN hx
      obtain ⟨u, hu, eu⟩ : ∃ u, u < d.length ∧ (u + 1) % d.length = t := by
        by_cases e0 : t = 0
        · exact ⟨d.length - 1, by omega, by rw [e0, show d.length - 1 + 1 = d.length by omega, Nat.mod_self]⟩
        · exact ⟨t - 1, by omega, by rw [show t - 1 + 1 = t by omega, Nat.mod_eq_of_lt ht]⟩
      have h3 := hc.nxt d hd u hu
      rw [eu, e, ← hon] at h3
      have hm : d.getD u 0 ∈ cs.flatten := mem_flat.2 ⟨d, hd, getN_mem hu⟩
      have h4 := hinj _ _ (hc.lt _ hm) (h.lt _ hlast) h3
      rw [h4] at hm
      exact h.apart _ hlast hm
  have hhead := h.head hne
  have hflat : (cs ++ [c]).flatten = cs.flatten ++ c := by simp
  have hin : i ∈ c := by rw [← hhead]; exact getN_mem hne
  refine { ne := ?_, nxt := ?_, least := ?_, up := ?_, nodup := ?_, lt := ?_, upto := ?_, heads := ?_ }
  · intro d hd
    rcases List.mem_append.1 hd with g | g
    · exact hc.ne d g
    · rw [List.mem_singleton.1 g]; exact hne
  · intro d hd t ht
    rcases List.mem_append.1 hd with g | g
    · exact hc.nxt d g t ht
    · rw [List.mem_singleton.1 g] at ht ⊢
      by_cases e : t + 1 = c.length
      · rw [e, Nat.mod_self, hhead, ← hki, ← hon, show c.length - 1 = t by omega]
      · rw [Nat.mod_eq_of_lt (by omega)]
        exact h.nxt t (by omega)
  · intro d hd x hx
    rcases List.mem_append.1 hd with g | g
    · exact hc.least d g x hx
    · rw [List.mem_singleton.1 g] at hx ⊢
      rw [hhead]
      rcases Nat.lt_or_ge x i with g2 | g2
      · exact absurd (hc.upto x g2) (h.apart x hx)
      · exact g2
  · refine List.pairwise_append.2 ⟨hc.up, by simp, fun d hd e he => ?_⟩
    rw [List.mem_singleton.1 he, hhead]
    exact hc.heads d hd
  · rw [hflat]
    refine List.nodup_append.2 ⟨hc.nodup, h.nodup, fun a ha b hb e => ?_⟩
    subst e
    exact h.apart _ hb ha
  · intro x hx
    rw [hflat] at hx
    rcases List.mem_append.1 hx with g | g
    · exact hc.lt x g
    · exact h.lt x g
  · intro j hj
    rw [hflat]
    by_cases e : j = i
    · rw [e]; exact List.mem_append_right _ hin
    · exact List.mem_append_left _ (hc.upto j (by omega))
  · intro d hd
    rcases List.mem_append.1 hd with g | g
    · have := hc.heads d g; omega
    · rw [List.mem_singleton.1 g, hhead]; omega
theorem nodup_permN_le {l : List Nat} {n : Nat} (h : l.Nodup) (hl : ∀ x ∈ l, x < n) : l.length ≤ n := by
  rcases Nat.lt_or_ge n l.length with g | g
  · exfalso
    have hp := nodup_permN h (l' := List.range n) (fun x hx => List.mem_range.2 (hl x hx)) (by rw [List.length_range]; omega)
    have := hp.length_eq
    rw [List.length_range] at this
    omega
  · exact g
theorem CycTo.done {p : Nat → Nat} {n : Nat} {cs : List (List Nat)} (h : CycTo p n n cs) : CycOf p n cs :=
  { toCycAll := h.toCycAll
    all := (nodup_permN List.nodup_range (fun x hx => h.upto x (List.mem_range.1 hx)) (by
      have := nodup_permN_le h.nodup h.lt
      rw [List.length_range]; exact this)).symm }
end Go.Proofs.YtlmbdafilboblaaGreat

/- An order has just one row of cycles. Plain numbers, no conditions. -/
namespace Go.Proofs.YtlmbdafilboblaaGreat
set_option linter.unusedVariables false
set_option linter.unusedSimpArgs false

theorem nodup_permG {α : Type} [DecidableEq α] {l : List α} : ∀ {l' : List α}, l.Nodup → (∀ x ∈ l, x ∈ l') → l'.length ≤ l.length → l.Perm l' := by
  induction l with
  | nil => intro l' _ _ h; rw [List.length_eq_zero_iff.1 (Nat.le_zero.1 h)]
  | cons a l ih =>
    intro l' hn hs hl
    rw [List.nodup_cons] at hn
    have ha := hs a List.mem_cons_self
    have h2 := List.length_erase_of_mem ha
    rw [List.length_cons] at hl
    have h1 := ih (l' := l'.erase a) hn.2 (fun x hx => by
      have hne : x ≠ a := fun e => hn.1 (e ▸ hx)
      exact (List.mem_erase_of_ne hne).2 (hs x (List.mem_cons_of_mem _ hx))) (by omega)
    exact (List.Perm.cons a h1).trans (List.perm_cons_erase ha).symm
theorem nodup_leG {α : Type} [DecidableEq α] {l l' : List α} (h : l.Nodup) (hs : ∀ x ∈ l, x ∈ l') : l.length ≤ l'.length := by
  rcases Nat.lt_or_ge l'.length l.length with g | g
  · have := (nodup_permG h hs (by omega)).length_eq
    omega
  · exact g
theorem mem_permG {α : Type} [DecidableEq α] {l l' : List α} (h : l.Nodup) (h' : l'.Nodup) (hs : ∀ x, x ∈ l ↔ x ∈ l') : l.Perm l' :=
  nodup_permG h (fun x hx => (hs x).1 hx) (nodup_leG h' fun x hx => (hs x).2 hx)

theorem CycAll.nodup {p : Nat → Nat} {cs : List (List Nat)} (h : CycAll p cs) : cs.Nodup := h.up.imp fun {a b} g e => by rw [e] at g; omega
/-- Of one cycle. -/
theorem flat_nodup {cs : List (List Nat)} (h : cs.flatten.Nodup) {c : List Nat} (hc : c ∈ cs) : c.Nodup := (List.pairwise_flatten.1 h).1 c hc
theorem CycOf.nodupC {p : Nat → Nat} {n : Nat} {cs : List (List Nat)} (h : CycOf p n cs) {c : List Nat} (hc : c ∈ cs) : c.Nodup := flat_nodup (h.all.nodup_iff.2 List.nodup_range) hc
theorem CycOf.ltC {p : Nat → Nat} {n : Nat} {cs : List (List Nat)} (h : CycOf p n cs) {c : List Nat} (hc : c ∈ cs) {x : Nat} (hx : x ∈ c) : x < n := List.mem_range.1 (h.all.mem_iff.1 (mem_flat.2 ⟨c, hc, hx⟩))
theorem CycOf.find {p : Nat → Nat} {n : Nat} {cs : List (List Nat)} (h : CycOf p n cs) {x : Nat} (hx : x < n) : ∃ c ∈ cs, x ∈ c := mem_flat.1 (h.all.mem_iff.2 (List.mem_range.2 hx))
/-- One that begins alike is the same. -/
theorem cyc_same {p : Nat → Nat} {c d : List Nat} (hc : 0 < c.length) (hd : 0 < d.length) (nc : c.Nodup) (nd : d.Nodup) (h1 : ∀ t, t < c.length → p (c.getD t 0) = c.getD ((t + 1) % c.length) 0) (h2 : ∀ t, t < d.length → p (d.getD t 0) = d.getD ((t + 1) % d.length) 0)
    (e : c.getD 0 0 = d.getD 0 0) : c = d := by
  have key : ∀ t, t < c.length → t < d.length → c.getD t 0 = d.getD t 0 := by
    intro t
    induction t with
    | zero => intro _ _; exact e
    | succ t ih =>
      intro g1 g2
      have e1 := h1 t (by omega)
      have e2 := h2 t (by omega)
      rw [Nat.mod_eq_of_lt g1] at e1
      rw [Nat.mod_eq_of_lt g2] at e2
      rw [← e1, ← e2, ih (by omega) (by omega)]
  have hlen : c.length = d.length := by
    rcases Nat.lt_trichotomy c.length d.length with g | g | g
    · exfalso
      have e1 := h1 (c.length - 1) (by omega)
      have e2 := h2 (c.length - 1) (by omega)
      rw [show c.length - 1 + 1 = c.length by omega, Nat.mod_self] at e1
      rw [show c.length - 1 + 1 = c.length by omega, Nat.mod_eq_of_lt g] at e2
      rw [key _ (by omega) (by omega), e2, e] at e1
      have := nodup_getN nd (by omega) (by omega) e1
      omega
    · exact g
    · exfalso
      have e1 := h1 (d.length - 1) (by omega)
      have e2 := h2 (d.length - 1) (by omega)
      rw [show d.length - 1 + 1 = d.length by omega, Nat.mod_self] at e2
      rw [show d.length - 1 + 1 = d.length by omega, Nat.mod_eq_of_lt g] at e1
      rw [key _ (by omega) (by omega), e2, ← e] at e1
      have := nodup_getN nc (by omega) (by omega) e1
      omega
  exact natL_ext hlen fun t ht => key t ht (by omega)
/-- Round a cycle. -/
theorem cyc_it {p : Nat → Nat} {c : List Nat} (hc : 0 < c.length) (h1 : ∀ t, t < c.length → p (c.getD t 0) = c.getD ((t + 1) % c.length) 0) {t u : Nat} (ht : t < c.length) (hu : u < c.length) : ∃ k, itN p k (c.getD t 0) = c.getD u 0 := by
  have key : ∀ k, itN p k (c.getD t 0) = c.getD ((t + k) % c.length) 0 := by
    intro k
    induction k with
    | zero => rw [Nat.add_zero, Nat.mod_eq_of_lt ht]; rfl
    | succ k ih =>
      rw [itN_add p k 1, ih]
      show p _ = _
      rw [h1 _ (Nat.mod_lt _ hc), Nat.mod_add_mod, Nat.add_assoc]
  refine ⟨u + c.length - t, ?_⟩
  rw [key, show t + (u + c.length - t) = u + c.length by omega, Nat.add_mod_right, Nat.mod_eq_of_lt hu]
theorem cyc_closed {p : Nat → Nat} {c : List Nat} (hc : 0 < c.length) (h1 : ∀ t, t < c.length → p (c.getD t 0) = c.getD ((t + 1) % c.length) 0) {x : Nat} (hx : x ∈ c) : ∀ k, itN p k x ∈ c := by
  intro k
  induction k generalizing x with
  | zero => exact hx
  | succ k ih =>
    obtain ⟨t, ht, rfl⟩ := mem_getN hx
    show itN p k (p _) ∈ c
    rw [h1 t ht]
    exact ih (getN_mem (Nat.mod_lt _ hc))
theorem CycOf.sub {p : Nat → Nat} {n : Nat} {cs ds : List (List Nat)} (h : CycOf p n cs) (k : CycOf p n ds) {c : List Nat} (hc : c ∈ cs) : c ∈ ds := by
  have nc := h.ne c hc
  have hx : c.getD 0 0 ∈ c := getN_mem nc
  obtain ⟨d, hd, hxd⟩ := k.find (h.ltC hc hx)
  have nd := k.ne d hd
  have l1 := k.least d hd _ hxd
  obtain ⟨t, ht, et⟩ := mem_getN hxd
  obtain ⟨j, hj⟩ := cyc_it nd (k.nxt d hd) ht nd
  have hy : d.getD 0 0 ∈ c := by
    rw [← hj, et]
    exact cyc_closed nc (h.nxt c hc) hx j
  have l2 := h.least c hc _ hy
  have := cyc_same nc nd (h.nodupC hc) (k.nodupC hd) (h.nxt c hc) (k.nxt d hd) (by omega)
  rw [this]
  exact hd
theorem CycOf.eq {p : Nat → Nat} {n : Nat} {cs ds : List (List Nat)} (h : CycOf p n cs) (k : CycOf p n ds) : cs = ds :=
  List.Perm.eq_of_pairwise (le := fun c d : List Nat => c.getD 0 0 < d.getD 0 0) (fun a b _ _ h1 h2 => by omega) h.up k.up (mem_permG h.nodup k.nodup fun c => ⟨h.sub k, k.sub h⟩)
end Go.Proofs.YtlmbdafilboblaaGreat

/- Words out of a row of last letters, by its cycles; all their rotations in order without end have just these last letters. Plain numbers, no conditions. -/
namespace Go.Proofs.YtlmbdafilboblaaGreat
set_option linter.unusedVariables false
set_option linter.unusedSimpArgs false

/-- From the first letters to the last. -/
def qN (l : List Int) (i : Nat) : Nat := (stN l).getD i 0
/-- What is read from a row on, without end. -/
def uS (l : List Int) (k : Nat) : Nat → Int := seqN (fun i => l.getD (qN l i) 0) (qN l) k

theorem q_lt {l : List Int} {i : Nat} (h : i < l.length) : qN l i < l.length := stN_lt h
theorem q_rk {l : List Int} {k : Nat} (h : k < l.length) : qN l (rkN l k) = k := st_rk h
theorem itq_lt {l : List Int} {k : Nat} (h : k < l.length) (t : Nat) : itN (qN l) t k < l.length := itN_lt (fun p hp => q_lt hp) t k h
theorem itq_succ (l : List Int) (t k : Nat) : itN (qN l) (t + 1) k = qN l (itN (qN l) t k) := itN_add (qN l) t 1 k
theorem uS_at (l : List Int) (k t : Nat) : uS l k t = l.getD (itN (qN l) (t + 1) k) 0 := by
  rw [itq_succ]
  rfl
theorem uS_on (l : List Int) (j k t : Nat) : uS l (itN (qN l) j k) t = uS l k (j + t) := seqN_on _ _ j k t
theorem q_step {l : List Int} {x y : Nat} (h : x < y) (hy : y < l.length) : Lt1 l (qN l x) (qN l y) := pairN_at (stN_sorted l) h (by rw [stN_len]; exact hy)
theorem uS_keep {l : List Int} {k k' : Nat} (h : k < k') (hk : k' < l.length) : ∀ m, (∀ t, t < m → uS l k t = uS l k' t) → itN (qN l) m k < itN (qN l) m k' := by
  intro m
  induction m with
  | zero => intro _; exact h
  | succ m ih =>
    intro he
    have h1 := ih fun t ht => he t (by omega)
    have h2 := q_step h1 (itq_lt hk m)
    rw [itq_succ, itq_succ]
    have h3 := he m (by omega)
    rw [uS_at, uS_at, itq_succ, itq_succ] at h3
    rcases h2 with h2 | h2
    · omega
    · exact h2.2
theorem uS_le {l : List Int} {k k' : Nat} (h : k < k') (hk : k' < l.length) : ¬ LtF (uS l k') (uS l k) := by
  rintro ⟨m, h1, h2⟩
  have h3 := q_step (uS_keep h hk m fun t ht => (h1 t ht).symm) (itq_lt hk m)
  rw [uS_at, uS_at, itq_succ, itq_succ] at h2
  rcases h3 with h3 | h3 <;> omega
/-- Within a cycle no two are the same without end. -/
theorem uS_ne {l : List Int} {k j : Nat} (hk : k < l.length) (h : k < itN (qN l) j k) : ¬ ∀ t, uS l k t = uS l (itN (qN l) j k) t := by
  intro he
  have key : ∀ i, itN (qN l) (i * j) k < itN (qN l) ((i + 1) * j) k := fun i => by
    have := uS_keep h (itq_lt hk j) (i * j) fun t _ => he t
    rw [← itN_add] at this
    rwa [show (i + 1) * j = j + i * j by rw [Nat.add_mul, Nat.one_mul, Nat.add_comm]]
  have up : ∀ i, i ≤ itN (qN l) (i * j) k := by
    intro i
    induction i with
    | zero => exact Nat.zero_le _
    | succ i ih => have := key i; omega
  have h1 := up l.length
  have h2 := itq_lt hk (l.length * j)
  omega

/-- A cycle's letters, the last one of it first. -/
def wordOf (l : List Int) (c : List Nat) : List Int := c.reverse.map fun k => l.getD k 0
theorem wordOf_len (l : List Int) (c : List Nat) : (wordOf l c).length = c.length := by simp [wordOf]
theorem wordOf_at (l : List Int) {c : List Nat} {a : Nat} (h : a < c.length) : (wordOf l c).getD a 0 = l.getD (c.getD (c.length - 1 - a) 0) 0 := by
  unfold wordOf
  simp only [List.getD_eq_getElem?_getD, List.getElem?_map]
  rw [List.getElem?_reverse h, List.getElem?_eq_getElem (show c.length - 1 - a < c.length by omega)]
  rfl

section
variable {l : List Int} {cs : List (List Nat)} {c : List Nat}

theorem it_q (h : CycOf (rkN l) l.length cs) (hc : c ∈ cs) : ∀ r, r < c.length → itN (qN l) (r + 1) (c.getD 0 0) = c.getD (c.length - 1 - r) 0 := by
  have hn := h.nxt c hc
  have hlt : ∀ t, t < c.length → c.getD t 0 < l.length := fun t ht => h.ltC hc (getN_mem ht)
  intro r
  induction r with
  | zero =>
    intro hr
    have h1 := hn (c.length - 1) (by omega)
    rw [show c.length - 1 + 1 = c.length by omega, Nat.mod_self] at h1
    show qN l _ = _
    rw [← h1, q_rk (hlt _ (by omega)), Nat.sub_zero]
  | succ r ih =>
    intro hr
    rw [itq_succ, ih (by omega)]
    have h1 := hn (c.length - 1 - (r + 1)) (by omega)
    rw [show c.length - 1 - (r + 1) + 1 = c.length - 1 - r by omega, Nat.mod_eq_of_lt (by omega)] at h1
    rw [← h1, q_rk (hlt _ (by omega))]
theorem it_q_round (h : CycOf (rkN l) l.length cs) (hc : c ∈ cs) : itN (qN l) c.length (c.getD 0 0) = c.getD 0 0 := by
  have hne := h.ne c hc
  have := it_q h hc (c.length - 1) (by omega)
  rw [show c.length - 1 + 1 = c.length by omega, Nat.sub_self] at this
  exact this
theorem it_q_mod (h : CycOf (rkN l) l.length cs) (hc : c ∈ cs) : ∀ a, itN (qN l) a (c.getD 0 0) = itN (qN l) (a % c.length) (c.getD 0 0) := by
  have hne := h.ne c hc
  intro a
  induction a using Nat.strongRecOn with
  | _ a ih =>
    rcases Nat.lt_or_ge a c.length with g | g
    · rw [Nat.mod_eq_of_lt g]
    · rw [show a = c.length + (a - c.length) by omega, itN_add, it_q_round h hc, ih (a - c.length) (by omega), Nat.add_mod_left]
/-- What is read from a cycle's first one on is its word, again and again. -/
theorem uS_word (h : CycOf (rkN l) l.length cs) (hc : c ∈ cs) (a : Nat) : uS l (c.getD 0 0) a = (wordOf l c).getD (a % c.length) 0 := by
  have hne := h.ne c hc
  have hm := Nat.mod_lt a hne
  rw [wordOf_at l hm, uS_at, itq_succ, it_q_mod h hc a, ← itq_succ, it_q h hc _ hm]
theorem uS_atW (h : CycOf (rkN l) l.length cs) (hc : c ∈ cs) : uS l (c.getD 0 0) = atW (wordOf l c) := by
  funext a
  rw [uS_word h hc]
  unfold atW
  rw [wordOf_len]
theorem it_q_mem (h : CycOf (rkN l) l.length cs) (hc : c ∈ cs) {i : Nat} (h0 : 1 ≤ i) (hi : i < c.length) : itN (qN l) i (c.getD 0 0) ∈ c ∧ c.getD 0 0 < itN (qN l) i (c.getD 0 0) := by
  have h1 := it_q h hc (i - 1) (by omega)
  rw [show i - 1 + 1 = i by omega, show c.length - 1 - (i - 1) = c.length - i by omega] at h1
  have h2 : c.getD (c.length - i) 0 ∈ c := getN_mem (by omega)
  rw [h1]
  refine ⟨h2, ?_⟩
  have h3 := h.least c hc _ h2
  rcases Nat.lt_or_ge (c.getD 0 0) (c.getD (c.length - i) 0) with g | g
  · exact g
  · have := nodup_getN (h.nodupC hc) (i := 0) (j := c.length - i) (by omega) (by omega) (by omega)
    omega
/-- A cycle's word is less than all its endings. -/
theorem word_lyn (h : CycOf (rkN l) l.length cs) (hc : c ∈ cs) : Lyn (wordOf l c) := by
  have hne := h.ne c hc
  have hlt : c.getD 0 0 < l.length := h.ltC hc (getN_mem hne)
  rw [lyn_iff, wordOf_len]
  refine LynF.congr (f := uS l (c.getD 0 0)) ⟨hne, fun i h1 h2 => ?_⟩ fun k hk => by rw [uS_word h hc, Nat.mod_eq_of_lt hk]
  obtain ⟨hm, hg⟩ := it_q_mem h hc h1 h2
  have hl2 := h.ltC hc hm
  have key : ∃ j, (∀ k, k < j → uS l (c.getD 0 0) k = uS l (c.getD 0 0) (i + k)) ∧ uS l (c.getD 0 0) j < uS l (c.getD 0 0) (i + j) := by
    apply Classical.byContradiction
    intro hno
    refine uS_ne hlt hg fun t => ?_
    rcases first_other (f := uS l (c.getD 0 0)) (g := uS l (itN (qN l) i (c.getD 0 0))) (t + 1) with g | ⟨m, hm1, hm2, hm3⟩
    · exact g t (by omega)
    · exfalso
      rcases Int.lt_trichotomy (uS l (c.getD 0 0) m) (uS l (itN (qN l) i (c.getD 0 0)) m) with g | g | g
      · exact hno ⟨m, fun k hk => by rw [hm2 k hk, uS_on], by rw [← uS_on]; exact g⟩
      · exact hm3 g
      · exact uS_le hg hl2 ⟨m, fun k hk => (hm2 k hk).symm, g⟩
  obtain ⟨j, hj1, hj2⟩ := key
  rcases Nat.lt_or_ge (i + j) c.length with g | g
  · exact ⟨j, g, hj1, hj2⟩
  · exfalso
    have hper : ∀ t, uS l (c.getD 0 0) (c.length + t) = uS l (c.getD 0 0) t := fun t => by
      rw [uS_word h hc, uS_word h hc, Nat.add_mod_left]
    obtain ⟨hm', hg'⟩ := it_q_mem h hc (i := c.length - i) (by omega) (by omega)
    refine uS_le hg' (h.ltC hc hm') ⟨j - (c.length - i), fun t ht => ?_, ?_⟩
    · rw [uS_on, hj1 (c.length - i + t) (by omega), show i + (c.length - i + t) = c.length + t by omega, hper]
    · rw [uS_on, show c.length - i + (j - (c.length - i)) = j by omega]
      have : i + j = c.length + (j - (c.length - i)) := by omega
      rw [this, hper] at hj2
      exact hj2
/-- Of two words, the one less than its endings: what is less is less without end, too. -/
theorem lyn_om {w w' : List Int} (hw : Lyn w) (h0 : w'.length ≠ 0) (h : cmpI w' w < 0) : LtF (atW w') (atW w) := by
  have hat : ∀ {u : List Int} {k : Nat}, k < u.length → atW u k = u.getD k 0 := fun {u k} hk => by unfold atW; rw [Nat.mod_eq_of_lt hk]
  obtain ⟨j, h1, h2, h3, h4⟩ := (cmpI_neg _ _).1 h
  by_cases e : j < w'.length
  · rcases h4 with h4 | h4
    · omega
    · exact ⟨j, fun k hk => by rw [hat (by omega), hat (by omega)]; exact h3 k hk, by rw [hat e, hat h1]; exact h4⟩
  · have ej : j = w'.length := by omega
    subst ej
    obtain ⟨_, hL⟩ := (lyn_iff w).1 hw
    obtain ⟨j2, g1, g2, g3⟩ := hL w'.length (by omega) h1
    have same : ∀ t, t < w'.length + j2 → atW w' t = atW w t := by
      intro t
      induction t using Nat.strongRecOn with
      | _ t ih =>
        intro ht
        rcases Nat.lt_or_ge t w'.length with g | g
        · rw [hat g, hat (by omega)]
          exact h3 t g
        · obtain ⟨t', rfl⟩ : ∃ t', t = w'.length + t' := ⟨t - w'.length, by omega⟩
          rw [Nat.add_comm, atW_per, ih t' (by omega) (by omega), hat (by omega), Nat.add_comm, hat (by omega)]
          exact g2 t' (by omega)
    refine ⟨w'.length + j2, same, ?_⟩
    rw [Nat.add_comm w'.length j2, atW_per, same j2 (by omega), hat (by omega), Nat.add_comm j2, hat (by omega)]
    exact g3
end
end Go.Proofs.YtlmbdafilboblaaGreat

/- The last letters of all rotations of words, in order without end: of words of the same rotations they are the same; of a row's own words they are the row. Plain numbers, no conditions. -/
namespace Go.Proofs.YtlmbdafilboblaaGreat
set_option linter.unusedVariables false
set_option linter.unusedSimpArgs false

/-- All rotations of a word, read without end. -/
def rots (w : List Int) : List (Nat → Int) := (List.range w.length).map fun j k => w.getD ((j + k) % w.length) 0
theorem listK_rots (zss : List (List Int)) : ∀ K, K ≤ zss.length → (listK zss K).map (sqP zss) = (zss.take K).flatMap rots := by
  intro K
  induction K with
  | zero => intro _; simp [listK]
  | succ K ih =>
    intro hK
    rw [listK_succ, List.map_append, ih (by omega), List.take_add_one, List.getElem?_eq_getElem (by omega), Option.toList_some, List.flatMap_append]
    congr 1
    rw [List.flatMap_singleton]
    unfold rowP rots
    rw [List.map_map]
    have e : wordAt zss K = zss[K] := by simp [wordAt, List.getD, List.getElem?_eq_getElem (show K < zss.length by omega)]
    rw [← e]
    rfl
theorem listP_rots (zss : List (List Int)) : (listP zss).map (sqP zss) = zss.flatMap rots := by
  have := listK_rots zss zss.length (Nat.le_refl _)
  rwa [List.take_length] at this

/-- All rotations, in order. -/
def Turned (zss : List (List Int)) (T : List (Nat × Nat)) : Prop := T.Perm (listP zss) ∧ T.Pairwise (RP zss)
/-- The last letter of a rotation. -/
def lastP (zss : List (List Int)) (t : Nat × Nat) : Int := (wordAt zss t.1).getD ((t.2 + (wordAt zss t.1).length - 1) % (wordAt zss t.1).length) 0
def bjL (zss : List (List Int)) (T : List (Nat × Nat)) : List Int := T.map (lastP zss)

theorem listP_mem {zss : List (List Int)} {t : Nat × Nat} (h : t ∈ listP zss) : t.1 < zss.length ∧ t.2 < (wordAt zss t.1).length := by
  unfold listP listK at h
  rw [List.mem_flatMap] at h
  obtain ⟨i, h1, h2⟩ := h
  unfold rowP at h2
  obtain ⟨j, h3, rfl⟩ := List.mem_map.1 h2
  exact ⟨List.mem_range.1 h1, List.mem_range.1 h3⟩
/-- The last letter, as what is read without end has it. -/
theorem lastP_seq {zss : List (List Int)} {t : Nat × Nat} (h : t.2 < (wordAt zss t.1).length) {r : Nat} (hr : 0 < r) : lastP zss t = sqP zss t ((wordAt zss t.1).length * r - 1) := by
  unfold lastP sqP
  obtain ⟨r, rfl⟩ : ∃ r', r = r' + 1 := ⟨r - 1, by omega⟩
  rw [Nat.mul_add, Nat.mul_one, show t.2 + ((wordAt zss t.1).length * r + (wordAt zss t.1).length - 1) = t.2 + (wordAt zss t.1).length - 1 + (wordAt zss t.1).length * r by omega, Nat.add_mul_mod_self_left]
theorem lastP_same {zss yss : List (List Int)} {t u : Nat × Nat} (ht : t.2 < (wordAt zss t.1).length) (hu : u.2 < (wordAt yss u.1).length) (h : sqP zss t = sqP yss u) : lastP zss t = lastP yss u := by
  rw [lastP_seq ht (r := (wordAt yss u.1).length) (by omega), lastP_seq hu (r := (wordAt zss t.1).length) (by omega), h, Nat.mul_comm]

theorem fn_eq {f g : Nat → Int} (h : ¬ LtF f g) (k : ¬ LtF g f) : f = g := by
  funext t
  rcases first_other (f := f) (g := g) (t + 1) with e | ⟨m, h1, h2, h3⟩
  · exact e t (by omega)
  · exfalso
    rcases Int.lt_trichotomy (f m) (g m) with g1 | g1 | g1
    · exact h ⟨m, h2, g1⟩
    · exact h3 g1
    · exact k ⟨m, fun k hk => (h2 k hk).symm, g1⟩
theorem sorted_fn {xs ys : List (Nat → Int)} (hp : xs.Perm ys) (hx : xs.Pairwise fun f g => ¬ LtF g f) (hy : ys.Pairwise fun f g => ¬ LtF g f) : xs = ys :=
  List.Perm.eq_of_pairwise (le := fun f g => ¬ LtF g f) (fun a b _ _ h1 h2 => fn_eq h2 h1) hx hy hp
theorem Turned.sorted {zss : List (List Int)} {T : List (Nat × Nat)} (h : Turned zss T) : (T.map (sqP zss)).Pairwise fun f g => ¬ LtF g f := by
  rw [List.pairwise_map]
  refine h.2.imp fun {t u} hr hl => ?_
  rcases hr with hr | ⟨hr, _⟩
  · exact LtF.irr hr hl
  · obtain ⟨m, _, h2⟩ := hl
    rw [hr m] at h2
    omega
theorem Turned.mem {zss : List (List Int)} {T : List (Nat × Nat)} (h : Turned zss T) {t : Nat × Nat} (ht : t ∈ T) : t.1 < zss.length ∧ t.2 < (wordAt zss t.1).length := listP_mem (h.1.mem_iff.1 ht)
/-- Words of the same rotations have the same last letters. -/
theorem last_same {zss yss : List (List Int)} {T V : List (Nat × Nat)} (hT : Turned zss T) (hV : Turned yss V) (h : (zss.flatMap rots).Perm (yss.flatMap rots)) : bjL zss T = bjL yss V := by
  have e : T.map (sqP zss) = V.map (sqP yss) := by
    refine sorted_fn ?_ hT.sorted hV.sorted
    refine (hT.1.map _).trans (List.Perm.trans ?_ (hV.1.map _).symm)
    rw [listP_rots, listP_rots]
    exact h
  have hl : T.length = V.length := by have := congrArg List.length e; simpa using this
  unfold bjL
  refine List.ext_getElem (by simp [hl]) fun i h1 h2 => ?_
  rw [List.length_map] at h1 h2
  rw [List.getElem_map, List.getElem_map]
  refine lastP_same (hT.mem (List.getElem_mem h1)).2 (hV.mem (List.getElem_mem h2)).2 ?_
  have := congrArg (fun l => l[i]?) e
  simpa [List.getElem?_eq_getElem h1, List.getElem?_eq_getElem h2] using this

section
variable {l : List Int} {cs : List (List Nat)} {c : List Nat}

theorem word_rots (h : CycOf (rkN l) l.length cs) (hc : c ∈ cs) : (rots (wordOf l c)).Perm (c.map (uS l)) := by
  have hne := h.ne c hc
  have e : rots (wordOf l c) = ((List.range c.length).map fun j => itN (qN l) j (c.getD 0 0)).map (uS l) := by
    unfold rots
    rw [wordOf_len, List.map_map]
    refine List.map_congr_left fun j hj => ?_
    funext k
    show _ = uS l (itN (qN l) j (c.getD 0 0)) k
    rw [uS_on, uS_word h hc]
  rw [e]
  refine List.Perm.map _ ?_
  have hin : ∀ j, j < c.length → itN (qN l) j (c.getD 0 0) = c.getD ((c.length - j) % c.length) 0 := fun j hj => by
    by_cases e0 : j = 0
    · subst e0
      rw [Nat.sub_zero, Nat.mod_self]
      rfl
    · have := it_q h hc (j - 1) (by omega)
      rw [show j - 1 + 1 = j by omega] at this
      rw [this, Nat.mod_eq_of_lt (by omega), show c.length - 1 - (j - 1) = c.length - j by omega]
  refine nodup_permN ?_ (fun x hx => ?_) (by simp)
  · rw [List.Nodup, List.pairwise_map]
    refine List.Pairwise.imp_of_mem ?_ List.nodup_range
    intro a b ha hb hab e
    have ha' := List.mem_range.1 ha
    have hb' := List.mem_range.1 hb
    rw [hin a ha', hin b hb'] at e
    have := nodup_getN (h.nodupC hc) (Nat.mod_lt _ hne) (Nat.mod_lt _ hne) e
    refine hab ?_
    by_cases a0 : a = 0
    · by_cases b0 : b = 0
      · omega
      · rw [a0, Nat.sub_zero, Nat.mod_self, Nat.mod_eq_of_lt (by omega)] at this
        omega
    · by_cases b0 : b = 0
      · rw [b0, Nat.sub_zero, Nat.mod_self, Nat.mod_eq_of_lt (by omega)] at this
        omega
      · rw [Nat.mod_eq_of_lt (by omega), Nat.mod_eq_of_lt (by omega)] at this
        omega
  · obtain ⟨j, hj, rfl⟩ := List.mem_map.1 hx
    rw [hin j (List.mem_range.1 hj)]
    exact getN_mem (Nat.mod_lt _ hne)
theorem flatMap_permI {α β : Type} {f g : α → List β} : ∀ {l : List α}, (∀ a ∈ l, (f a).Perm (g a)) → (l.flatMap f).Perm (l.flatMap g)
  | [], _ => by simp
  | a :: l, h => by
    rw [List.flatMap_cons, List.flatMap_cons]
    exact (h a List.mem_cons_self).append (flatMap_permI fun b hb => h b (List.mem_cons_of_mem _ hb))
theorem cyc_rots (h : CycOf (rkN l) l.length cs) : ((cs.map (wordOf l)).flatMap rots).Perm ((List.range l.length).map (uS l)) := by
  rw [List.flatMap_map]
  refine (flatMap_permI (g := fun c => c.map (uS l)) fun c hc => word_rots h hc).trans ?_
  have e : cs.flatMap (fun c => c.map (uS l)) = cs.flatten.map (uS l) := by
    rw [List.flatMap_def, List.map_flatten]
  rw [e]
  exact h.all.map _
/-- A row's own words, whatever their order, have just this row of last letters. -/
theorem cyc_last (h : CycOf (rkN l) l.length cs) {ws : List (List Int)} (hw : ws.Perm (cs.map (wordOf l))) {T : List (Nat × Nat)} (hT : Turned ws T) : bjL ws T = l := by
  have e : T.map (sqP ws) = (List.range l.length).map (uS l) := by
    refine sorted_fn ?_ hT.sorted ?_
    · refine (hT.1.map _).trans ?_
      rw [listP_rots]
      exact (hw.flatMap_right rots).trans (cyc_rots h)
    · rw [List.pairwise_map]
      refine List.Pairwise.imp_of_mem ?_ (List.pairwise_lt_range (n := l.length))
      intro a b _ hb hab
      exact uS_le hab (List.mem_range.1 hb)
  have hl : T.length = l.length := by have := congrArg List.length e; simpa using this
  unfold bjL
  refine rowI_ext (by rw [List.length_map, hl]) fun i hi => ?_
  rw [List.length_map] at hi
  have hi' : i < l.length := by omega
  have ht := hT.mem (List.getElem_mem hi)
  have es : sqP ws T[i] = uS l i := by
    have := congrArg (fun l => l[i]?) e
    simpa [List.getElem?_eq_getElem hi, List.getElem?_range, hi'] using this
  have e1 : (T.map (lastP ws)).getD i 0 = lastP ws T[i] := by simp [List.getD, List.getElem?_eq_getElem hi]
  rw [e1]
  obtain ⟨c, hc, hx⟩ := h.find hi'
  have hne := h.ne c hc
  rw [lastP_seq ht.2 hne, es, uS_at, show (wordAt ws T[i].1).length * c.length - 1 + 1 = (wordAt ws T[i].1).length * c.length by
    have : 0 < (wordAt ws T[i].1).length * c.length := Nat.mul_pos (by omega) hne
    omega]
  obtain ⟨t, ht2, et⟩ := mem_getN hx
  have hin : itN (qN l) (c.length - t) (c.getD 0 0) = i := by
    have := it_q h hc (c.length - t - 1) (by omega)
    rw [show c.length - t - 1 + 1 = c.length - t by omega, show c.length - 1 - (c.length - t - 1) = t by omega, et] at this
    exact this
  have key : ∀ m, itN (qN l) (m * c.length) i = i := fun m => by
    rw [← hin, ← itN_add, it_q_mod h hc, Nat.add_mul_mod_self_right, ← it_q_mod h hc]
  rw [key]
end
end Go.Proofs.YtlmbdafilboblaaGreat

/- Contract of bij.lastByte. -/
namespace Go.Proofs.YtlmbdafilboblaaGreat
set_option linter.unusedVariables false
set_option linter.unusedSimpArgs false
open Go.RowKit

theorem bjLastB_any (v : Value) (W : List Int) (y : Nat) (w : World) (hv : Sl .u8 w v W) (hy : y < W.length) (hl : W.length ≤ 1000000) :
    Calls Tryz.prog 18 #[v, .int .i64 (y : Int)] w fun e w' => e = .returned (.int .u8 (W.getD ((y + W.length - 1) % W.length) 0)) ∧ ∃ m, w' = w.drewN m := by
  have HV := hide' hv
  obtain ⟨_, _, rfl, _⟩ := id hv
  obtain ⟨_, g, off, rfl, cell⟩ := hv.at (fun e => by rw [e] at hy; simp at hy)
  obtain ⟨L, HL⟩ : ∃ L, Hid (W.length = L) := ⟨_, rfl⟩
  rw [HL.out] at hy hl cell ⊢
  by_cases h0 : y = 0
  · subst h0
    obtain ⟨J, hJ⟩ : ∃ J, J + 1 = L := ⟨L - 1, by omega⟩
    have e : (0 + L - 1) % L = J := by rw [show 0 + L - 1 = J by omega]; exact Nat.mod_eq_of_lt (by omega)
    have HE := hide' e
    have hi : (L : Int) - 1 = (J : Int) := by omega
    have hlt : (J : Int) < L := by omega
    have c1 := cell J (by omega)
    rw [e]
    clear cell hv e hJ
    go_enter Tryz.func18, Tryz.ntmps18
    go_wp2
    go_ret
    exact ⟨rfl, 0, rfl⟩
  · obtain ⟨J, rfl⟩ : ∃ J, y = J + 1 := ⟨y - 1, by omega⟩
    have e : (J + 1 + L - 1) % L = J := by rw [show J + 1 + L - 1 = J + L by omega, Nat.add_mod_right]; exact Nat.mod_eq_of_lt (by omega)
    have hi : ((J + 1 : Nat) : Int) - 1 = (J : Int) := by omega
    have hlt : (J : Int) < L := by omega
    have c1 := cell J (by omega)
    have d1 : (((J + 1 : Nat) : Int) == 0) = false := by simp; omega
    rw [e]
    obtain ⟨x, HX⟩ : ∃ x : Nat, Hid (x = J + 1) := ⟨_, rfl⟩
    rw [← HX.out] at hi d1 hy ⊢
    clear cell hv e h0
    go_enter Tryz.func18, Tryz.ntmps18
    go_wp2
    go_ret
    exact ⟨rfl, 0, rfl⟩
end Go.Proofs.YtlmbdafilboblaaGreat

/- Rows of pairs ([][2]int): owned, read, made, appended to, stored into. -/
namespace Go.Proofs.YtlmbdafilboblaaGreat
set_option linter.unusedVariables false
set_option linter.unusedSimpArgs false
open Go.RowKit

def cellsP (l : List (Nat × Nat)) : List Value := l.flatMap fun p => [.int .i64 (p.1 : Int), .int .i64 (p.2 : Int)]
theorem cellsP_cons (p : Nat × Nat) (l : List (Nat × Nat)) : cellsP (p :: l) = .int .i64 (p.1 : Int) :: .int .i64 (p.2 : Int) :: cellsP l := rfl
theorem cellsP_app (l l' : List (Nat × Nat)) : cellsP (l ++ l') = cellsP l ++ cellsP l' := by unfold cellsP; rw [List.flatMap_append]
theorem cellsP_len : ∀ l : List (Nat × Nat), (cellsP l).length = l.length * 2
  | [] => rfl
  | p :: l => by rw [cellsP_cons]; simp only [List.length_cons]; rw [cellsP_len l]; omega
theorem cellsP_at : ∀ {l : List (Nat × Nat)} {i : Nat}, i < l.length → (cellsP l)[i * 2]? = some (.int .i64 ((l.getD i (0, 0)).1 : Nat)) ∧ (cellsP l)[i * 2 + 1]? = some (.int .i64 ((l.getD i (0, 0)).2 : Nat))
  | p :: l, 0, _ => ⟨rfl, rfl⟩
  | p :: l, i + 1, h => by
    have := cellsP_at (l := l) (i := i) (by simpa using h)
    rw [cellsP_cons, show (i + 1) * 2 = i * 2 + 1 + 1 by omega]
    simpa using this
theorem cellsP_one (l : List (Nat × Nat)) : ∀ u ∈ cellsP l, u.oneCell' = true := by
  intro u hu
  obtain ⟨p, _, h⟩ := List.mem_flatMap.1 hu
  simp only [List.mem_cons, List.not_mem_nil, or_false] at h
  rcases h with rfl | rfl <;> rfl
theorem cellsP_take (l : List (Nat × Nat)) (n : Nat) : (cellsP l).take (n * 2) = cellsP (l.take n) := by
  induction l generalizing n with
  | nil => simp [cellsP]
  | cons p l ih =>
    cases n with
    | zero => rfl
    | succ n =>
      rw [List.take_succ_cons, cellsP_cons, cellsP_cons, show (n + 1) * 2 = n * 2 + 1 + 1 by omega, List.take_succ_cons, List.take_succ_cons, ih]
theorem cellsP_drop (l : List (Nat × Nat)) (n : Nat) : (cellsP l).drop (n * 2) = cellsP (l.drop n) := by
  induction l generalizing n with
  | nil => simp [cellsP]
  | cons p l ih =>
    cases n with
    | zero => rfl
    | succ n =>
      rw [List.drop_succ_cons, cellsP_cons, show (n + 1) * 2 = n * 2 + 1 + 1 by omega, List.drop_succ_cons, List.drop_succ_cons, ih]
theorem cellsP_set (l : List (Nat × Nat)) (i : Nat) (p : Nat × Nat) : ((cellsP l).set (i * 2) (.int .i64 (p.1 : Int))).set (i * 2 + 1) (.int .i64 (p.2 : Int)) = cellsP (l.set i p) := by
  induction l generalizing i with
  | nil => simp [cellsP]
  | cons q l ih =>
    cases i with
    | zero => rfl
    | succ i =>
      rw [List.set_cons_succ, cellsP_cons, cellsP_cons, show (i + 1) * 2 = i * 2 + 1 + 1 by omega, show i * 2 + 1 + 1 + 1 = (i * 2 + 1) + 1 + 1 by omega]
      simp only [List.set_cons_succ]
      rw [ih]

/-- A row of pairs of the call's own. -/
def OwnP (B : Nat) (w : World) (s : Value) (l : List (Nat × Nat)) : Prop := w.ownsRow B 36 2 s l.length (cellsP l)
/-- A row of pairs that may be read. -/
def SlP (w : World) (v : Value) (l : List (Nat × Nat)) : Prop :=
  ∃ a c, v = .slice a l.length c ∧ l.length ≤ c ∧ c ≤ maxLen ∧ (a = none → c = 0) ∧ (l = [] ∨ ∃ b off, a = some ⟨b, off, none⟩ ∧ w.rangeAt b off (cellsP l))

theorem SlP.ext {w w' : World} {v : Value} {l : List (Nat × Nat)} (h : SlP w v l) (he : Ext w w') : SlP w' v l := by
  obtain ⟨a, c, h1, h2, h3, h0, h4⟩ := h
  refine ⟨a, c, h1, h2, h3, h0, ?_⟩
  rcases h4 with h4 | ⟨b, off, h4, h5⟩
  · exact .inl h4
  · exact .inr ⟨b, off, h4, fun j v hj => he.cellOf (h5 j v hj)⟩
theorem OwnP.ext {B : Nat} {w w' : World} {s : Value} {l : List (Nat × Nat)} (h : OwnP B w s l) (he : Ext w w') : OwnP B w' s l :=
  World.ownsRow.kept (row := none) h ⟨he.os, he.tape, he.output, he.size, fun i hi _ => he.block i hi⟩ (by cases hv : s.ownBlock <;> simp)
theorem OwnP.low {B B' : Nat} {w : World} {s : Value} {l : List (Nat × Nat)} (h : OwnP B w s l) (hB : B' ≤ B) : OwnP B' w s l := by
  obtain ⟨h1, h2⟩ := h
  refine ⟨h1, ?_⟩
  rcases h2 with h2 | ⟨g, cap, cur, h2, h3, h4⟩
  · exact .inl h2
  · exact .inr ⟨g, cap, cur, h2, Nat.le_trans hB h3, h4⟩
theorem OwnP.nil (B : Nat) (w : World) : OwnP B w (.slice none 0 0) [] := World.ownsRow_nil _ _ _ _
theorem OwnP.shape {B : Nat} {w : World} {s : Value} {l : List (Nat × Nat)} (h : OwnP B w s l) : ∃ a cap, s = .slice a l.length cap ∧ l.length ≤ cap ∧ cap ≤ maxLen ∧ (l ≠ [] → ∃ g, a = some ⟨g, 0, none⟩ ∧ B ≤ g) := by
  rcases h.2 with ⟨rfl, h2⟩ | ⟨g, cap, cur, h2, h3, _, h4, h5, _⟩
  · exact ⟨none, 0, by rw [h2], by omega, by simp [maxLen], fun hne => absurd (List.length_eq_zero_iff.1 h2) hne⟩
  · exact ⟨_, cap, h2, h4, h5, fun _ => ⟨g, rfl, h3⟩⟩
theorem OwnP.sl {B : Nat} {w : World} {s : Value} {l : List (Nat × Nat)} (h : OwnP B w s l) : SlP w s l := by
  have h' := h
  rcases h.2 with ⟨rfl, h2⟩ | ⟨g, cap, cur, rfl, _, hh, hn, hm, hs, ht⟩
  · exact ⟨none, 0, by rw [h2], by omega, by simp [maxLen], fun _ => rfl, .inl (List.length_eq_zero_iff.1 h2)⟩
  · refine ⟨_, cap, rfl, hn, hm, (fun h => by cases h), .inr ⟨g, 0, rfl, fun j v hj => ?_⟩⟩
    have := World.ownsRow.cells h (g := g) rfl j v hj
    rwa [Addr.add_mid] at this
/-- The pair at a place. -/
theorem SlP.at {w : World} {a : Option Addr} {n c : Nat} {l : List (Nat × Nat)} (h : SlP w (.slice a n c) l) : l.length = n ∧ n ≤ c ∧ c ≤ maxLen ∧ (0 < n → ∃ g off, a = some ⟨g, off, none⟩ ∧ ∀ i, i < n → w.cell? ⟨g, off + i * 2, none⟩ = some (.int .i64 ((l.getD i (0, 0)).1 : Nat)) ∧ w.cell? ⟨g, off + i * 2 + 1, none⟩ = some (.int .i64 ((l.getD i (0, 0)).2 : Nat))) := by
  obtain ⟨a', c', h1, h2, h3, h4, h5⟩ := h
  simp only [Value.slice.injEq] at h1
  obtain ⟨rfl, rfl, rfl⟩ := h1
  refine ⟨rfl, h2, h3, fun h0 => ?_⟩
  rcases h5 with rfl | ⟨g, off, h5, h6⟩
  · simp at h0
  · refine ⟨g, off, h5, fun i hi => ?_⟩
    obtain ⟨e1, e2⟩ := cellsP_at hi
    exact ⟨h6 _ _ e1, by rw [Nat.add_assoc]; exact h6 _ _ e2⟩
/-- The load of a whole pair. -/
theorem load_pair {w : World} {g o : Nat} {p : Nat × Nat} (h : w.cell? ⟨g, o, none⟩ = some (.int .i64 (p.1 : Int)) ∧ w.cell? ⟨g, o + 1, none⟩ = some (.int .i64 (p.2 : Int))) :
    (Instr.loadAt 36 (.pointer (some ⟨g, o, none⟩))).run Tryz.prog w = .ok (.agg #[.int .i64 (p.1 : Int), .int .i64 (p.2 : Int)]) w := by
  refine run_loadAt_mid w g o 36 [.int .i64 (p.1 : Int), .int .i64 (p.2 : Int)] _ (fun j v hj => ?_) Tryz.underlying36 rfl (by kernel_rfl)
  match j, hj with
  | 0, hj => simp at hj; subst hj; exact h.1
  | 1, hj => simp at hj; subst hj; exact h.2

theorem infoP : (Tryz.prog.info? 36).map (fun i => (i.zero, i.size, i.bytes)) = some (some (.agg #[.int .i64 0, .int .i64 0]), 2, 16) := by kernel_rfl
theorem info_partsP {P : Program} {e : TypeId} {z : Value} {n b : Nat} (h : (P.info? e).map (fun i => (i.zero, i.size, i.bytes)) = some (some z, n, b)) : ∃ i, P.info? e = some i ∧ i.zero = some z ∧ i.size = n ∧ i.bytes = b := by
  cases hi : P.info? e with
  | none => simp [hi] at h
  | some i =>
    simp only [hi, Option.map_some, Option.some.injEq, Prod.mk.injEq] at h
    exact ⟨i, rfl, h.1, h.2.1, h.2.2⟩

/-- 'append(s, [2]int{i, j})' -/
theorem wpList_snocP (w : World) {ops : Array Oper} {rest : List Oper} {o : Oper} {a : Act} {Q : Exit → Act → World → Prop} (hgd : o.guard = none) (s x : Operand)
    (ho : o.op = .call { callee := .builtin .append, args := #[s, x], argTypes := #[34, 34] }) (B : Nat) (v : Value) (l : List (Nat × Nat)) (p : Nat × Nat) (g : Nat) (hs : a.eval s = v) (hx : a.eval x = .slice (some ⟨g, 0, none⟩) 1 1)
    (hc : w.heap[g]? = some (.cells #[.int .i64 (p.1 : Int), .int .i64 (p.2 : Int)] 36 (0, 0))) (hown : OwnP B w v l) (hlen : l.length + 1 ≤ 1000000) (hB : B ≤ w.heap.size)
    (h : ∀ v' w', OwnP B w' v' (l ++ [p]) → Below B w w' → wpList Tryz.prog ops Q rest (a.put o.dst v') w') : wpList Tryz.prog ops Q (o :: rest) a w := by
  obtain ⟨i0, hi, hz0, hz1, hz2⟩ := info_partsP infoP
  refine wpList_append_own w hgd s x 34 ho B 36 i0 (.agg #[.int .i64 0, .int .i64 0]) 2 16 Tryz.underlying34 hi hz0 hz1 hz2 rfl (by decide) v _ _ hs hown ⟨g, 0, none⟩ 1 1 [.int .i64 (p.1 : Int), .int .i64 (p.2 : Int)] hx rfl ?_ (cellsP_one [p]) (by unfold maxLen; omega) (by omega) hB ?_
  · intro j u hj
    rw [Addr.add_mid, Nat.zero_add]
    match j, hj with
    | 0, hj => simp at hj; subst hj; simp [World.cell?, hc]
    | 1, hj => simp at hj; subst hj; simp [World.cell?, hc]
  · intro v' w' h1 h2 _
    refine h v' w' ?_ ((Below.refl _ _).grown h2 hB (fun k hk => (World.ownsRow.lt hown k hk).1))
    unfold OwnP
    rw [cellsP_app, List.length_append]
    exact h1

/-- 'make([][2]int, 0, n)' -/
theorem make_room (w : World) (n : Nat) (hn : n ≤ 1000000) : ∃ w', (Instr.makeSlice 34 (.int .i64 0) (.int .i64 (n : Int))).run Tryz.prog w = .ok (.slice (some ⟨w.heap.size, 0, none⟩) 0 n) w' ∧ OwnP w.heap.size w' (.slice (some ⟨w.heap.size, 0, none⟩) 0 n) [] ∧ Ext w w' := by
  obtain ⟨i0, hi, hz0, hz1, hz2⟩ := info_partsP infoP
  obtain ⟨w', h1, h2, h3⟩ := run_make_own (P := Tryz.prog) w w.heap.size 34 36 i0 _ 2 Tryz.underlying34 hi hz0 hz1 .i64 .i64 n (by rw [hz2]; omega) (by unfold maxLen; omega) (Nat.le_refl _)
  exact ⟨w', h1, h2, ⟨h3.os, h3.tape, h3.output, h3.size, fun k hk => h3.block k hk (by simp)⟩⟩
theorem madeP (n : Nat) : (madeCells #[Value.int .i64 0, Value.int .i64 0] (n * 2)).toList = cellsP (List.replicate n (0, 0)) := by
  have e : cellsP (List.replicate n (0, 0)) = List.replicate (n * 2) (Value.int .i64 0) := by
    induction n with
    | zero => rfl
    | succ n ih =>
      rw [List.replicate_succ, cellsP_cons, ih, show (n + 1) * 2 = n * 2 + 1 + 1 by omega, List.replicate_succ, List.replicate_succ]
      rfl
  rw [e]
  refine List.ext_getElem (by simp [madeCells]) fun k h1 h2 => ?_
  have hk : k % 2 = 0 ∨ k % 2 = 1 := by omega
  simp only [madeCells, Array.getElem_toList, Array.getElem_map, Array.getElem_range, List.getElem_replicate]
  rcases hk with hk | hk <;> simp [hk]
/-- 'make([][2]int, n)' -/
theorem make_pairs (w : World) (n : Nat) (hn : n ≤ 1000000) : ∃ w', (Instr.makeSlice 34 (.int .i64 (n : Int)) (.int .i64 (n : Int))).run Tryz.prog w = .ok (.slice (some ⟨w.heap.size, 0, none⟩) n n) w' ∧ OwnP w.heap.size w' (.slice (some ⟨w.heap.size, 0, none⟩) n n) (List.replicate n (0, 0)) ∧ Ext w w' := by
  obtain ⟨i0, hi, hz0, hz1, hz2⟩ := info_partsP infoP
  obtain ⟨w', h1, h2, h3⟩ := run_make_full (P := Tryz.prog) w w.heap.size 34 36 i0 _ 2 Tryz.underlying34 hi hz0 hz1 .i64 .i64 n (by rw [hz2]; omega) (by unfold maxLen; omega) (Nat.le_refl _)
  refine ⟨w', h1, ?_, ⟨h3.os, h3.tape, h3.output, h3.size, fun k hk => h3.block k hk (by simp)⟩⟩
  unfold OwnP
  rw [List.length_replicate, ← madeP]
  exact h2
/-- 'a[i] = p' -/
theorem OwnP.store {B : Nat} {w : World} {g n cap : Nat} {l : List (Nat × Nat)} (h : OwnP B w (.slice (some ⟨g, 0, none⟩) n cap) l) (hn : l.length = n) (i : Nat) (p : Nat × Nat) :
    OwnP B (w.setCells g (i * 2) [.int .i64 (p.1 : Int), .int .i64 (p.2 : Int)]) (.slice (some ⟨g, 0, none⟩) n cap) (l.set i p) := by
  subst hn
  have h1 := (World.ownsRow.stored h (i * 2) (.int .i64 (p.1 : Int))).1
  have h2 := (World.ownsRow.stored h1 (i * 2 + 1) (.int .i64 (p.2 : Int))).1
  rw [cellsP_set] at h2
  unfold OwnP
  rw [List.length_set]
  exact h2
theorem OwnP.there {B : Nat} {w : World} {g n cap : Nat} {l : List (Nat × Nat)} (h : OwnP B w (.slice (some ⟨g, 0, none⟩) n cap) l) (hn : l.length = n) {i : Nat} (hi : i < n) : w.there g (i * 2) 2 := by
  subst hn
  intro j hj
  refine ⟨?_, World.ownsRow.frozenAt h _⟩
  rw [World.ownsRow.cellAt h (i * 2 + j) (by omega), List.getElem?_eq_getElem (by rw [cellsP_len]; omega)]
  rfl
/-- What a store of a pair asks, cell by cell. -/
theorem OwnP.cells2 {B : Nat} {w : World} {g n cap : Nat} {l : List (Nat × Nat)} (h : OwnP B w (.slice (some ⟨g, 0, none⟩) n cap) l) (hn : l.length = n) {i : Nat} (hi : i < n) (v : Value) :
    (∃ x, w.cell? ⟨g, i * 2, none⟩ = some x) ∧ w.frozen? ⟨g, i * 2, none⟩ = false ∧ (∃ x, (w.setCell ⟨g, i * 2, none⟩ v).cell? ⟨g, i * 2 + 1, none⟩ = some x) ∧ (w.setCell ⟨g, i * 2, none⟩ v).frozen? ⟨g, i * 2 + 1, none⟩ = false := by
  subst hn
  have h1 := (World.ownsRow.stored h (i * 2) v).1
  have e1 := World.ownsRow.cellAt h (i * 2) (by omega)
  have e2 := World.ownsRow.cellAt h1 (i * 2 + 1) (by omega)
  rw [List.getElem?_eq_getElem (by rw [cellsP_len]; omega)] at e1
  rw [List.getElem?_eq_getElem (by rw [List.length_set, cellsP_len]; omega)] at e2
  exact ⟨⟨_, e1⟩, World.ownsRow.frozenAt h _, ⟨_, e2⟩, World.ownsRow.frozenAt h1 _⟩
theorem but_setCells (w : World) (b o : Nat) (vs : List Value) : But b w (w.setCells b o vs) := by
  induction vs generalizing w o with
  | nil => exact But.refl _ _
  | cons v vs ih => exact ((But.refl _ _).setCell o v).trans (ih _ _)
theorem store_pair {B : Nat} {w : World} {g n cap : Nat} {l : List (Nat × Nat)} (h : OwnP B w (.slice (some ⟨g, 0, none⟩) n cap) l) (hn : l.length = n) {i : Nat} (hi : i < n) (p : Nat × Nat) :
    (Instr.storeAt 36 (.pointer (some ⟨g, i * 2, none⟩)) (.agg #[.int .i64 (p.1 : Int), .int .i64 (p.2 : Int)])).run Tryz.prog w = .ok () (w.setCells g (i * 2) [.int .i64 (p.1 : Int), .int .i64 (p.2 : Int)]) :=
  run_storeAt_mid w g (i * 2) 36 #[.int .i64 (p.1 : Int), .int .i64 (p.2 : Int)] (h.there hn hi) (by kernel_rfl) (all_oneCell_toArray (cellsP_one [p]))
theorem sizeP : ∀ w, (Go.sizeOf 36).run Tryz.prog w = .ok 2 w := by intro w; kernel_rfl
/-- 's[:n]' -/
theorem SlP.runTake {w : World} {a : Option Addr} {len c : Nat} {l : List (Nat × Nat)} (h : SlP w (.slice a len c) l) (n : Nat) (hn : n ≤ l.length) :
    (∀ W, (Instr.slice 34 (.slice a len c) none (some (.int .i64 (n : Int))) none).run Tryz.prog W = .ok (.slice a n c) W) ∧ SlP w (.slice a n c) (l.take n) := by
  obtain ⟨a', c', h1, h2, h3, h4, h5⟩ := h
  simp only [Value.slice.injEq] at h1
  obtain ⟨rfl, rfl, rfl⟩ := h1
  have ht : Tryz.prog.underlying 34 = some (.slice 36) := Tryz.underlying34
  have ht' : Tryz.prog.underlying 34 = some (.slice (Tryz.prog.elem 34)) := by simp [Program.elem, ht]
  have he : Tryz.prog.elem 34 = 36 := by simp [Program.elem, ht]
  refine ⟨fun W => ?_, ?_⟩
  · rw [run_slice_h W 34 _ _ _ ht' .i64 _ (by omega) (by omega), he, sizeP]
    have hs : sliced a 0 n c 2 = .slice a n c := by
      unfold sliced
      by_cases h0 : c = 0
      · simp [h0]
      · cases a <;> simp [h0, Addr.add]
    simp only [Result.andThen, Int.toNat_natCast, hs]
  · have hl : (l.take n).length = n := by rw [List.length_take]; omega
    refine ⟨a, c, by rw [hl], by omega, h3, h4, ?_⟩
    rcases h5 with rfl | ⟨b, off, rfl, h6⟩
    · exact .inl (by simp)
    · refine .inr ⟨b, off, rfl, fun j v hj => ?_⟩
      rw [← cellsP_take, List.getElem?_take] at hj
      split at hj
      · exact h6 j v hj
      · cases hj
/-- 's[n:]' -/
theorem SlP.runDrop {w : World} {a : Option Addr} {len c : Nat} {l : List (Nat × Nat)} (h : SlP w (.slice a len c) l) (n : Nat) (hn : n ≤ l.length) :
    ∃ a', (∀ W, (Instr.slice 34 (.slice a len c) (some (.int .i64 (n : Int))) none none).run Tryz.prog W = .ok (.slice a' (len - n) (c - n)) W) ∧ SlP w (.slice a' (len - n) (c - n)) (l.drop n) := by
  obtain ⟨a', c', h1, h2, h3, h4, h5⟩ := h
  simp only [Value.slice.injEq] at h1
  obtain ⟨rfl, rfl, rfl⟩ := h1
  have ht : Tryz.prog.underlying 34 = some (.slice 36) := Tryz.underlying34
  have ht' : Tryz.prog.underlying 34 = some (.slice (Tryz.prog.elem 34)) := by simp [Program.elem, ht]
  have he : Tryz.prog.elem 34 = 36 := by simp [Program.elem, ht]
  refine ⟨if c = n then a else a.map (·.add (n * 2)), fun W => ?_, ?_⟩
  · rw [run_slice_l W 34 _ _ _ ht' .i64 _ (by omega) (by omega), he, sizeP]
    simp only [Result.andThen, Int.toNat_natCast, sliced]
  · have hl : (l.drop n).length = l.length - n := List.length_drop
    refine ⟨_, c - n, by rw [hl], by omega, by omega, fun h => ?_, ?_⟩
    · by_cases hcn : c = n
      · omega
      · rw [if_neg hcn] at h
        cases a with
        | none => have := h4 rfl; omega
        | some a => cases h
    · by_cases hcn : n = l.length
      · exact .inl (by rw [hcn]; simp)
      · rcases h5 with rfl | ⟨b, off, rfl, h6⟩
        · exact .inl (by simp)
        · refine .inr ⟨b, off + n * 2, ?_, fun j v hj => ?_⟩
          · rw [if_neg (by omega)]; simp [Addr.add]
          · rw [← cellsP_drop, List.getElem?_drop] at hj
            rw [Nat.add_assoc]
            exact h6 _ v hj
/-- What an append reads of it. -/
theorem SlP.news {w : World} {a : Option Addr} {n c : Nat} {l : List (Nat × Nat)} (h : SlP w (.slice a n c) l) : l.length = n ∧ (a = none → c = 0 ∧ n = 0) ∧ ∀ ad, a = some ad → ∀ j u, (cellsP l)[j]? = some u → w.cell? (ad.add j) = some u := by
  obtain ⟨a', c', h1, h2, h3, h4, h5⟩ := h
  simp only [Value.slice.injEq] at h1
  obtain ⟨rfl, rfl, rfl⟩ := h1
  refine ⟨rfl, fun e => ⟨h4 e, by have := h4 e; omega⟩, fun ad hd j u hj => ?_⟩
  rcases h5 with rfl | ⟨b, off, h5, h6⟩
  · simp [cellsP] at hj
  · rw [hd] at h5
    simp only [Option.some.injEq] at h5
    subst h5
    rw [Addr.add_mid]
    exact h6 j u hj
theorem finP_1 (A D : List (Nat × Nat)) (t : Nat × Nat) (n q : Nat) (hn : A.length = n) (h : q < n * 2) : (cellsP A)[q]? = (cellsP (A ++ [t] ++ D))[0 * 2 + q]? := by
  rw [cellsP_app, cellsP_app, Nat.zero_mul, Nat.zero_add, List.append_assoc, List.getElem?_append_left (by rw [cellsP_len, hn]; exact h)]
theorem finP_2 (A D : List (Nat × Nat)) (t : Nat × Nat) (n q : Nat) (hn : A.length = n) (h : q < 1 * 2) : (cellsP [t])[q]? = (cellsP (A ++ [t] ++ D))[n * 2 + q]? := by
  have e : (cellsP [t]).length = 2 := rfl
  rw [cellsP_app, cellsP_app, List.append_assoc, List.getElem?_append_right (by rw [cellsP_len, hn]; omega), cellsP_len, hn, List.getElem?_append_left (by rw [e]; omega)]
  congr 1
  omega
theorem finP_3 (A D : List (Nat × Nat)) (t : Nat × Nat) (n q : Nat) (hn : A.length = n) : (cellsP D)[q]? = (cellsP (A ++ [t] ++ D))[(n + 1) * 2 + q]? := by
  have e : (cellsP (A ++ [t])).length = (n + 1) * 2 := by rw [cellsP_len, List.length_append, hn]; rfl
  rw [cellsP_app (A ++ [t]) D, List.getElem?_append_right (by omega), e]
  congr 1
  omega
end Go.Proofs.YtlmbdafilboblaaGreat

/- A word of a row of words, by its place. No conditions. -/
namespace Go.Proofs.YtlmbdafilboblaaGreat
set_option linter.unusedVariables false
set_option linter.unusedSimpArgs false
open Go.RowKit

theorem Sls.word {w : World} {a : Option Addr} {n c : Nat} {zss : List (List Int)} (h : Sls w (.slice a n c) zss) {k : Nat} (hk : k < zss.length) :
    ∃ g off a2 c2, a = some ⟨g, off, .none⟩ ∧ w.cell? ⟨g, off + k, .none⟩ = some (.slice a2 (wordAt zss k).length c2) ∧ c2 ≤ maxLen ∧ (wordAt zss k).length ≤ c2 ∧ Sl .u8 w (.slice a2 (wordAt zss k).length c2) (wordAt zss k) := h.row hk
end Go.Proofs.YtlmbdafilboblaaGreat

/- Contract of omega.listed. -/
namespace Go.Proofs.YtlmbdafilboblaaGreat
set_option linter.unusedVariables false
set_option linter.unusedSimpArgs false
open Go.RowKit

set_option maxHeartbeats 1000000 in
theorem listed_any (v : Value) (zss : List (List Int)) (w : World) (hs : Sls w v zss) (hlen : zss.length ≤ 100000) (htot : offP zss zss.length ≤ 100000) :
    Calls Tryz.prog 32 #[v] w fun e w' => ∃ s, e = .returned s ∧ OwnP w.heap.size w' s (listP zss) ∧ Ext w w' := by
  have HS := hide' hs
  obtain ⟨a, c, rfl, _⟩ := hs
  have OM : Hid (∀ k, k ≤ zss.length → offP zss k ≤ 100000) := fun k hk => Nat.le_trans (offP_mono zss hk) htot
  have OS : Hid (∀ k, offP zss (k + 1) = offP zss k + (wordAt zss k).length) := offP_succ zss
  obtain ⟨n, HN⟩ : ∃ n, Hid (zss.length = n) := ⟨_, rfl⟩
  rw [HN.out] at HS hlen htot OM ⊢
  go_enter Tryz.func32, Tryz.ntmps32
  go_wp2
  go_loop [3, 12] (fun vt vi => ∃ (i t : Nat), i ≤ n ∧ t ≤ 100000 ∧ vi = .int .i64 i ∧ vt = .int .i64 t ∧ Hid (offP zss i = t)) (fun _ vi => n - (intOf vi).toNat)
  case atStart => exact ⟨0, 0, Nat.zero_le _, Nat.zero_le _, rfl, rfl, rfl⟩
  case round =>
    obtain ⟨i, t, hi, ht, rfl, rfl, HT⟩ := hrel
    by_cases hlt : i < n
    · have hlt' : (i : Int) < n := by omega
      obtain ⟨g, off, a2, c2, rfl, hc, hm1, hm2, _⟩ := HS.out.word (k := i) (by rw [HN.out]; exact hlt)
      unfold maxLen at hm1
      have hsum := OM.out (i + 1) (by omega)
      rw [OS.out, HT.out] at hsum
      have HT2 : Hid (offP zss (i + 1) = t + (wordAt zss i).length) := by show _ = _; rw [OS.out, HT.out]
      generalize (wordAt zss i).length = m at *
      go_wp2
      go_round
      case rel => exact ⟨i + 1, t + m, by omega, by omega, by go_num, by go_num, HT2⟩
      case measure => simp [intOf]; omega
    · have hlt' : decide ((i : Int) < n) = false := by simp; omega
      have hin : i = n := by omega
      subst hin
      obtain ⟨w1, hmk, ho, he⟩ := make_room w t (by omega)
      have HO : Hid (OwnP w.heap.size w1 (.slice (some ⟨w.heap.size, 0, none⟩) 0 t) (listK zss 0)) := ho
      have HE := hide' he
      clear ho he
      go_wp2
      clear hmk
      go_loopw [6, 25] (fun sv vi wr => ∃ (k : Nat), k ≤ i ∧ vi = .int .i64 k ∧ Hid (OwnP w.heap.size wr sv (listK zss k)) ∧ Hid (Ext w wr)) (fun _ vi _ => i - (intOf vi).toNat)
      case atStart => exact ⟨0, Nat.zero_le _, rfl, HO, HE⟩
      case round =>
        clear HO HE
        obtain ⟨k, hk, rfl, HO, HE⟩ := hrel
        by_cases hlt2 : k < i
        · have hlt2' : (k : Int) < i := by omega
          obtain ⟨g, off, a2, c2, rfl, hc, hm1, hm2, _⟩ := (HS.out.ext HE.out).word (k := k) (by rw [HN.out]; exact hlt2)
          unfold maxLen at hm1
          have hsum := OM.out (k + 1) (by omega)
          rw [OS.out] at hsum
          have HL : Hid ((listK zss k).length + (wordAt zss k).length ≤ 100000) := hsum
          have HR : Hid (listK zss (k + 1) = listK zss k ++ rowP k (wordAt zss k).length) := listK_succ zss k
          generalize (wordAt zss k).length = m at *
          have HO0 : Hid (OwnP w.heap.size wr u6 (listK zss k ++ rowP k 0)) := by show OwnP _ _ _ _; simpa [rowP] using HO.out
          go_wp2
          go_loopw [6, 32] (fun sv vj wr => ∃ (j : Nat), j ≤ m ∧ vj = .int .i64 j ∧ Hid (OwnP w.heap.size wr sv (listK zss k ++ rowP k j)) ∧ Hid (Ext w wr)) (fun _ vj _ => m - (intOf vj).toNat)
          case atStart => exact ⟨0, Nat.zero_le _, rfl, HO0, HE⟩
          case round =>
            clear HO0 HO HE hc
            obtain ⟨j, hj, rfl, HO, HE⟩ := hrel
            by_cases hlt3 : j < m
            · have hlt3' : (j : Int) < m := by omega
              have hll : (listK zss k ++ rowP k j).length + 1 ≤ 1000000 := by
                have := HL.out
                rw [List.length_append, rowP_len]; omega
              have HLL := hide' hll
              have hsz := HE.out.size
              clear hll
              go_wp2_with (at_builtin; refine wpList_snocP _ rfl _ _ rfl w.heap.size _ (listK zss k ++ rowP k j) (k, j) _ rfl rfl ?c4 (HO.out.ext (ext_alloc _ _)) HLL.out ?c5 ?_)
              case c4 => exact (Array.getElem?_eq_some_iff.1 (heap_alloc_top wr _)).2
              case c5 => exact Nat.le_trans hsz (ext_alloc _ _).size
              intro v1 w3 ho1 hb1
              have HO1 : Hid (OwnP w.heap.size w3 v1 (listK zss k ++ rowP k (j + 1))) := by show OwnP _ _ _ _; rw [rowP_succ]; exact ho1
              have HE1 := hide' (Below.trans (HE.out.trans (ext_alloc _ _)) hb1)
              clear ho1 hb1
              go_wp2
              go_roundw
              case rel => exact ⟨j + 1, by omega, by go_num, HO1, HE1⟩
              case measure => simp [intOf]; omega
            · have hlt3' : decide ((j : Int) < m) = false := by simp; omega
              have hjm : j = m := by omega
              subst hjm
              rw [← HR.out] at HO
              go_wp2
              go_roundw
              case rel => exact ⟨k + 1, by omega, by go_num, HO, HE⟩
              case measure => simp [intOf]; omega
        · have hlt2' : decide ((k : Int) < i) = false := by simp; omega
          have hki : k = i := by omega
          subst hki
          have HQ : Hid (listP zss = listK zss k) := by show _ = _; unfold listP; rw [HN.out]
          go_wp2
          go_ret
          exact ⟨_, rfl, by rw [HQ.out]; exact HO.out, HE.out⟩
end Go.Proofs.YtlmbdafilboblaaGreat

/- Contracts of omega.through and omega.counted. -/
namespace Go.Proofs.YtlmbdafilboblaaGreat
set_option linter.unusedVariables false
set_option linter.unusedSimpArgs false
open Go.RowKit

set_option maxHeartbeats 400000 in
theorem through_any (v u : Value) (ps vs : List Nat) (w : World) (hv : Sl .i64 w v (natL ps)) (hu : Sl .i64 w u (natL vs)) (hin : ∀ p ∈ ps, p < vs.length) (hlen : ps.length ≤ 1000000) :
    Calls Tryz.prog 45 #[v, u] w fun e w' => ∃ s, e = .returned s ∧ Own .i64 3 w.heap.size w' s (natL (ps.map fun p => vs.getD p 0)) ∧ Ext w w' := by
  have HV := hide' hv
  have HU := hide' hu
  obtain ⟨a, c, rfl, _⟩ := hv
  obtain ⟨a', c', rfl, _⟩ := hu
  rw [natL_len] at HV HU ⊢
  rw [natL_len]
  obtain ⟨_, hc1, hc2, hcv⟩ := HV.out.nat
  obtain ⟨_, hc3, hc4, hcu⟩ := HU.out.nat
  unfold maxLen at hc2 hc4
  have CV := hide' hcv
  have CU := hide' hcu
  have HI := hide' hin
  obtain ⟨n, HN⟩ : ∃ n, Hid (ps.length = n) := ⟨_, rfl⟩
  obtain ⟨m, HM⟩ : ∃ n, Hid (vs.length = n) := ⟨_, rfl⟩
  rw [HN.out] at CV hlen hc1 ⊢
  rw [HM.out] at CU hc3 HI ⊢
  clear hcv hcu hin HV HU
  obtain ⟨w1, hmk, ho, he⟩ := make_nats w n hlen
  have HO := hide' ho
  have HE := hide' he
  clear ho he
  go_enter Tryz.func45, Tryz.ntmps45
  go_wp2
  clear hmk
  go_loopw [13] (fun vi wr => ∃ (i : Nat) (bs : List Nat), i ≤ n ∧ vi = .int .i64 i ∧ Hid (bs.length = n) ∧ Hid (∀ j, j < i → bs.getD j 0 = vs.getD (ps.getD j 0) 0) ∧
    Hid (Own .i64 3 w.heap.size wr (.slice (some ⟨w.heap.size, 0, none⟩) n n) (natL bs)) ∧ Hid (Ext w wr)) (fun vi _ => n - (intOf vi).toNat)
  case atStart => exact ⟨0, List.replicate n 0, Nat.zero_le _, rfl, List.length_replicate, (fun j hj => by omega), HO, HE⟩
  case round =>
    obtain ⟨i, bs, hi, rfl, HL, HB, HO, HE⟩ := hrel
    by_cases hlt : i < n
    · have hlt' : (i : Int) < n := by omega
      obtain ⟨g1, o1, rfl, k1⟩ := CV.out (by omega)
      have hp : ps.getD i 0 < m := HI.out _ (getN_mem (by rw [HN.out]; exact hlt))
      obtain ⟨g2, o2, rfl, k2⟩ := CU.out (by omega)
      have c1 := HE.out.cellOf (k1 i hlt)
      have c2 := HE.out.cellOf (k2 _ hp)
      clear k1 k2
      obtain ⟨p, HP⟩ : ∃ p, Hid (ps.getD i 0 = p) := ⟨_, rfl⟩
      obtain ⟨q, HQ⟩ : ∃ q, Hid (vs.getD p 0 = q) := ⟨_, rfl⟩
      rw [HP.out] at c1 hp c2
      rw [HQ.out] at c2
      have hp' : (p : Int) < m := by omega
      have hfz := HO.out.frozen (by rw [natL_len]; exact HL.out) i
      have hci := HO.out.intCell HL.out i hlt
      have HO2 := hide' (HO.out.storeN HL.out i q)
      go_wp2
      go_roundw
      case rel =>
        refine ⟨i + 1, bs.set i q, by omega, by go_num, (show _ = _ by rw [List.length_set]; exact HL.out), fun j hj => ?_, HO2, Ext.but HE.out (Nat.le_refl _) ((But.refl _ _).setCell _ _)⟩
        by_cases hji : j = i
        · subst hji; rw [set_same (by rw [HL.out]; exact hlt), HP.out, HQ.out]
        · rw [set_other (by omega), HB.out j (by omega)]
      case measure => simp [intOf]; omega
    · have hlt' : decide ((i : Int) < n) = false := by simp; omega
      have HQ : Hid (bs = ps.map fun p => vs.getD p 0) := natL_ext (by rw [HL.out, List.length_map, HN.out]) fun j hj => by
        rw [HL.out] at hj
        rw [HB.out j (by omega)]
        simp [List.getD, HN.out, hj]
      go_wp2
      go_ret
      exact ⟨_, rfl, by rw [← HQ.out]; exact HO.out, HE.out⟩

theorem counted_any (n : Nat) (w : World) (hlen : n ≤ 1000000) :
    Calls Tryz.prog 47 #[.int .i64 (n : Int)] w fun e w' => ∃ s, e = .returned s ∧ Own .i64 3 w.heap.size w' s (natL (List.range n)) ∧ Ext w w' := by
  obtain ⟨w1, hmk, ho, he⟩ := make_nats w n hlen
  have HO := hide' ho
  have HE := hide' he
  clear ho he
  go_enter Tryz.func47, Tryz.ntmps47
  go_wp2
  clear hmk
  go_loopw [9] (fun vi wr => ∃ (i : Nat) (bs : List Nat), i ≤ n ∧ vi = .int .i64 i ∧ Hid (bs.length = n) ∧ Hid (∀ j, j < i → bs.getD j 0 = j) ∧
    Hid (Own .i64 3 w.heap.size wr (.slice (some ⟨w.heap.size, 0, none⟩) n n) (natL bs)) ∧ Hid (Ext w wr)) (fun vi _ => n - (intOf vi).toNat)
  case atStart => exact ⟨0, List.replicate n 0, Nat.zero_le _, rfl, List.length_replicate, (fun j hj => by omega), HO, HE⟩
  case round =>
    obtain ⟨i, bs, hi, rfl, HL, HB, HO, HE⟩ := hrel
    by_cases hlt : i < n
    · have hlt' : (i : Int) < n := by omega
      have hfz := HO.out.frozen (by rw [natL_len]; exact HL.out) i
      have hci := HO.out.intCell HL.out i hlt
      have HO2 := hide' (HO.out.storeN HL.out i i)
      go_wp2
      go_roundw
      case rel =>
        refine ⟨i + 1, bs.set i i, by omega, by go_num, (show _ = _ by rw [List.length_set]; exact HL.out), fun j hj => ?_, HO2, Ext.but HE.out (Nat.le_refl _) ((But.refl _ _).setCell _ _)⟩
        by_cases hji : j = i
        · subst hji; rw [set_same (by rw [HL.out]; exact hlt)]
        · rw [set_other (by omega), HB.out j (by omega)]
      case measure => simp [intOf]; omega
    · have hlt' : decide ((i : Int) < n) = false := by simp; omega
      have HQ : Hid (bs = List.range n) := natL_ext (by rw [HL.out, List.length_range]) fun j hj => by
        rw [HL.out] at hj
        rw [HB.out j (by omega), rangeN_at hj]
      go_wp2
      go_ret
      exact ⟨_, rfl, by rw [← HQ.out]; exact HO.out, HE.out⟩
end Go.Proofs.YtlmbdafilboblaaGreat

/- A region that draws its order, whose first operations leave all old memory as it was and may make new memory, and whose last ones (a store) come one behind the other: one walk in the order of the text serves every order. Over any program; no conditions. -/
namespace Go.Proofs.YtlmbdafilboblaaGreat
set_option linter.unusedVariables false
set_option linter.unusedSimpArgs false
open Go.RowKit

section
variable {P : Program} {ops : Array Oper} {md : Region.Mode} {S : FuncId → Array Value → Value → World → Prop} {w0 : World}

def anyKL (P : Program) (md : Region.Mode) (ops : Array Oper) (S : FuncId → Array Value → Value → World → Prop) (w0 : World) (n : Nat) (L : Array Bool → Act → Facts → Prop) : Nat → Array Bool → Act → Facts → Prop
  | 0, listed, a, F => L listed a F
  | fuel + 1, listed, a, F =>
    Region.ready md ops listed ≠ [] ∧
    ∀ i ∈ Region.ready md ops listed, i < n ∧ kOp P ops S w0 i (anyKL P md ops S w0 n L fuel (listed.setIfInBounds i true)) a F

theorem anyKL_anti {n : Nat} {L : Array Bool → Act → Facts → Prop} (hL : ∀ listed a F F', (∀ t w, F' t w → F t w) → L listed a F → L listed a F') : ∀ (fuel : Nat) (listed : Array Bool) (a : Act) (F F' : Facts), (∀ t w, F' t w → F t w) →
    anyKL P md ops S w0 n L fuel listed a F → anyKL P md ops S w0 n L fuel listed a F'
  | 0, _, _, _, _, h, hh => hL _ _ _ _ h hh
  | fuel + 1, _, _, _, _, h, hh => ⟨hh.1, fun i hi => ⟨(hh.2 i hi).1, kOp_anti (fun a F F' h => anyKL_anti hL fuel _ a F F' h) h (hh.2 i hi).2⟩⟩

theorem wpAny_of_anyKL {n g : Nat} {L : Array Bool → Act → Facts → Prop} {Q' : Exit → Act → World → Prop} (hL : ∀ listed a F w, Ext w0 w → (∀ t, F t w) → L listed a F → wpAny P md ops Q' g listed a w) :
    ∀ (fuel : Nat) (listed : Array Bool) (a : Act) (F : Facts) (w : World),
    Ext w0 w → (∀ t, UpW (F t)) → (∀ t, F t w) → anyKL P md ops S w0 n L fuel listed a F → wpAny P md ops Q' (fuel + g) listed a w
  | 0, _, _, _, _, he, _, hf, h => by rw [Nat.zero_add]; exact hL _ _ _ _ he hf h
  | fuel + 1, listed, a, F, w, he, hup, hf, h => by
    rw [show fuel + 1 + g = (fuel + g) + 1 by omega]
    refine ⟨fun e => absurd e h.1, fun i hi => ?_⟩
    have h1 := (h.2 i hi).2
    unfold kOp at h1
    unfold wpOp
    cases ho : ops[i]? with
    | none => simp only [ho] at h1 ⊢; exact wpAny_of_anyKL hL fuel _ _ _ _ he hup hf h1
    | some o =>
      simp only [ho] at h1 ⊢
      obtain ⟨R, ⟨hR, hy⟩, hn⟩ := h1
      have go : ∀ v w', Ext w w' → R v w' → wpAny P md ops Q' (fuel + g) (listed.setIfInBounds i true) (a.put o.dst v) w' := fun v w' hx hr =>
        wpAny_of_anyKL hL fuel _ _ _ _ (he.trans hx) (fun t w1 w2 h12 hh => ⟨hup t w1 w2 h12 hh.1, fun e => hR v w1 w2 h12 (hh.2 e)⟩) (fun t => ⟨hup t w w' hx (hf t), fun _ => hr⟩)
          (hn v ⟨w', he.trans hx, fun t => hup t w w' hx (hf t), hr⟩)
      rcases hy with ⟨hw, hk⟩ | ⟨hw, rfl⟩
      · rw [if_pos hw]
        refine .inl ?_
        have h2 := hk w he fun t _ => hf t
        unfold Oper.wp
        generalize (execOp a.eval o).run P w = r at *
        cases r with
        | ok n w' =>
          cases n <;> simp only [kUpon] at h2 <;> simp only [Oper.upon]
          case value u => exact go _ _ h2.1 h2.2
          case skip => exact go _ _ h2.1 h2.2
          case enter f args =>
            obtain ⟨h3, h4, h5⟩ := h2
            exact h4.mono fun e w'' ⟨v, hv, h6, h7⟩ => by subst hv; exact go _ _ (h3.trans h6) (h5 _ _ h7)
        | halt x w' => simp only [kUpon] at h2
      · rw [if_neg (by rw [hw]; exact Bool.false_ne_true)]
        exact go _ _ (Ext.refl _) rfl

theorem anyKL_first {n i : Nat} {oi : Oper} {L : Array Bool → Act → Facts → Prop} (hL : ∀ listed a F F', (∀ t w, F' t w → F t w) → L listed a F → L listed a F')
    (hi : ops[i]? = some oi) (hsel : ∀ (j : Nat) (o : Oper) cs b, ops[j]? = some o → o.op ≠ .select cs b)
    (hdst : ∀ (j : Nat) (o : Oper), j < n → ops[j]? = some o → ∃ d, o.dst = Option.some d)
    (hs : Region.sinkB md ops n = true) (hc : Region.chainB md ops n = true) (hn : n < ops.size) (hin : i < n)
    (hdone : ∀ listed a F, L listed a F → ∀ j ∈ Region.ready md ops listed, n ≤ j) :
    ∀ (fuel : Nat) (listed : Array Bool) (a : Act) (F : Facts) (R : Value → World → Prop), HeadInv md ops n listed →
      (∀ j oj, ops[j]? = some oj → j ≠ i → listed.getD j true = false → (∀ e ∈ oj.after, Region.binds md e = true → e.on ≠ i) → oi.apart ops oj = true) →
      i ∈ Region.ready md ops listed → KY P ops S w0 oi a F R → (∀ t, UpW (F t)) → (∃ w, Ext w0 w ∧ ∀ t, F t w) →
      (∀ v, (∃ w, Ext w0 w ∧ (∀ t, F t w) ∧ R v w) → anyKL P md ops S w0 n L fuel (listed.setIfInBounds i true) (a.put oi.dst v) (F.add oi.dst (R v))) →
      anyKL P md ops S w0 n L (fuel + 1) listed a F := by
  intro fuel
  induction fuel with
  | zero =>
    intro listed a F R inv _ hr hy hup ⟨w, hw, hf⟩ H
    have hun := (mem_ready.1 hr).1
    refine ⟨fun h => (by rw [h] at hr; cases hr), fun j hj => ?_⟩
    have hjn : j < n := by
      rcases Nat.lt_or_ge j n with h | h
      · exact h
      · exact absurd hj (tail_waits hs hc hn inv _ i rfl hin hun j h)
    refine ⟨hjn, ?_⟩
    by_cases hji : j = i
    · subst hji; unfold kOp; simp only [hi]; exact ⟨R, hy, H⟩
    · obtain ⟨v, w', h1, h2, h3⟩ := hy.some hup hw hf
      have := hdone _ _ _ (H v ⟨w', h1, h2, h3⟩) j (ready_mono hj hji)
      omega
  | succ fuel ih =>
    intro listed a F R inv hfree hr hy hup ⟨w, hw, hf⟩ H
    have hun := (mem_ready.1 hr).1
    refine ⟨fun h => (by rw [h] at hr; cases hr), fun j hj => ?_⟩
    have hjn : j < n := by
      rcases Nat.lt_or_ge j n with h | h
      · exact h
      · exact absurd hj (tail_waits hs hc hn inv _ i rfl hin hun j h)
    refine ⟨hjn, ?_⟩
    by_cases hji : j = i
    · subst hji; unfold kOp; simp only [hi]; exact ⟨R, hy, H⟩
    · obtain ⟨hjun, oj, hoj, hall⟩ := mem_ready.1 hj
      have hnot : ∀ e ∈ oj.after, Region.binds md e = true → e.on ≠ i := fun e he hb heq => by
        have h1 := hall e he hb
        rw [heq, getD_both hun] at h1
        cases h1
      have hap := hfree j oj hoj hji hjun hnot
      obtain ⟨p1, p2, p3⟩ := Oper.apart_spec hap
      have hsi : ∀ cs b, oi.op ≠ .select cs b := fun cs b => hsel i oi cs b hi
      have hsj : ∀ cs b, oj.op ≠ .select cs b := fun cs b => hsel j oj cs b hoj
      have H1 : ∀ v : { v // ∃ w, Ext w0 w ∧ (∀ t, F t w) ∧ R v w }, kStep P ops S w0 oj (a.put oi.dst v.1) (F.add oi.dst (R v.1)) (anyKL P md ops S w0 n L fuel ((listed.setIfInBounds i true).setIfInBounds j true)) := fun v => by
        have h1 := ((H v.1 v.2).2 j (ready_mono hj hji)).2
        unfold kOp at h1
        simpa only [hoj] using h1
      obtain ⟨v0, w', e1, e2, e3⟩ := hy.some hup hw hf
      let i0 : { v // ∃ w, Ext w0 w ∧ (∀ t, F t w) ∧ R v w } := ⟨v0, w', e1, e2, e3⟩
      let Rj : { v // ∃ w, Ext w0 w ∧ (∀ t, F t w) ∧ R v w } → Value → World → Prop := fun v => Classical.choose (H1 v)
      have HRj : ∀ v, KY P ops S w0 oj (a.put oi.dst v.1) (F.add oi.dst (R v.1)) (Rj v) ∧ ∀ u, (∃ w, Ext w0 w ∧ (∀ t, (F.add oi.dst (R v.1)) t w) ∧ Rj v u w) →
          anyKL P md ops S w0 n L fuel ((listed.setIfInBounds i true).setIfInBounds j true) ((a.put oi.dst v.1).put oj.dst u) ((F.add oi.dst (R v.1)).add oj.dst (Rj v u)) := fun v => Classical.choose_spec (H1 v)
      have hyj : ∀ v, KY P ops S w0 oj a F (Rj v) := fun v => (HRj v).1.of_same (fun w t ht hft => ⟨hft, fun e => absurd ht (p1 t e)⟩) (execOp_put oj hsj a oi.dst v.1 p1).symm (wanted_put oj a oi.dst v.1 p1).symm
      unfold kOp
      simp only [hoj]
      refine ⟨fun u w => ∀ v, Rj v u w, ⟨fun u w1 w2 h12 hh v => (hyj v).1 u w1 w2 h12 (hh v), ?_⟩, fun u hu => ?_⟩
      · by_cases hwant : Region.wanted oj (yielded ops a.tmps) = true
        · refine .inl ⟨hwant, fun w1 hx hf1 => kUpon_all i0 fun v => ?_⟩
          rcases (hyj v).2 with ⟨_, h2⟩ | ⟨h2, _⟩
          · exact h2 w1 hx hf1
          · rw [hwant] at h2; cases h2
        · have hwf : Region.wanted oj (yielded ops a.tmps) = false := by simpa using hwant
          refine .inr ⟨hwf, ?_⟩
          funext u w1
          have : ∀ v, Rj v = fun v _ => v = undef := fun v => by
            rcases (hyj v).2 with ⟨h2, _⟩ | ⟨_, h2⟩
            · rw [hwf] at h2; cases h2
            · exact h2
          simp only [this, eq_iff_iff]
          exact ⟨fun h => h i0, fun h _ => h⟩
      · obtain ⟨w1, f1, f2, f3⟩ := hu
        have hfree' : ∀ k ok, ops[k]? = some ok → k ≠ i → (listed.setIfInBounds j true).getD k true = false →
            (∀ e ∈ ok.after, Region.binds md e = true → e.on ≠ i) → oi.apart ops ok = true := fun k ok hk hki hun hno => by
          refine hfree k ok hk hki ?_ hno
          by_cases hjk : j = k
          · subst hjk; exact hjun
          · rw [getD_set_ne true hjk] at hun; exact hun
        refine ih (listed.setIfInBounds j true) (a.put oj.dst u) (F.add oj.dst fun w => ∀ v, Rj v u w) R (inv.set hj hjn) hfree' (ready_mono hr (Ne.symm hji)) ?_ ?_ ⟨w1, f1, fun t => ⟨f2 t, fun _ => f3⟩⟩ ?_
        · exact hy.of_same (fun w t ht hft => hft.1) (execOp_put oi hsi a oj.dst u p3) (wanted_put oi a oj.dst u p3)
        · exact fun t w2 w3 h23 hh => ⟨hup t w2 w3 h23 hh.1, fun e v => (hyj v).1 u w2 w3 h23 (hh.2 e v)⟩
        · intro v ⟨w2, g1, g2, g3⟩
          have hv : ∃ w, Ext w0 w ∧ (∀ t, F t w) ∧ R v w := ⟨w2, g1, fun t => (g2 t).1, g3⟩
          obtain ⟨d, hd⟩ := hdst j oj hjn hoj
          have h3 := (HRj ⟨v, hv⟩).2 u ⟨w2, g1, fun t => ⟨(g2 t).1, fun _ => g3⟩, (g2 d).2 hd ⟨v, hv⟩⟩
          rw [Array.setIfInBounds_comm _ _ (Ne.symm hji), Act.put_comm a v u p2] at h3
          refine anyKL_anti hL _ _ _ _ _ ?_ h3
          intro t w3 hh
          exact ⟨⟨hh.1.1, hh.2⟩, fun e => hh.1.2 e ⟨v, hv⟩⟩

theorem anyKL_lex {n g : Nat} {Q : Act → Facts → Prop} (hQ : ∀ a F F', (∀ t w, F' t w → F t w) → Q a F → Q a F') (hsel : Region.noSelect ops = true)
    (hdst : ∀ (j : Nat) (o : Oper), j < n → ops[j]? = some o → ∃ d, o.dst = Option.some d) (hs : Region.sinkB md ops n = true) (hc : Region.chainB md ops n = true) (hn : n < ops.size) :
    ∀ (l : List Oper) (k : Nat) (listed : Array Bool) (a : Act) (F : Facts), (∀ j, j < l.length → l[j]? = ops[k + j]?) → k + l.length = n → HeadInv md ops n listed →
      Region.lexHead md ops g l.length k listed = true → (∀ t, UpW (F t)) → (∃ w, Ext w0 w ∧ ∀ t, F t w) →
      lexK P ops S w0 Q l a F → anyKL P md ops S w0 n (fun listed' a' F' => Region.seqB md ops g n listed' = true ∧ Q a' F') l.length listed a F
  | [], k, _, _, _, _, hk, _, hB, _, _, h => by
    have : k = n := by simpa using hk
    subst this
    exact ⟨by simpa [Region.lexHead] using hB, h⟩
  | o :: l, k, listed, a, F, hl, hk, inv, hB, hup, hcon, h => by
    have h0 : ops[k]? = Option.some o := by simpa using (hl 0 (by simp)).symm
    simp only [List.length_cons, Region.lexHead, Bool.and_eq_true] at hB
    obtain ⟨⟨hr, hf⟩, hB'⟩ := hB
    have hkn : k < n := by simp only [List.length_cons] at hk; omega
    have hr' : k ∈ Region.ready md ops listed := by simpa using hr
    obtain ⟨R, hy, hnx⟩ := h
    refine anyKL_first (fun listed a F F' hx hh => ⟨hh.1, hQ _ _ _ hx hh.2⟩) h0 (Region.noSelect_spec hsel) hdst hs hc hn hkn (fun listed' a' F' hL => seqB_ready hL.1) l.length listed a F R inv (Region.free_spec h0 hf) hr' hy hup hcon fun v ⟨w, g1, g2, g3⟩ => ?_
    refine anyKL_lex hQ hsel hdst hs hc hn l (k + 1) _ _ _ (fun j hj => by have := hl (j + 1) (by simp; omega); simpa [Nat.add_assoc, Nat.add_comm 1 j] using this) (by simp only [List.length_cons] at hk; omega) (inv.set hr' hkn) hB' ?_ ⟨w, g1, fun t => ⟨g2 t, fun _ => g3⟩⟩ (hnx v ⟨w, g1, g2, g3⟩)
    exact fun t w2 w3 h23 hh => ⟨hup t w2 w3 h23 hh.1, fun e => hy.1 v w2 w3 h23 (hh.2 e)⟩

/-- ONE WALK IN THE ORDER OF THE TEXT: the first n operations by their facts, then the others, in every later world in which the facts hold. -/
theorem wp_region_kt (S : FuncId → Array Value → Value → World → Prop) (n : Nat) {id : Nat} {Q' : Exit → Act → World → Prop} {a : Act} {w : World} {l : List Oper} (hm : P.follows .mixedOrders = true)
    (hB : Region.lexTailB .any l.toArray n = true) (hd : (l.take n).all (fun o => o.dst.isSome) = true)
    (h : lexK P l.toArray S w (endK (fun _ a' w' => wpList P l.toArray Q' (l.drop n) a' w') w) (l.take n) a (fun _ _ => True)) : (Code.region id l.toArray true).wp P Q' a w := by
  simp only [Region.lexTailB, Bool.and_eq_true, decide_eq_true_eq] at hB
  obtain ⟨⟨⟨⟨hsel, hn⟩, hs⟩, hc⟩, hlex⟩ := hB
  have hn' : n < l.length := by simpa using hn
  have htl : (l.take n).length = n := by simp; omega
  have hdl : (l.drop n).length = l.toArray.size - n := by simp
  have inv0 : HeadInv .any l.toArray n (Array.replicate l.toArray.size false) :=
    ⟨by simp, fun j oj _ hl => (by rw [getD_replicate_false] at hl; cases hl), fun t _ ht => getD_in (by simpa using ht) (getD_replicate_false _ _)⟩
  have hdst : ∀ (j : Nat) (o : Oper), j < n → l.toArray[j]? = Option.some o → ∃ d, o.dst = Option.some d := fun j o hj ho => by
    have hm : o ∈ l.take n := by
      rw [List.mem_take_iff_getElem]
      have ho' : l[j]? = Option.some o := by simpa using ho
      obtain ⟨h1, h2⟩ := List.getElem?_eq_some_iff.1 ho'
      exact ⟨j, by omega, h2⟩
    exact Option.isSome_iff_exists.1 (List.all_eq_true.1 hd o hm)
  have H := anyKL_lex (P := P) (S := S) (w0 := w) (md := .any) (g := l.toArray.size - n) (Q := endK (fun _ a' w' => wpList P l.toArray Q' (l.drop n) a' w') w) endK_anti hsel hdst hs hc hn (l.take n) 0 (Array.replicate l.toArray.size false) a (fun _ _ => True) (fun j hj => by
    have hj' : j < n := by rw [htl] at hj; exact hj
    simp [hj']) (by simpa using htl) inv0 (by rw [htl]; exact hlex) (fun _ _ _ _ _ => trivial) ⟨w, Ext.refl _, fun _ => trivial⟩ h
  refine wp_region_any hm ?_
  have := wpAny_of_anyKL (Q' := Q') (g := l.toArray.size - n) (w0 := w) (fun listed a' F w' he hf hL => by
    have := wpAny_of_seq (md := .any) (Q' := Q') (l.drop n) n listed a' w' (fun j => by simp [List.getElem?_drop]) (by rw [hdl]; exact hL.1) (hL.2 w' he hf)
    rwa [hdl] at this) _ _ _ _ { w with drawn := w.drawn + 1 } (Ext.drawn w) (fun _ _ _ _ _ => trivial) (fun _ => trivial) H
  rw [htl, show n + (l.toArray.size - n) = l.toArray.size by omega] at this
  exact this
end
end Go.Proofs.YtlmbdafilboblaaGreat

/- Contract of omega.sorted: by counting. -/
namespace Go.Proofs.YtlmbdafilboblaaGreat
set_option linter.unusedVariables false
set_option linter.unusedSimpArgs false
open Go.RowKit

theorem cntN_le (ks : List Nat) (i k : Nat) : cntN ks i k ≤ i := by
  unfold cntN pick
  have := List.length_filter_le (fun p => (fun p => ks.getD p 0) p == k) (List.range i)
  rw [List.length_range] at this
  exact this

set_option maxHeartbeats 2000000 in
theorem sorted_any (v u : Value) (ps ks : List Nat) (n : Nat) (w : World) (hv : Sl .i64 w v (natL ps)) (hu : Sl .i64 w u (natL ks)) (hp : ps.Perm (List.range n)) (hk : ks.length = n) (hK : ∀ p, p < n → ks.getD p 0 < max 256 n) (hlen : n ≤ 100000) :
    Calls Tryz.prog 46 #[v, u] w fun e w' => ∃ s, e = .returned s ∧ Own .i64 3 w.heap.size w' s (natL (csort (max 256 n) ps fun p => ks.getD p 0)) ∧ Ext w w' := by
  have HV := hide' hv
  have HU := hide' hu
  have hl : ps.length = n := by rw [hp.length_eq, List.length_range]
  obtain ⟨a, c, rfl, _⟩ := hv
  obtain ⟨a', c', rfl, _⟩ := hu
  rw [natL_len] at HV HU ⊢
  rw [natL_len]
  obtain ⟨_, hc1, hc2, hcv⟩ := HV.out.nat
  obtain ⟨_, hc3, hc4, hcu⟩ := HU.out.nat
  unfold maxLen at hc2 hc4
  rw [hl] at hcv hc1 ⊢
  rw [hk] at hcu hc3 ⊢
  have CV := hide' hcv
  have CU := hide' hcu
  have HP := hide' hp
  have HKK := hide' hk
  have HLL := hide' hl
  have HIN : Hid (∀ i, i < n → ps.getD i 0 < n) := fun i hi => List.mem_range.1 (HP.out.mem_iff.1 (getN_mem (by rw [HLL.out]; exact hi)))
  have HKB := hide' hK
  have HKM : Hid (∀ p ∈ ps, ks.getD p 0 < max 256 n) := fun p hp => HKB.out p (List.mem_range.1 (HP.out.mem_iff.1 hp))
  have hmax : max (256 : Int) (n : Int) = ((max 256 n : Nat) : Int) := by omega
  have hKn : max 256 n ≤ 100256 := by omega
  have hK0 : 256 ≤ max 256 n := by omega
  generalize max 256 n = K at *
  clear hcv hcu hp hk hl hK HV HU
  obtain ⟨w1, hmk, ho, he⟩ := make_nats w (K + 1) (by omega)
  have HO := hide' ho
  have HE := hide' he
  clear ho he
  have hmk' : (Instr.makeSlice 32 (.int .i64 ((K : Int) + 1)) (.int .i64 ((K : Int) + 1))).run Tryz.prog w = .ok (.slice (some ⟨w.heap.size, 0, none⟩) (K + 1) (K + 1)) w1 := hmk
  clear hmk
  go_enter Tryz.func46, Tryz.ntmps46
  go_wp2
  clear hmk'
  go_loopw [20] (fun vi wr => ∃ (i : Nat) (bs : List Nat), i ≤ n ∧ vi = .int .i64 i ∧ Hid (bs.length = K + 1) ∧ Hid (bs.getD 0 0 = 0) ∧ Hid (∀ k, k < K → bs.getD (k + 1) 0 = cntN ks i k) ∧
    Hid (Own .i64 3 w.heap.size wr (.slice (some ⟨w.heap.size, 0, none⟩) (K + 1) (K + 1)) (natL bs)) ∧ Hid (Ext w wr)) (fun vi _ => n - (intOf vi).toNat)
  case atStart =>
    refine ⟨0, List.replicate (K + 1) 0, Nat.zero_le _, rfl, List.length_replicate, ?_, fun k hk => ?_, HO, HE⟩
    · show _ = _
      simp [List.getD]
    · rw [cntN_zero]; simp [List.getD, hk]
  case round =>
    obtain ⟨i, bs, hi, rfl, HL, HB0, HB, HO, HE⟩ := hrel
    by_cases hlt : i < n
    · have hlt' : (i : Int) < n := by omega
      obtain ⟨g2, o2, rfl, k2⟩ := CU.out (by omega)
      have c2 := HE.out.cellOf (k2 i hlt)
      clear k2
      have hkk := HKB.out i hlt
      obtain ⟨q, HQ⟩ : ∃ q, Hid (ks.getD i 0 = q) := ⟨_, rfl⟩
      rw [HQ.out] at c2 hkk
      have hq : (q : Int) + 1 < (K : Int) + 1 := by omega
      have hq2 : q + 1 < K + 1 := by omega
      have hfz := HO.out.frozen (by rw [natL_len]; exact HL.out) (q + 1)
      have hci := HO.out.intCell HL.out (q + 1) (by omega)
      rw [HB.out q hkk] at hci
      have hcn := cntN_le ks i q
      obtain ⟨t, HT⟩ : ∃ t, Hid (cntN ks i q = t) := ⟨_, rfl⟩
      rw [HT.out] at hci hcn
      have HO2 := hide' (HO.out.storeN HL.out (q + 1) (t + 1))
      go_wp2
      go_roundw
      case rel =>
        refine ⟨i + 1, bs.set (q + 1) (t + 1), by omega, by go_num, (show _ = _ by rw [List.length_set]; exact HL.out), (show _ = _ by rw [set_other (by omega)]; exact HB0.out), fun k hk => ?_, HO2, Ext.but HE.out (Nat.le_refl _) (but_set _ _ _ _)⟩
        by_cases hkq : k = q
        · subst hkq; rw [set_same (by rw [HL.out]; omega), cntN_same HQ.out, HT.out]
        · rw [set_other (by omega), HB.out k hk, cntN_other (by rw [HQ.out]; omega)]
      case measure => simp [intOf]; omega
    · have hlt' : decide ((i : Int) < n) = false := by simp; omega
      have hin : i = n := by omega
      subst hin
      have HB1 : Hid (∀ k, k < K → bs.getD (k + 1) 0 = (pick ps (fun p => ks.getD p 0) k).length) := fun k hk => by rw [HB.out k hk, cntN_all HP.out]
      have OM : Hid (∀ k, k ≤ K → offs ps (fun p => ks.getD p 0) k ≤ i) := fun k hk => by
        have := offs_mono ps (fun p => ks.getD p 0) hk
        rw [csort_len HKM.out, HLL.out] at this
        exact this
      clear HB
      go_wp2
      go_loopw [8] (fun vk wr => ∃ (k : Nat) (bs : List Nat), k < K + 1 ∧ vk = .int .i64 ((k : Int) + 1) ∧ Hid (bs.length = K + 1) ∧ Hid (∀ j, j ≤ k → bs.getD j 0 = offs ps (fun p => ks.getD p 0) j) ∧ Hid (∀ j, k ≤ j → j < K → bs.getD (j + 1) 0 = (pick ps (fun p => ks.getD p 0) j).length) ∧
        Hid (Own .i64 3 w.heap.size wr (.slice (some ⟨w.heap.size, 0, none⟩) (K + 1) (K + 1)) (natL bs)) ∧ Hid (Ext w wr)) (fun vk _ => K + 1 - (intOf vk).toNat)
      case atStart =>
        refine ⟨0, bs, by omega, rfl, HL, (fun j hj => ?_), (fun j _ hj => HB1.out j hj), HO, HE⟩
        have : j = 0 := by omega
        subst this
        rw [HB0.out]; rfl
      case round =>
        clear HB1 HB0 HO HE HL hi hlt hlt'
        obtain ⟨k, bs, hk, rfl, HL, HB1, HB2, HO, HE⟩ := hrel
        by_cases hkK : k < K
        · have d1 : (k : Int) + 1 < (K : Int) + 1 := by omega
          have d2 : k + 1 < K + 1 := by omega
          have c1 := HO.out.intCell HL.out (k + 1) (by omega)
          have c2 := HO.out.intCell HL.out k (by omega)
          have hfz := HO.out.frozen (by rw [natL_len]; exact HL.out) (k + 1)
          rw [HB2.out k (Nat.le_refl _) hkK] at c1
          rw [HB1.out k (Nat.le_refl _)] at c2
          have hsum := OM.out (k + 1) (by omega)
          rw [offs_succ] at hsum
          obtain ⟨p, HPP⟩ : ∃ p, Hid ((pick ps (fun p => ks.getD p 0) k).length = p) := ⟨_, rfl⟩
          obtain ⟨q, HQ⟩ : ∃ q, Hid (offs ps (fun p => ks.getD p 0) k = q) := ⟨_, rfl⟩
          rw [HPP.out] at c1 hsum
          rw [HQ.out] at c2 hsum
          have HO2 := hide' (HO.out.storeN HL.out (k + 1) (p + q))
          have e1 : (k : Int) + 1 - 1 = (k : Int) := by omega
          have e2 : (k : Int) < (K : Int) + 1 := by omega
          have e3 : k < K + 1 := by omega
          go_wp2_with fail
          refine wp_region_kt (fun _ _ _ _ => True) 11 (by kernel_rfl) (by kernel_rfl) (by kernel_rfl) ?_
          have hne := later_some wr
          have l1 := later_cell c1
          have l2 := later_cell c2
          simp only [List.take_succ_cons, List.take_zero, List.drop_succ_cons, List.drop_zero]
          refine lexK_take 11 (by kernel_rfl) ?_
          simp only [List.take_succ_cons, List.take_zero, List.drop_succ_cons, List.drop_zero]
          repeat (go_big_quiet_step (fail))
          refine wpQuiet_nil ?_
          refine lexK_nil ?_
          intro w3 he3 _
          have HO3 := hide' (HO.out.ext he3)
          have HE3 := hide' (HE.out.trans he3)
          have hfz3 := HO3.out.frozen (by rw [natL_len]; exact HL.out) (k + 1)
          have hc3 := HO3.out.intCell HL.out (k + 1) (by omega)
          have HO4 := hide' (HO3.out.storeN HL.out (k + 1) (p + q))
          clear l1 l2 hne c1 c2 hfz HO2 he3
          go_wp2
          go_roundw
          case rel =>
            refine ⟨k + 1, bs.set (k + 1) (p + q), by omega, by go_num, (show _ = _ by rw [List.length_set]; exact HL.out), fun j hj => ?_, fun j hj1 hj2 => ?_, HO4, Ext.but HE3.out (Nat.le_refl _) (but_set _ _ _ _)⟩
            · by_cases hjk : j = k + 1
              · subst hjk; rw [set_same (by rw [HL.out]; omega), offs_succ, HPP.out, HQ.out, Nat.add_comm]
              · rw [set_other (by omega), HB1.out j (by omega)]
            · rw [set_other (by omega), HB2.out j (by omega) hj2]
          case measure => simp [intOf]; omega
        · have d1 : decide ((k : Int) + 1 < (K : Int) + 1) = false := by simp; omega
          have hkk : k = K := by omega
          subst hkk
          clear HB2
          obtain ⟨w2, hmk, ho, he⟩ := make_nats wr i (by omega)
          have HO' := hide' ho
          have HO1 := hide' (HO.out.ext he)
          have HE' := hide' (HE.out.trans he)
          have hgg : w.heap.size < wr.heap.size := (World.ownsRow.lt HO.out _ rfl).2
          have HF : Hid (Fill ps (fun p => ks.getD p 0) k 0 bs (List.replicate i 0)) := Fill.start fun j hj => HB1.out j (by omega)
          clear ho he HB1 HO HE
          go_wp2
          clear hmk
          generalize hg2 : wr.heap.size = G at *
          generalize hg1 : w.heap.size = g at *
          have hG : g ≠ G := by omega
          go_loopw [54] (fun vi wq => ∃ (t : Nat) (fr row : List Nat), t ≤ i ∧ vi = .int .i64 t ∧ Hid (fr.length = k + 1) ∧ Hid (row.length = i) ∧ Hid (Fill ps (fun p => ks.getD p 0) k t fr row) ∧
            Hid (Own .i64 3 g wq (.slice (some ⟨g, 0, none⟩) (k + 1) (k + 1)) (natL fr)) ∧ Hid (Own .i64 3 G wq (.slice (some ⟨G, 0, none⟩) i i) (natL row)) ∧ Hid (Ext w wq)) (fun vi _ => i - (intOf vi).toNat)
          case atStart => exact ⟨0, bs, List.replicate i 0, Nat.zero_le _, rfl, HL, List.length_replicate, HF, HO1, HO', HE'⟩
          case round =>
            clear HF HO1 HO' HE' HL
            obtain ⟨t, fr, row, ht, rfl, HL1, HL2, HF, HO1, HO2, HE⟩ := hrel
            by_cases hlt : t < i
            · have hlt' : (t : Int) < i := by omega
              obtain ⟨g1, o1, rfl, k1⟩ := CV.out (by omega)
              obtain ⟨g2, o2, rfl, k2⟩ := CU.out (by omega)
              have hp := HIN.out t hlt
              have c1 := HE.out.cellOf (k1 t hlt)
              have c2 := HE.out.cellOf (k2 _ hp)
              clear k1 k2
              have hkp := HKB.out _ hp
              have hfa := HF.out.at HKM.out (by rw [HLL.out]; exact hlt)
              have HF2 := hide' (HF.out.next HKM.out (by rw [HLL.out]; exact hlt) (by rw [HL2.out, HLL.out]) (by rw [HL1.out]; omega))
              rw [HLL.out] at hfa
              obtain ⟨p, HPP⟩ : ∃ p, Hid (ps.getD t 0 = p) := ⟨_, rfl⟩
              rw [HPP.out] at c1 c2 hp hkp hfa HF2
              obtain ⟨q, HQ⟩ : ∃ q, Hid (ks.getD p 0 = q) := ⟨_, rfl⟩
              rw [HQ.out] at c2 hkp hfa HF2
              have c3 := HO1.out.intCell HL1.out q (by omega)
              obtain ⟨f, HFF⟩ : ∃ f, Hid (fr.getD q 0 = f) := ⟨_, rfl⟩
              rw [HFF.out] at c3 hfa HF2
              have z2 := HO2.out.frozen (by rw [natL_len]; exact HL2.out) f
              have c4 := HO2.out.intCell HL2.out f hfa
              have P2 := hide' (HO2.out.storeN HL2.out f p)
              have P1 := hide' (HO1.out.keep hG (but_set wr G f (.int .i64 (p : Int))))
              have z1 := P1.out.frozen (by rw [natL_len]; exact HL1.out) q
              have c5 := P1.out.intCell HL1.out q (by omega)
              rw [HFF.out] at c5
              have R1 := hide' (P1.out.storeN HL1.out q (f + 1))
              have R2 := hide' (P2.out.keep (Ne.symm hG) (but_set (wr.setCell ⟨G, f, none⟩ (.int .i64 (p : Int))) g q (.int .i64 ((f + 1 : Nat) : Int))))
              have b1 : (p : Int) < i := by omega
              have b2 : (q : Int) < (k : Int) + 1 := by omega
              have b3 : q < k + 1 := by omega
              have b4 : (f : Int) < i := by omega
              have XE : Hid (Ext w ((wr.setCell ⟨G, f, none⟩ (.int .i64 (p : Int))).setCell ⟨g, q, none⟩ (.int .i64 ((f + 1 : Nat) : Int)))) := by
                refine Ext.but (Ext.but HE.out (by omega) (but_set wr G f (.int .i64 (p : Int)))) (by omega) (but_set _ g q _)
              go_wp2
              go_roundw
              case rel => exact ⟨t + 1, _, _, by omega, by go_num, (show _ = _ by rw [List.length_set]; exact HL1.out), (show _ = _ by rw [List.length_set]; exact HL2.out), HF2, R1, R2, XE⟩
              case measure => simp [intOf]; omega
            · have hlt' : decide ((t : Int) < i) = false := by simp; omega
              have hti : t = i := by omega
              subst hti
              have HQ : Hid (row = csort k ps fun p => ks.getD p 0) := by
                have := HF.out
                rw [← HLL.out] at this
                exact this.done HKM.out (by rw [HL2.out, HLL.out])
              go_wp2
              go_ret
              exact ⟨_, rfl, by rw [← HQ.out]; exact HO2.out.low (by omega), HE.out⟩
end Go.Proofs.YtlmbdafilboblaaGreat

/- Contract of omega.ranked. -/
namespace Go.Proofs.YtlmbdafilboblaaGreat
set_option linter.unusedVariables false
set_option linter.unusedSimpArgs false
open Go.RowKit

theorem perm_nodup {ord : List Nat} {M : Nat} (h : ord.Perm (List.range M)) {i j : Nat} (hi : i < M) (hj : j < M) (hne : i ≠ j) : ord.getD i 0 ≠ ord.getD j 0 := by
  have hl : ord.length = M := by rw [h.length_eq, List.length_range]
  have hn : ord.Nodup := h.symm.nodup (List.nodup_range)
  intro e
  have h1 : ord[i]'(by omega) = ord[j]'(by omega) := by
    simpa [List.getD, List.getElem?_eq_getElem (show i < ord.length by omega), List.getElem?_eq_getElem (show j < ord.length by omega)] using e
  exact hne ((List.getElem_inj hn).1 h1)

theorem clsT_same {ord : List Nat} {f s : Nat → Nat} {J : Nat} (h : f (ord.getD (J + 1) 0) = f (ord.getD J 0) ∧ s (ord.getD (J + 1) 0) = s (ord.getD J 0)) : clsT ord f s (J + 2) = clsT ord f s (J + 1) := by
  show cls ord f s (J + 1) + 1 = cls ord f s J + 1
  have hc : cls ord f s (J + 1) = cls ord f s J + (if f (ord.getD (J + 1) 0) = f (ord.getD J 0) ∧ s (ord.getD (J + 1) 0) = s (ord.getD J 0) then 0 else 1) := rfl
  rw [hc, if_pos h]
theorem clsT_other {ord : List Nat} {f s : Nat → Nat} {J : Nat} (h : ¬ (f (ord.getD (J + 1) 0) = f (ord.getD J 0) ∧ s (ord.getD (J + 1) 0) = s (ord.getD J 0))) : clsT ord f s (J + 2) = clsT ord f s (J + 1) + 1 := by
  show cls ord f s (J + 1) + 1 = cls ord f s J + 1 + 1
  have hc : cls ord f s (J + 1) = cls ord f s J + (if f (ord.getD (J + 1) 0) = f (ord.getD J 0) ∧ s (ord.getD (J + 1) 0) = s (ord.getD J 0) then 0 else 1) := rfl
  rw [hc, if_neg h]
theorem clsT_le (ord : List Nat) (f s : Nat → Nat) (i : Nat) : clsT ord f s i ≤ i := by
  cases i with
  | zero => exact Nat.le_refl _
  | succ i => have := cls_le ord f s i; show cls ord f s i + 1 ≤ _; omega

set_option maxHeartbeats 2000000 in
theorem ranked_any (v u x : Value) (ord fs ss : List Nat) (M : Nat) (w : World) (hv : Sl .i64 w v (natL ord)) (hu : Sl .i64 w u (natL fs)) (hx : Sl .i64 w x (natL ss)) (hp : ord.Perm (List.range M)) (hf : fs.length = M) (hs : ss.length = M) (hlen : M ≤ 100000) :
    Calls Tryz.prog 48 #[v, u, x] w fun e w' => ∃ s bs, e = .returned (.tuple #[s, .int .i64 (clsT ord (fun p => fs.getD p 0) (fun p => ss.getD p 0) M : Nat)]) ∧ bs.length = M ∧ (∀ i, i < M → bs.getD (ord.getD i 0) 0 = cls ord (fun p => fs.getD p 0) (fun p => ss.getD p 0) i) ∧
      Own .i64 3 w.heap.size w' s (natL bs) ∧ Ext w w' := by
  have HV := hide' hv
  have HU := hide' hu
  have HX := hide' hx
  have hl : ord.length = M := by rw [hp.length_eq, List.length_range]
  obtain ⟨a, c, rfl, _⟩ := hv
  obtain ⟨a', c', rfl, _⟩ := hu
  obtain ⟨a2, c2, rfl, _⟩ := hx
  rw [natL_len] at HV HU HX ⊢
  rw [natL_len, natL_len]
  obtain ⟨_, hc1, hc2, hcv⟩ := HV.out.nat
  obtain ⟨_, hc3, hc4, hcu⟩ := HU.out.nat
  obtain ⟨_, hc5, hc6, hcx⟩ := HX.out.nat
  unfold maxLen at hc2 hc4 hc6
  rw [hl] at hcv hc1 ⊢
  rw [hf] at hcu hc3 ⊢
  rw [hs] at hcx hc5 ⊢
  have CV := hide' hcv
  have CU := hide' hcu
  have CX := hide' hcx
  have HP := hide' hp
  have HIN : Hid (∀ i, i < M → ord.getD i 0 < M) := fun i hi => List.mem_range.1 (HP.out.mem_iff.1 (getN_mem (by rw [hl]; exact hi)))
  clear hcv hcu hcx hp hf hs hl HV HU HX
  have HFD : Hid (∀ p, (fun p => fs.getD p 0) p = fs.getD p 0) := fun _ => rfl
  obtain ⟨F, HF⟩ : ∃ F : Nat → Nat, Hid (F = fun p => fs.getD p 0) := ⟨_, rfl⟩
  obtain ⟨S, HS⟩ : ∃ S : Nat → Nat, Hid (S = fun p => ss.getD p 0) := ⟨_, rfl⟩
  rw [← HF.out, ← HS.out]
  have HFA : Hid (∀ p, fs.getD p 0 = F p) := fun p => by rw [HF.out]
  have HSA : Hid (∀ p, ss.getD p 0 = S p) := fun p => by rw [HS.out]
  clear HFD
  obtain ⟨w1, hmk, ho, he⟩ := make_nats w M (by omega)
  have HO := hide' ho
  have HE := hide' he
  clear ho he
  go_enter Tryz.func48, Tryz.ntmps48
  go_wp2
  clear hmk
  go_loopw [7, 15] (fun vn vi wr => ∃ (i t : Nat) (bs : List Nat), i ≤ M ∧ t ≤ i ∧ vn = .int .i64 t ∧ vi = .int .i64 i ∧ Hid (clsT ord F S i = t) ∧ Hid (bs.length = M) ∧ Hid (∀ j, j < i → bs.getD (ord.getD j 0) 0 = cls ord F S j) ∧
    Hid (Own .i64 3 w.heap.size wr (.slice (some ⟨w.heap.size, 0, none⟩) M M) (natL bs)) ∧ Hid (Ext w wr)) (fun _ vi _ => M - (intOf vi).toNat)
  case atStart => exact ⟨0, 0, List.replicate M 0, Nat.zero_le _, Nat.le_refl _, rfl, rfl, rfl, List.length_replicate, (fun j hj => by omega), HO, HE⟩
  case round =>
    obtain ⟨i, t, bs, hi, htl, rfl, rfl, HT, HL, HB, HO, HE⟩ := hrel
    by_cases hlt : i < M
    · have hlt' : (i : Int) < M := by omega
      obtain ⟨g1, o1, rfl, k1⟩ := CV.out (by omega)
      obtain ⟨g2, o2, rfl, k2⟩ := CU.out (by omega)
      obtain ⟨g3, o3, rfl, k3⟩ := CX.out (by omega)
      have hp := HIN.out i hlt
      have c1 := HE.out.cellOf (k1 i hlt)
      have cf1 := HE.out.cellOf (k2 _ hp)
      have cs1 := HE.out.cellOf (k3 _ hp)
      rw [HFA.out] at cf1
      rw [HSA.out] at cs1
      have HNE : Hid (∀ j, j < i → ord.getD i 0 ≠ ord.getD j 0) := fun j hj => perm_nodup HP.out hlt (by omega) (by omega)
      -- what a round leaves, whatever the count
      have fin : ∀ q : Nat, clsT ord F S (i + 1) = q + 1 → Hid (∀ j, j < i + 1 → (bs.set (ord.getD i 0) q).getD (ord.getD j 0) 0 = cls ord F S j) := fun q hq j hj => by
        by_cases hji : j = i
        · subst hji
          rw [set_same (by rw [HL.out]; exact hp)]
          have : cls ord F S j + 1 = q + 1 := hq
          omega
        · rw [set_other (HNE.out j (by omega)), HB.out j (by omega)]
      have FIN := hide' fin
      clear fin
      by_cases h0 : i = 0
      · have hq : clsT ord F S (i + 1) = t + 1 := by rw [← HT.out, h0]; rfl
        have HB2 := FIN.out t hq
        have HT2 := hide' hq
        obtain ⟨p, HPP⟩ : ∃ p, Hid (ord.getD i 0 = p) := ⟨_, rfl⟩
        rw [HPP.out] at c1 hp HB2
        have hp' : (p : Int) < M := by omega
        have hfz := HO.out.frozen (by rw [natL_len]; exact HL.out) p
        have hci := HO.out.intCell HL.out p hp
        have d0 : ((i : Int) == 0) = true := by simp; exact h0
        have e1 : (t : Int) + 1 - 1 = (t : Int) := by omega
        clear k1 k2 k3 hq cf1 cs1 h0
        go_wp2_with fail
        go_quiet (fail)
        clear c1
        go_wp2
        go_roundw
        case rel => exact ⟨i + 1, t + 1, _, by omega, by omega, by go_num, by go_num, HT2, (show _ = _ by rw [List.length_set]; exact HL.out), HB2, (HO.out.ext (Ext.drewN wr _)).storeN HL.out p t, Ext.but (HE.out.trans (Ext.drewN wr _)) (Nat.le_refl _) (but_set _ _ _ _)⟩
        case measure => simp [intOf]; omega
      · obtain ⟨J, HJ⟩ : ∃ J, Hid (i = J + 1) := ⟨i - 1, by show _ = _; omega⟩
        have hJM : J < M := by have := HJ.out; omega
        have hJM' : (J : Int) < M := by omega
        have hJi : (i : Int) - 1 = (J : Int) := by have := HJ.out; omega
        have wJ : IntKind.i64.wrap (J : Int) = (J : Int) := by rw [IntKind.wrap_i64]; omega
        have hr := HIN.out J hJM
        have c2 := HE.out.cellOf (k1 J hJM)
        have cf2 := HE.out.cellOf (k2 _ hr)
        have cs2 := HE.out.cellOf (k3 _ hr)
        rw [HFA.out] at cf2
        rw [HSA.out] at cs2
        have TS : Hid (F (ord.getD i 0) = F (ord.getD J 0) ∧ S (ord.getD i 0) = S (ord.getD J 0) → clsT ord F S (i + 1) = t) := fun h => by
          rw [← HT.out, HJ.out]
          rw [HJ.out] at h
          exact clsT_same h
        have TO : Hid (¬ (F (ord.getD i 0) = F (ord.getD J 0) ∧ S (ord.getD i 0) = S (ord.getD J 0)) → clsT ord F S (i + 1) = t + 1) := fun h => by
          rw [← HT.out, HJ.out]
          rw [HJ.out] at h
          exact clsT_other h
        have hT1 : 1 ≤ t := by
          have h1 := HT.out
          rw [HJ.out] at h1
          have h2 : clsT ord F S (J + 1) = cls ord F S J + 1 := rfl
          omega
        obtain ⟨p, HPP⟩ : ∃ p, Hid (ord.getD i 0 = p) := ⟨_, rfl⟩
        obtain ⟨r, HRR⟩ : ∃ r, Hid (ord.getD J 0 = r) := ⟨_, rfl⟩
        rw [HPP.out] at c1 cf1 cs1 hp FIN TS TO
        rw [HRR.out] at c2 cf2 cs2 hr TS TO
        have hp' : (p : Int) < M := by omega
        have hr' : (r : Int) < M := by omega
        obtain ⟨fp, HFP⟩ : ∃ z, Hid (F p = z) := ⟨_, rfl⟩
        obtain ⟨fr, HFR⟩ : ∃ z, Hid (F r = z) := ⟨_, rfl⟩
        obtain ⟨sp, HSP⟩ : ∃ z, Hid (S p = z) := ⟨_, rfl⟩
        obtain ⟨sr, HSR⟩ : ∃ z, Hid (S r = z) := ⟨_, rfl⟩
        rw [HFP.out] at cf1 TS TO
        rw [HFR.out] at cf2 TS TO
        rw [HSP.out] at cs1 TS TO
        rw [HSR.out] at cs2 TS TO
        have hfz := HO.out.frozen (by rw [natL_len]; exact HL.out) p
        have hci := HO.out.intCell HL.out p hp
        have d0 : ((i : Int) == 0) = false := by simp; exact h0
        have e1 : (t : Int) + 1 - 1 = (t : Int) := by omega
        clear k1 k2 k3 h0
        by_cases hff : fp = fr
        · by_cases hss : sp = sr
          · have HT2 := hide' (TS.out ⟨hff, hss⟩)
            obtain ⟨q, hq⟩ : ∃ q, t = q + 1 := ⟨t - 1, by omega⟩
            have HB2 := FIN.out q (by rw [HT2.out]; exact hq)
            have e2 : (t : Int) - 1 = (q : Int) := by omega
            subst hff hss
            clear hq TS TO FIN e1
            go_wp2_with fail
            go_quiet (fail)
            clear c1 c2 cf1 cf2 cs1 cs2
            go_wp2
            go_roundw
            case rel => exact ⟨i + 1, t, _, by omega, by omega, rfl, by go_num, HT2, (show _ = _ by rw [List.length_set]; exact HL.out), HB2, (HO.out.ext (Ext.drewN wr _)).storeN HL.out p q, Ext.but (HE.out.trans (Ext.drewN wr _)) (Nat.le_refl _) (but_set _ _ _ _)⟩
            case measure => simp [intOf]; omega
          · have HT2 := hide' (TO.out (fun h => hss h.2))
            have HB2 := FIN.out t HT2.out
            have d2 : ((sp : Int) == (sr : Int)) = false := by simp; omega
            have d3 : ((sp : Int) != (sr : Int)) = true := by simp; omega
            subst hff
            clear hss TS TO FIN
            go_wp2_with fail
            go_quiet (fail)
            clear c1 c2 cf1 cf2 cs1 cs2
            go_wp2
            go_roundw
            case rel => exact ⟨i + 1, t + 1, _, by omega, by omega, by go_num, by go_num, HT2, (show _ = _ by rw [List.length_set]; exact HL.out), HB2, (HO.out.ext (Ext.drewN wr _)).storeN HL.out p t, Ext.but (HE.out.trans (Ext.drewN wr _)) (Nat.le_refl _) (but_set _ _ _ _)⟩
            case measure => simp [intOf]; omega
        · have HT2 := hide' (TO.out (fun h => hff h.1))
          have HB2 := FIN.out t HT2.out
          have d2 : ((fp : Int) == (fr : Int)) = false := by simp; omega
          have d3 : ((fp : Int) != (fr : Int)) = true := by simp; omega
          clear hff TS TO FIN
          go_wp2_with fail
          go_quiet (fail)
          clear c1 c2 cf1 cf2 cs1 cs2
          go_wp2
          go_roundw
          case rel => exact ⟨i + 1, t + 1, _, by omega, by omega, by go_num, by go_num, HT2, (show _ = _ by rw [List.length_set]; exact HL.out), HB2, (HO.out.ext (Ext.drewN wr _)).storeN HL.out p t, Ext.but (HE.out.trans (Ext.drewN wr _)) (Nat.le_refl _) (but_set _ _ _ _)⟩
          case measure => simp [intOf]; omega
    · have hlt' : decide ((i : Int) < M) = false := by simp; omega
      have hiM : i = M := by omega
      subst hiM
      go_wp2
      go_ret2
      exact ⟨_, bs, by rw [HT.out]; rfl, HL.out, HB.out, HO.out, HE.out⟩
end Go.Proofs.YtlmbdafilboblaaGreat

/- Contract of omega.inOrder. -/
namespace Go.Proofs.YtlmbdafilboblaaGreat
set_option linter.unusedVariables false
set_option linter.unusedSimpArgs false
open Go.RowKit

set_option maxHeartbeats 2000000 in
theorem inOrder_any (v u : Value) (rs ah : List Nat) (M : Nat) (b : Nat → Int) (nx : Nat → Nat) (w : World) (hv : Sl .i64 w v (natL rs)) (hu : Sl .i64 w u (natL ah)) (hI : InO M b nx 0 rs ah) (hM : M ≤ 100000) :
    Calls Tryz.prog 34 #[v, u] w fun e w' => ∃ s ord, e = .returned s ∧ ord.Perm (List.range M) ∧ ord.Pairwise (RR b nx) ∧ Own .i64 3 w.heap.size w' s (natL ord) ∧ Ext w w' := by
  have HV := hide' hv
  have HU := hide' hu
  have HI := hide' hI
  clear hv hu hI
  go_enter Tryz.func34, Tryz.ntmps34
  go_wp2
  go_loopw [0, 1, 5] (fun vr va vn wr => ∃ (num : Nat) (rs ah : List Nat), num ≤ M ∧ vn = .int .i64 num ∧ Hid (InO M b nx num rs ah) ∧ Hid (Sl .i64 wr vr (natL rs)) ∧ Hid (Sl .i64 wr va (natL ah)) ∧ Hid (Ext w wr)) (fun _ _ vn _ => M - (intOf vn).toNat)
  case atStart => exact ⟨0, rs, ah, Nat.zero_le _, rfl, HI, HV, HU, Ext.refl _⟩
  case round =>
    clear HI HV HU
    obtain ⟨num, rs, ah, hn, rfl, HI, HV, HU, HE⟩ := hrel
    have LR := hide' HI.out.lr
    have LA := hide' HI.out.la
    obtain ⟨a, c, hva, _⟩ := HV.out
    rw [natL_len, LR.out] at hva
    subst hva
    have NL := numL_le M rs ah
    have TH := hide' HI.out.thLen
    go_wp2_with fail
    refine (through_any _ _ ah rs wr HU.out HV.out (fun p hp => by rw [LR.out]; exact HI.out.asIn p hp) (by rw [LA.out]; omega)).mono ?_
    rintro e w1 ⟨s1, rfl, ho, he⟩
    have O1 : Hid (Sl .i64 w1 s1 (natL (thL rs ah))) := ho.sl
    have E1 := hide' he
    clear ho he
    go_wp2_with fail
    refine (counted_any M w1 (by omega)).mono ?_
    rintro e w2 ⟨s2, rfl, ho, he⟩
    have O2 := hide' ho.sl
    have E2 := hide' he
    clear ho he
    go_wp2_with fail
    refine (sorted_any _ _ (List.range M) (thL rs ah) M w2 O2.out (O1.out.ext E2.out) (List.Perm.refl _) TH.out HI.out.thBd hM).mono ?_
    rintro e w3 ⟨s3, rfl, ho, he⟩
    have O3 := hide' ho.sl
    have E3 := hide' he
    clear ho he
    go_wp2_with fail
    refine (sorted_any _ _ _ rs M w3 O3.out (((HV.out.ext E1.out).ext E2.out).ext E3.out) HI.out.perm1 LR.out HI.out.bd hM).mono ?_
    rintro e w4 ⟨s4, rfl, ho, he⟩
    have O4 : Hid (Own .i64 3 w3.heap.size w4 s4 (natL (ordL M rs ah))) := ho
    have E4 := hide' he
    have S4 := hide' O4.out.sl
    clear ho he
    have X4 : Hid (Ext wr w4) := ((E1.out.trans E2.out).trans E3.out).trans E4.out
    have X14 : Hid (Ext w1 w4) := (E2.out.trans E3.out).trans E4.out
    go_wp2_with fail
    refine (ranked_any _ _ _ (ordL M rs ah) rs (thL rs ah) M w4 S4.out (HV.out.ext X4.out) (O1.out.ext X14.out) HI.out.perm LR.out TH.out hM).mono ?_
    rintro e w5 ⟨s5, bs, rfl, hbl, hbs, ho, he⟩
    have O5 := hide' ho.sl
    have E5 := hide' he
    have BL := hide' hbl
    have BS := hide' hbs
    have hsz3 : w.heap.size ≤ w3.heap.size := (((HE.out.trans E1.out).trans E2.out).trans E3.out).size
    have O4' := hide' ((O4.out.ext E5.out).low hsz3)
    have XE : Hid (Ext w w5) := (HE.out.trans X4.out).trans E5.out
    have U5 : Hid (Sl .i64 w5 u1 (natL ah)) := (HU.out.ext X4.out).ext E5.out
    clear ho he hbl hbs
    change _ ≤ M at NL
    have NN : Hid (numL M rs ah = clsT (ordL M rs ah) (fun p => rs.getD p 0) (fun p => (thL rs ah).getD p 0) M) := rfl
    by_cases hq : numL M rs ah = num
    · have PW := hide' (HI.out.stop BS.out hq)
      have PM := hide' HI.out.perm
      have hqq : ((clsT (ordL M rs ah) (fun p => rs.getD p 0) (fun p => (thL rs ah).getD p 0) M : Nat) : Int) = (num : Int) := by rw [← NN.out, hq]
      rw [hqq]
      clear hqq hq
      go_wp2
      go_ret
      exact ⟨_, ordL M rs ah, rfl, PM.out, PW.out, O4'.out, XE.out⟩
    · have NX := hide' (HI.out.next BL.out BS.out hq)
      have hlt : num < numL M rs ah := NX.out.2
      obtain ⟨q, HQ⟩ : ∃ q, Hid (numL M rs ah = q) := ⟨_, rfl⟩
      have hqq : ((clsT (ordL M rs ah) (fun p => rs.getD p 0) (fun p => (thL rs ah).getD p 0) M : Nat) : Int) = (q : Int) := by rw [← NN.out, HQ.out]
      rw [hqq]
      rw [HQ.out] at NL hlt NX
      have d1 : ((q : Int) == (num : Int)) = false := by simp; omega
      clear hqq hq
      go_wp2_with fail
      refine (through_any _ _ ah ah w5 U5.out U5.out (fun p hp => by rw [LA.out]; exact HI.out.asIn p hp) (by rw [LA.out]; omega)).mono ?_
      rintro e w6 ⟨s6, rfl, ho, he⟩
      have O6 : Hid (Sl .i64 w6 s6 (natL (thL ah ah))) := ho.sl
      have O56 := hide' (O5.out.ext he)
      have X6 := hide' (XE.out.trans he)
      clear ho he
      go_wp2
      go_roundw
      case rel => exact ⟨q, bs, thL ah ah, NL, rfl, NX.out.1, O56, O6, X6⟩
      case measure => simp [intOf]; omega
end Go.Proofs.YtlmbdafilboblaaGreat

/- Contract of omega.next. -/
namespace Go.Proofs.YtlmbdafilboblaaGreat
set_option linter.unusedVariables false
set_option linter.unusedSimpArgs false
open Go.RowKit

theorem omNext_any (i n : Nat) (w : World) (hn : n ≤ 1000000) (hi : i < n) :
    Calls Tryz.prog 33 #[.int .i64 (i : Int), .int .i64 (n : Int)] w fun e w' => e = .returned (.int .i64 (((i + 1) % n : Nat) : Int)) ∧ w' = w := by
  by_cases g : i + 1 = n
  · have e1 : (i + 1) % n = 0 := by rw [g]; exact Nat.mod_self _
    have d1 : ((i : Int) + 1 == (n : Int)) = true := by simp; omega
    rw [e1]
    go_enter Tryz.func33, Tryz.ntmps33
    go_wp2
    go_ret
    exact ⟨rfl, rfl⟩
  · have e1 : (i + 1) % n = i + 1 := Nat.mod_eq_of_lt (by omega)
    have d1 : ((i : Int) + 1 == (n : Int)) = false := by simp; omega
    rw [e1]
    go_enter Tryz.func33, Tryz.ntmps33
    go_wp2
    go_ret
    exact ⟨rfl, rfl⟩
end Go.Proofs.YtlmbdafilboblaaGreat

/- Contract of omega.Turns. -/
namespace Go.Proofs.YtlmbdafilboblaaGreat
set_option linter.unusedVariables false
set_option linter.unusedSimpArgs false
open Go.RowKit

set_option maxHeartbeats 2000000 in
theorem turnsOp_any (v : Value) (zss : List (List Int)) (w : World) (hs : Sls w v zss) (hb : ∀ zs ∈ zss, Bytes8 zs) (hlen : zss.length ≤ 100000) (htot : offP zss zss.length ≤ 100000) :
    Calls Tryz.prog 17 #[v] w fun e w' => ∃ s l, e = .returned s ∧ l.Perm (listP zss) ∧ l.Pairwise (RP zss) ∧ OwnP w.heap.size w' s l ∧ Ext w w' := by
  have HS := hide' hs
  have HB := hide' hb
  obtain ⟨a, c, rfl, _⟩ := hs
  obtain ⟨n, HN⟩ : ∃ n, Hid (zss.length = n) := ⟨_, rfl⟩
  have HTOT := hide' htot
  have CL := hide' (listed_any _ zss w HS.out hlen htot)
  have HM : Hid ((listP zss).length ≤ 100000) := htot
  clear htot hb
  rw [HN.out] at HS CL hlen ⊢
  go_enter Tryz.func17, Tryz.ntmps17
  go_wp2_with fail
  refine CL.out.mono ?_
  rintro e w1 ⟨s, rfl, ho, he⟩
  have O1 := hide' ho.sl
  have E1 := hide' he
  obtain ⟨ta, tc, hsv, htc1, htc2, _⟩ := ho.shape
  subst hsv
  obtain ⟨M, HMM⟩ : ∃ M, Hid ((listP zss).length = M) := ⟨_, rfl⟩
  have hM := HM.out
  rw [HMM.out] at O1 hM htc1 ⊢
  unfold maxLen at htc2
  clear ho he CL
  obtain ⟨w2, hmk1, ho2, he2⟩ := make_nats w1 M (by omega)
  obtain ⟨w3, hmk2, ho3, he3⟩ := make_nats w2 M (by omega)
  have R0 := hide' (ho2.ext he3)
  have A0 := hide' ho3
  have E3 := hide' (he2.trans he3)
  have g12 : w1.heap.size < w2.heap.size := (World.ownsRow.lt ho2 _ rfl).2
  have g01 := E1.out.size
  clear ho2 he2 ho3 he3
  go_wp2
  clear hmk1 hmk2
  obtain ⟨g1, G1⟩ : ∃ g, Hid (w1.heap.size = g) := ⟨_, rfl⟩
  rw [G1.out] at g12 g01 R0 ⊢
  generalize w2.heap.size = g2 at *
  go_loopw [24] (fun vi wr => ∃ (i : Nat) (rs ah : List Nat), i ≤ M ∧ vi = .int .i64 i ∧ Hid (rs.length = M) ∧ Hid (ah.length = M) ∧ Hid (∀ p, p < i → bP zss p = (rs.getD p 0 : Nat) ∧ rs.getD p 0 < 256 ∧ ah.getD p 0 = nxP zss p) ∧
    Hid (Own .i64 3 g1 wr (.slice (some ⟨g1, 0, none⟩) M M) (natL rs)) ∧ Hid (Own .i64 3 g2 wr (.slice (some ⟨g2, 0, none⟩) M M) (natL ah)) ∧ Hid (Ext w1 wr)) (fun vi _ => M - (intOf vi).toNat)
  case atStart => exact ⟨0, _, _, Nat.zero_le _, rfl, List.length_replicate, List.length_replicate, (fun p hp => by omega), R0, A0, E3⟩
  case round =>
    clear R0 A0 E3
    obtain ⟨i, rs, ah, hi, rfl, LR, LA, HX, HR, HA, HE⟩ := hrel
    have HO := hide' (O1.out.ext HE.out)
    by_cases hlt : i < M
    · have hlt' : (i : Int) < M := by omega
      obtain ⟨k, t, hk, ht, hit⟩ := listK_split zss (K := zss.length) (j := i) (show i < (listP zss).length by rw [HMM.out]; exact hlt)
      obtain ⟨_, _, _, hcell⟩ := HO.out.at
      obtain ⟨tg, toff, rfl, hcel⟩ := hcell (by omega)
      have hc := hcel i hlt
      have hTi : (listP zss).getD i (0, 0) = (k, t) := by rw [hit]; exact listP_at hk ht
      rw [hTi] at hc
      have hc1 : wr.cell? ⟨tg, toff + i * 2, none⟩ = some (.int .i64 (k : Int)) := hc.1
      have hc2 : wr.cell? ⟨tg, toff + i * 2 + 1, none⟩ = some (.int .i64 (t : Int)) := hc.2
      have HIT := hide' hit
      have HK := hide' hk
      have HT := hide' ht
      clear hc hcell hcel hit hTi hk ht
      go_wp2_with fail
      have HR1 := hide' (HR.out.ext (ext_alloc wr (Obj.cells #[Value.int IntKind.i64 (k : Int), Value.int IntKind.i64 (t : Int)] 36)))
      have HA1 := hide' (HA.out.ext (ext_alloc wr (Obj.cells #[Value.int IntKind.i64 (k : Int), Value.int IntKind.i64 (t : Int)] 36)))
      have HE1 := hide' (HE.out.trans (ext_alloc wr (Obj.cells #[Value.int IntKind.i64 (k : Int), Value.int IntKind.i64 (t : Int)] 36)))
      have v0 : (wr.alloc (Obj.cells #[Value.int IntKind.i64 (k : Int), Value.int IntKind.i64 (t : Int)] 36)).cell? ⟨wr.heap.size, 0, none⟩ = some (.int .i64 (k : Int)) := by simp only [World.cell?, heap_alloc_top]; rfl
      have v1 : (wr.alloc (Obj.cells #[Value.int IntKind.i64 (k : Int), Value.int IntKind.i64 (t : Int)] 36)).cell? ⟨wr.heap.size, 1, none⟩ = some (.int .i64 (t : Int)) := by simp only [World.cell?, heap_alloc_top]; rfl
      generalize wr.alloc (Obj.cells #[Value.int IntKind.i64 (k : Int), Value.int IntKind.i64 (t : Int)] 36) = W at *
      generalize wr.heap.size = h at *
      obtain ⟨sg, soff, a2, c2, rfl, hwc, hm1, hm2, hws⟩ := (HS.out.ext (E1.out.trans HE1.out)).word (k := k) HK.out
      unfold maxLen at hm1
      have hkn : k < n := by have := HK.out; rw [HN.out] at this; exact this
      have hkn' : (k : Int) < n := by omega
      have hbw : Bytes8 (wordAt zss k) := HB.out _ (by unfold wordAt; rw [List.getD_eq_getElem?_getD, List.getElem?_eq_getElem HK.out]; exact List.getElem_mem HK.out)
      have ht := HT.out
      obtain ⟨_, wg, woff, ha2, hwcell⟩ := hws.at (fun e => by rw [e] at ht; simp at ht)
      subst ha2
      have hz := hwcell t ht
      have hzb := hbw.get t
      obtain ⟨q, hq⟩ := Int.eq_ofNat_of_zero_le hzb.1
      rw [hq] at hz hzb
      have hq2 : q ≤ 255 := by omega
      have HBP : Hid (bP zss i = (q : Int)) := by
        show _ = _
        unfold bP
        rw [HIT.out, listP_at HK.out HT.out]
        show (wordAt zss k).getD ((t + 0) % (wordAt zss k).length) 0 = _
        rw [Nat.add_zero, Nat.mod_eq_of_lt ht, hq]
      have HNX : Hid (nxP zss i = offP zss k + (t + 1) % (wordAt zss k).length) := by show _ = _; rw [HIT.out]; exact nxP_at HK.out HT.out
      have hml : (wordAt zss k).length ≤ 100000 := by
        have h1 := offP_mono zss (show k + 1 ≤ zss.length from HK.out)
        have h2 := HTOT.out
        rw [offP_succ] at h1
        omega
      have hmod : (t + 1) % (wordAt zss k).length < (wordAt zss k).length := Nat.mod_lt _ (by omega)
      have hio : (i : Int) - (t : Int) = (offP zss k : Int) := by have := HIT.out; omega
      have hol : offP zss k ≤ 100000 := by
        have h1 := offP_mono zss (Nat.le_of_lt HK.out)
        have h2 := HTOT.out
        omega
      generalize (wordAt zss k).length = m at *
      have NX := hide' (omNext_any t m · (by omega) ht)
      generalize offP zss k = o at *
      have ht' : (t : Int) < m := by omega
      clear hws hwcell hbw hq hc1 hc2 HR HA HO HE
      go_wp2_with fail
      go_quiet (fail)
      have z1 := HR1.out.frozen (by rw [natL_len]; exact LR.out) i
      have y1 := HR1.out.intCell LR.out i hlt
      go_wp2_with fail
      refine (NX.out _).mono ?_
      rintro e w5 ⟨rfl, rfl⟩
      obtain ⟨x, HXX⟩ : ∃ x, Hid ((t + 1) % m = x) := ⟨_, rfl⟩
      rw [HXX.out] at hmod HNX
      have EX : ((t + 1) % m : Nat) = x := HXX.out
      rw [EX]
      clear EX
      have HR2 := hide' ((HR1.out.ext (Ext.drewN W nq)).storeN LR.out i q)
      have HA2 := hide' ((HA1.out.ext (Ext.drewN W nq)).keep (b := g1) (by omega) (but_set _ g1 i (.int .i64 (q : Int))))
      have z2 := HA2.out.frozen (by rw [natL_len]; exact LA.out) i
      have y2 := HA2.out.intCell LA.out i hlt
      have HA3 := hide' (HA2.out.storeN LA.out i (o + x))
      have HR3 := hide' (HR2.out.keep (b := g2) (by omega) (but_set _ g2 i (.int .i64 ((o + x : Nat) : Int))))
      have HE3 : Hid (Ext w1 (((W.drewN nq).setCell ⟨g1, i, none⟩ (.int .i64 (q : Int))).setCell ⟨g2, i, none⟩ (.int .i64 ((o + x : Nat) : Int)))) := by
        have e0 : Ext w1 (W.drewN nq) := HE1.out.trans (Ext.drewN W nq)
        have hg1 : w1.heap.size ≤ g1 := Nat.le_of_eq G1.out
        have e1 : Ext w1 ((W.drewN nq).setCell ⟨g1, i, none⟩ (.int .i64 (q : Int))) := Ext.but e0 hg1 (but_set _ _ _ _)
        exact Ext.but e1 (by omega) (but_set _ _ _ _)
      have HX2 : Hid (∀ p, p < i + 1 → bP zss p = ((rs.set i q).getD p 0 : Nat) ∧ (rs.set i q).getD p 0 < 256 ∧ (ah.set i (o + x)).getD p 0 = nxP zss p) := fun p hp => by
        by_cases hpi : p = i
        · subst hpi
          rw [set_same (by rw [LR.out]; exact hlt), set_same (by rw [LA.out]; exact hlt)]
          exact ⟨HBP.out, by omega, HNX.out.symm⟩
        · rw [set_other (by omega), set_other (by omega)]
          exact HX.out p (by omega)
      clear hz v0 v1 hwc z1 y1
      go_wp2
      go_roundw
      case rel => exact ⟨i + 1, rs.set i q, ah.set i (o + x), by omega, by go_num, (show _ = _ by rw [List.length_set]; exact LR.out), (show _ = _ by rw [List.length_set]; exact LA.out), HX2, HR3, HA3, HE3⟩
      case measure => simp [intOf]; omega
    · have hlt' : decide ((i : Int) < M) = false := by simp; omega
      have hiM : i = M := by omega
      subst hiM
      have HI : Hid (InO i (bP zss) (nxP zss) 0 rs ah) := InO.start LR.out LA.out (fun p hp => by have := nxP_lt (zss := zss) p (by rw [HMM.out]; exact hp); rw [HMM.out] at this; exact this) (fun p hp => (HX.out p hp).1) (fun p hp => (HX.out p hp).2.1) (fun p hp => (HX.out p hp).2.2)
      have hpos := O1.out.at.2.2.2
      have TC := hide' hpos
      clear hpos
      go_wp2_with fail
      refine (inOrder_any _ _ rs ah i (bP zss) (nxP zss) _ HR.out.sl HA.out.sl HI.out hM).mono ?_
      rintro e w6 ⟨s6, ord, rfl, hpm, hpw, ho, he⟩
      have PM := hide' hpm
      have PW := hide' hpw
      have HLO : Hid (ord.length = i) := by show _ = _; rw [hpm.length_eq, List.length_range]
      have S6 := hide' ho.sl
      have E6 := hide' (HE.out.trans he)
      obtain ⟨oa, oc, hsv, _⟩ := ho.sl
      rw [natL_len, HLO.out] at hsv
      subst hsv
      obtain ⟨_, hoc1, hoc2, hoc⟩ := S6.out.nat
      have OC := hide' hoc
      unfold maxLen at hoc2
      have INR : Hid (∀ j, j < i → ord.getD j 0 < i) := fun j hj => List.mem_range.1 (PM.out.mem_iff.1 (getN_mem (by rw [HLO.out]; exact hj)))
      clear hpm hpw ho he hoc
      obtain ⟨w7, hmk, ho7, he7⟩ := make_pairs w6 i (by omega)
      have HP0 := hide' ho7
      have E7 := hide' he7
      clear ho7 he7
      go_wp2
      clear hmk
      obtain ⟨g3, G3⟩ : ∃ g, Hid (w6.heap.size = g) := ⟨_, rfl⟩
      rw [G3.out] at HP0 ⊢
      go_loopw [64] (fun vj wr => ∃ (j : Nat) (l : List (Nat × Nat)), j ≤ i ∧ vj = .int .i64 j ∧ Hid (l.length = i) ∧ Hid (∀ p, p < j → l.getD p (0, 0) = (listP zss).getD (ord.getD p 0) (0, 0)) ∧
        Hid (OwnP g3 wr (.slice (some ⟨g3, 0, none⟩) i i) l) ∧ Hid (Ext w6 wr)) (fun vj _ => i - (intOf vj).toNat)
      case atStart => exact ⟨0, List.replicate i (0, 0), Nat.zero_le _, rfl, List.length_replicate, (fun p hp => by omega), HP0, E7⟩
      case round =>
        clear HP0 E7 HR HA HI HX HE hlt hlt'
        obtain ⟨j, l, hj, rfl, LL, HX, HP, HE⟩ := hrel
        by_cases hlt : j < i
        · have hlt' : (j : Int) < i := by omega
          obtain ⟨og, ooff, rfl, ocell⟩ := OC.out (by omega)
          obtain ⟨tg, toff, rfl, tcell⟩ := TC.out (by omega)
          have hpj := INR.out j hlt
          have c1 := HE.out.cellOf (ocell j hlt)
          have c2 := (E6.out.trans HE.out).cellOf (tcell _ hpj).1
          have c3 := (E6.out.trans HE.out).cellOf (tcell _ hpj).2
          obtain ⟨p, HPP⟩ : ∃ p, Hid (ord.getD j 0 = p) := ⟨_, rfl⟩
          rw [HPP.out] at c1 c2 c3 hpj
          obtain ⟨t, HT⟩ : ∃ t, Hid ((listP zss).getD p (0, 0) = t) := ⟨_, rfl⟩
          rw [HT.out] at c2 c3
          have hpj' : (p : Int) < i := by omega
          clear ocell tcell
          obtain ⟨⟨x1, y1⟩, z1, ⟨x2, y2⟩, z2⟩ := HP.out.cells2 LL.out hlt (.int .i64 (t.1 : Int))
          have HP2 := hide' (HP.out.store LL.out j t)
          have HE2 := hide' (Ext.but HE.out (Nat.le_of_eq G3.out) (but_setCells _ g3 (j * 2) [.int .i64 (t.1 : Int), .int .i64 (t.2 : Int)]))
          have HX2 : Hid (∀ q, q < j + 1 → (l.set j t).getD q (0, 0) = (listP zss).getD (ord.getD q 0) (0, 0)) := fun q hq => by
            by_cases hqj : q = j
            · subst hqj
              rw [HPP.out, HT.out]
              simp [List.getD, LL.out, hlt]
            · rw [← HX.out q (by omega)]
              simp only [List.getD_eq_getElem?_getD]
              rw [List.getElem?_set_ne (by omega)]
          go_wp2
          go_roundw
          case rel => exact ⟨j + 1, l.set j t, by omega, by go_num, (show _ = _ by rw [List.length_set]; exact LL.out), HX2, HP2, HE2⟩
          case measure => simp [intOf]; omega
        · have hlt' : decide ((j : Int) < i) = false := by simp; omega
          have hji : j = i := by omega
          subst hji
          have HQ : Hid (l = ord.map fun p => (listP zss).getD p (0, 0)) := by
            refine List.ext_getElem (by rw [LL.out, List.length_map, HLO.out]) fun k h1 h2 => ?_
            have := HX.out k (by rw [LL.out] at h1; exact h1)
            have h3 : k < ord.length := by rw [HLO.out]; rw [LL.out] at h1; exact h1
            simpa [List.getD, List.getElem?_eq_getElem h1, List.getElem?_eq_getElem h3] using this
          have PM2 := PM.out
          rw [← HMM.out] at PM2
          have TS := hide' (turns_sorted PM2 PW.out)
          have g36 := E6.out.size
          go_wp2
          go_ret
          exact ⟨_, l, rfl, by rw [HQ.out]; exact TS.out.1, by rw [HQ.out]; exact TS.out.2, HP.out.low (by rw [← G3.out]; exact Nat.le_trans E1.out.size g36), (E1.out.trans E6.out).trans HE.out⟩
end Go.Proofs.YtlmbdafilboblaaGreat

/- A text turned without a mark, and back: each way it is as it was. Plain numbers, no conditions. -/
namespace Go.Proofs.YtlmbdafilboblaaGreat
set_option linter.unusedVariables false
set_option linter.unusedSimpArgs false

/-- Turned: the last letters of all rotations of the factors, in order. -/
def IsTurn (s l : List Int) : Prop := ∃ T, Turned (facW s) T ∧ l = bjL (facW s) T
/-- Turned back: the cycles' words, the last one first. -/
def IsBack (l s : List Int) : Prop := ∃ cs, CycOf (rkN l) l.length cs ∧ s = (cs.reverse.map (wordOf l)).flatten

theorem Turned.eq {zss : List (List Int)} {T V : List (Nat × Nat)} (h : Turned zss T) (k : Turned zss V) : T = V := sorted_unique h.1 k.1 h.2 k.2
theorem IsTurn.eq {s l l' : List Int} (h : IsTurn s l) (k : IsTurn s l') : l = l' := by
  obtain ⟨T, h1, rfl⟩ := h
  obtain ⟨V, k1, rfl⟩ := k
  rw [h1.eq k1]
theorem IsBack.eq {s s' l : List Int} (h : IsBack l s) (k : IsBack l s') : s = s' := by
  obtain ⟨cs, h1, rfl⟩ := h
  obtain ⟨ds, k1, rfl⟩ := k
  rw [h1.eq k1]
/-- The words, the last one first, are the text's factors. -/
theorem back_fac {l : List Int} {cs : List (List Nat)} (h : CycOf (rkN l) l.length cs) : facW (cs.reverse.map (wordOf l)).flatten = cs.reverse.map (wordOf l) := by
  refine fac_unique (fun w hw => ?_) ?_
  · obtain ⟨c, hc, rfl⟩ := List.mem_map.1 hw
    exact word_lyn h (List.mem_reverse.1 hc)
  · rw [List.pairwise_map, List.pairwise_reverse]
    refine h.up.imp_of_mem fun {c d} hc hd hcd hlt => ?_
    have h1 := lyn_om (word_lyn h hc) (word_lyn h hd).1 hlt
    rw [← uS_atW h hc, ← uS_atW h hd] at h1
    exact uS_le hcd (h.ltC hd (getN_mem (h.ne d hd))) h1
/-- Turned back and turned, it is as it was. -/
theorem IsBack.turn {l s l' : List Int} (h : IsBack l s) (k : IsTurn s l') : l' = l := by
  obtain ⟨cs, h1, rfl⟩ := h
  obtain ⟨T, k1, rfl⟩ := k
  rw [back_fac h1] at k1 ⊢
  exact cyc_last h1 ((List.reverse_perm cs).map _) k1

/-- All rotations can be put in order. -/
theorem turned_some (zss : List (List Int)) : ∃ T, Turned zss T := by
  have hn : (listP zss).Nodup := by
    rw [List.Nodup, List.pairwise_iff_getElem]
    intro i j hi hj hij e
    obtain ⟨a, b, h1, h2, h3⟩ := listK_split zss (K := zss.length) hi
    obtain ⟨c, d, k1, k2, k3⟩ := listK_split zss (K := zss.length) hj
    have e1 := listP_at h1 h2
    have e2 := listP_at k1 k2
    rw [← h3] at e1
    rw [← k3] at e2
    have e3 : (listP zss).getD i (0, 0) = (listP zss).getD j (0, 0) := by
      rw [List.getD_eq_getElem?_getD, List.getD_eq_getElem?_getD, List.getElem?_eq_getElem hi, List.getElem?_eq_getElem hj, e]
    rw [e1, e2] at e3
    have := Prod.mk.inj e3
    have h5 : a = c := this.1
    have h6 : b = d := this.2
    subst h5 h6
    omega
  have tot : ∀ t u, t ≠ u → RP zss t u ∨ RP zss u t := by
    intro t u hne
    apply Classical.byContradiction
    intro hno
    have e : sqP zss t = sqP zss u := fn_eq (fun g => hno (.inl (.inl g))) fun g => hno (.inr (.inl g))
    have hb : Bef t u ∨ Bef u t := by
      unfold Bef
      rcases Nat.lt_trichotomy t.1 u.1 with g | g | g
      · exact .inl (.inl g)
      · rcases Nat.lt_trichotomy t.2 u.2 with g2 | g2 | g2
        · exact .inl (.inr ⟨g, g2⟩)
        · exact absurd (Prod.ext g g2) hne
        · exact .inr (.inr ⟨g.symm, g2⟩)
      · exact .inr (.inl g)
    rcases hb with g | g
    · exact hno (.inl (.inr ⟨fun k => by rw [e], g⟩))
    · exact hno (.inr (.inr ⟨fun k => by rw [e], g⟩))
  have trans : ∀ t u v, RP zss t u → RP zss u v → RP zss t v := by
    intro t u v h k
    rcases h with h | ⟨h1, h2⟩ <;> rcases k with k | ⟨k1, k2⟩
    · exact .inl (h.trans k)
    · have e : sqP zss u = sqP zss v := funext k1
      exact .inl (e ▸ h)
    · have e : sqP zss t = sqP zss u := funext h1
      exact .inl (e ▸ k)
    · refine .inr ⟨fun m => (h1 m).trans (k1 m), ?_⟩
      unfold Bef at *
      omega
  have ex : ∀ l : List (Nat × Nat), l.Nodup → ∃ T : List (Nat × Nat), T.Perm l ∧ T.Pairwise (RP zss) := by
    intro l
    induction l with
    | nil => intro _; exact ⟨[], List.Perm.refl _, List.Pairwise.nil⟩
    | cons t l ih =>
      intro hl
      rw [List.nodup_cons] at hl
      obtain ⟨T, h1, h2⟩ := ih hl.2
      have ins : ∀ T : List (Nat × Nat), t ∉ T → T.Pairwise (RP zss) → ∃ V : List (Nat × Nat), V.Perm (t :: T) ∧ V.Pairwise (RP zss) := by
        intro T
        induction T with
        | nil => intro _ _; exact ⟨[t], List.Perm.refl _, by simp⟩
        | cons u T ih2 =>
          intro hm hs
          rw [List.pairwise_cons] at hs
          have hne : t ≠ u := fun e => hm (e ▸ List.mem_cons_self)
          rcases tot t u hne with g | g
          · refine ⟨t :: u :: T, List.Perm.refl _, List.pairwise_cons.2 ⟨fun x hx => ?_, List.pairwise_cons.2 hs⟩⟩
            rcases List.mem_cons.1 hx with e | e
            · rw [e]; exact g
            · exact trans _ _ _ g (hs.1 x e)
          · obtain ⟨V, v1, v2⟩ := ih2 (fun e => hm (List.mem_cons_of_mem _ e)) hs.2
            refine ⟨u :: V, (v1.cons u).trans (List.Perm.swap _ _ _), List.pairwise_cons.2 ⟨fun x hx => ?_, v2⟩⟩
            rcases List.mem_cons.1 (v1.mem_iff.1 hx) with e | e
            · rw [e]; exact g
            · exact hs.1 x e
      obtain ⟨V, v1, v2⟩ := ins T (fun e => hl.1 (h1.mem_iff.1 e)) h2
      exact ⟨V, v1.trans (h1.cons t), v2⟩
  exact ex _ hn
theorem isTurn_some (s : List Int) : ∃ l, IsTurn s l := by
  obtain ⟨T, hT⟩ := turned_some (facW s)
  exact ⟨_, T, hT, rfl⟩
/-- Each order has cycles. -/
theorem cyc_some {p : Nat → Nat} {n : Nat} (hp : ∀ x, x < n → p x < n) (hinj : ∀ x y, x < n → y < n → p x = p y → x = y) : ∃ cs, CycOf p n cs := by
  have upto : ∀ i, i ≤ n → ∃ cs, CycTo p n i cs := by
    intro i
    induction i with
    | zero => intro _; exact ⟨[], CycTo.start p n⟩
    | succ i ih =>
      intro hi
      obtain ⟨cs, h⟩ := ih (by omega)
      by_cases hin : i ∈ cs.flatten
      · exact ⟨cs, h.skip hin⟩
      · have walk : ∀ (f : Nat) (c : List Nat) (k : Nat), n ≤ c.length + f → CycIn p n i cs c k → ∃ c k, CycIn p n i cs c k ∧ (k ∈ c ∨ k ∈ cs.flatten) := by
          intro f
          induction f with
          | zero =>
            intro c k hf hc
            refine ⟨c, k, hc, .inl ?_⟩
            have hperm := nodup_permN hc.nodup (l' := List.range n) (fun x hx => List.mem_range.2 (hc.lt x hx)) (by rw [List.length_range]; omega)
            exact hperm.mem_iff.2 (List.mem_range.2 hc.klt)
          | succ f ihf =>
            intro c k hf hc
            by_cases h1 : k ∈ c
            · exact ⟨c, k, hc, .inl h1⟩
            · by_cases h2 : k ∈ cs.flatten
              · exact ⟨c, k, hc, .inr h2⟩
              · exact ihf (c ++ [k]) (p k) (by rw [List.length_append, List.length_singleton]; omega) (hc.step hp h1 h2)
        obtain ⟨c, k, hc, hk⟩ := walk n [] i (by simp) (CycIn.start (by omega))
        exact ⟨cs ++ [c], hc.close hinj h hin hk⟩
  obtain ⟨cs, h⟩ := upto n (Nat.le_refl _)
  exact ⟨cs, h.done⟩
theorem isBack_some (l : List Int) : ∃ s, IsBack l s := by
  obtain ⟨cs, h⟩ := cyc_some (p := rkN l) (n := l.length) (fun x hx => rk_lt hx) (fun x y hx hy e => rk_inj hx hy e)
  exact ⟨_, cs, h, rfl⟩

theorem flat_len {l : List Int} : ∀ {cs : List (List Nat)}, (cs.map (wordOf l)).flatten.length = cs.flatten.length
  | [] => rfl
  | c :: cs => by
    rw [List.map_cons, List.flatten_cons, List.flatten_cons, List.length_append, List.length_append, wordOf_len, flat_len]
theorem IsBack.len {l s : List Int} (h : IsBack l s) : s.length = l.length := by
  obtain ⟨cs, h1, rfl⟩ := h
  rw [flat_len, ((List.reverse_perm cs).flatten).length_eq, h1.all.length_eq, List.length_range]
/-- Its letters are the row's. -/
theorem IsBack.mem {l s : List Int} (h : IsBack l s) {z : Int} (hz : z ∈ s) : z ∈ l := by
  obtain ⟨cs, h1, rfl⟩ := h
  obtain ⟨w, hw, hzw⟩ := List.mem_flatten.1 hz
  obtain ⟨c, hc, rfl⟩ := List.mem_map.1 hw
  unfold wordOf at hzw
  obtain ⟨k, hk, rfl⟩ := List.mem_map.1 hzw
  have := h1.ltC (List.mem_reverse.1 hc) (List.mem_reverse.1 hk)
  exact getI_mem this

/-- All rows of so many bytes. -/
def allB : Nat → List (List Int)
  | 0 => [[]]
  | n + 1 => (List.range 256).flatMap fun (c : Nat) => (allB n).map fun (l : List Int) => (c : Int) :: l
theorem allB_mem : ∀ {n : Nat} {l : List Int}, l ∈ allB n ↔ l.length = n ∧ ∀ z ∈ l, 0 ≤ z ∧ z ≤ 255
  | 0, l => by
    unfold allB
    rw [List.mem_singleton]
    constructor
    · intro e; subst e; simp
    · intro ⟨h, _⟩; exact List.length_eq_zero_iff.1 h
  | n + 1, l => by
    unfold allB
    rw [List.mem_flatMap]
    constructor
    · rintro ⟨c, hc, h⟩
      obtain ⟨m, hm, rfl⟩ := List.mem_map.1 h
      have hc' := List.mem_range.1 hc
      obtain ⟨h1, h2⟩ := allB_mem.1 hm
      refine ⟨by rw [List.length_cons, h1], fun z hz => ?_⟩
      rcases List.mem_cons.1 hz with e | e
      · omega
      · exact h2 z e
    · intro ⟨h1, h2⟩
      cases l with
      | nil => simp at h1
      | cons z l =>
        have hz := h2 z List.mem_cons_self
        refine ⟨z.toNat, List.mem_range.2 (by omega), List.mem_map.2 ⟨l, allB_mem.2 ⟨by rw [List.length_cons] at h1; omega, fun y hy => h2 y (List.mem_cons_of_mem _ hy)⟩, ?_⟩⟩
        rw [Int.toNat_of_nonneg hz.1]
theorem allB_nodup : ∀ n, (allB n).Nodup
  | 0 => by simp [allB]
  | n + 1 => by
    unfold allB
    rw [List.Nodup, List.pairwise_flatMap]
    refine ⟨fun c _ => ?_, List.nodup_range.imp fun hab x hx y hy e => ?_⟩
    · rw [List.pairwise_map]
      exact (allB_nodup n).imp fun h e => h (List.cons.inj e).2
    · obtain ⟨u, _, rfl⟩ := List.mem_map.1 hx
      obtain ⟨v, _, rfl⟩ := List.mem_map.1 hy
      exact hab (Int.ofNat.inj (List.cons.inj e).1)
/-- Each row of bytes is turned back from one. -/
theorem back_onto {s : List Int} (h : ∀ z ∈ s, 0 ≤ z ∧ z ≤ 255) : ∃ l, IsBack l s := by
  obtain ⟨f, hf⟩ : ∃ f : List Int → List Int, ∀ l, IsBack l (f l) := ⟨fun l => Classical.choose (isBack_some l), fun l => Classical.choose_spec (isBack_some l)⟩
  have hinj : ∀ a b, f a = f b → a = b := by
    intro a b e
    obtain ⟨l, hl⟩ := isTurn_some (f a)
    have h1 := (hf a).turn hl
    rw [e] at hl
    have h2 := (hf b).turn hl
    rw [← h1, h2]
  have hp : ((allB s.length).map f).Perm (allB s.length) := by
    refine nodup_permG ?_ (fun x hx => ?_) (by simp)
    · rw [List.Nodup, List.pairwise_map]
      exact (allB_nodup _).imp fun h e => h (hinj _ _ e)
    · obtain ⟨l, hl, rfl⟩ := List.mem_map.1 hx
      obtain ⟨h1, h2⟩ := allB_mem.1 hl
      exact allB_mem.2 ⟨by rw [(hf l).len, h1], fun z hz => h2 z ((hf l).mem hz)⟩
  obtain ⟨l, _, e⟩ := List.mem_map.1 (hp.mem_iff.2 (allB_mem.2 ⟨rfl, h⟩))
  exact ⟨l, by rw [← e]; exact hf l⟩
/-- Turned and turned back, it is as it was. -/
theorem IsTurn.back {s l x : List Int} (h8 : ∀ z ∈ s, 0 ≤ z ∧ z ≤ 255) (h : IsTurn s l) (k : IsBack l x) : x = s := by
  obtain ⟨l0, h0⟩ := back_onto h8
  have e := h0.turn h
  subst e
  exact k.eq h0
end Go.Proofs.YtlmbdafilboblaaGreat

/- Contract of bij.Turn. -/
namespace Go.Proofs.YtlmbdafilboblaaGreat
set_option linter.unusedVariables false
set_option linter.unusedSimpArgs false
open Go.RowKit

theorem bjLen (zss : List (List Int)) (T : List (Nat × Nat)) : (bjL zss T).length = T.length := by simp [bjL]
theorem bjTake (zss : List (List Int)) (T : List (Nat × Nat)) {i : Nat} (h : i < T.length) : (bjL zss T).take i ++ [lastP zss (T.getD i (0, 0))] = (bjL zss T).take (i + 1) := by
  unfold bjL
  rw [List.take_add_one, List.getElem?_map, List.getElem?_eq_getElem h, List.getD_eq_getElem?_getD, List.getElem?_eq_getElem h]
  rfl

set_option maxHeartbeats 4000000 in
theorem bjTurn_any (v : Value) (s : List Int) (w : World) (hv : Sl .u8 w v s) (h8 : Bytes8 s) (hs : s.length ≤ 100000) :
    Calls Tryz.prog 7 #[v] w fun e w' => ∃ l r, e = .returned (.tuple #[r, .int .i64 0]) ∧ IsTurn s l ∧ Own .u8 5 w.heap.size w' r l ∧ Ext w w' := by
  have CF := hide' (bjFactors_any v s w hv hs)
  have HIT : Hid (∀ T, Turned (facW s) T → IsTurn s (bjL (facW s) T)) := fun T hT => ⟨T, hT, rfl⟩
  have HWL : Hid ((facW s).length ≤ 100000) := Nat.le_trans (facW_len s) hs
  have HOFF : Hid (offP (facW s) (facW s).length ≤ 100000) := by show _ ≤ _; rw [facW_off]; exact hs
  have H8 : Hid (∀ zs ∈ facW s, Bytes8 zs) := fun zs hz z h => h8 z (by rw [← (facW_flat s.length s (Nat.le_refl _)).1]; exact List.mem_flatten.2 ⟨zs, hz, h⟩)
  obtain ⟨va, vc, rfl, _⟩ := hv
  obtain ⟨N, HN⟩ : ∃ n, Hid (s.length = n) := ⟨_, rfl⟩
  have d1 : decide ((100000 : Int) < (s.length : Int)) = false := by simp; omega
  obtain ⟨zss, HZ⟩ : ∃ z, Hid (facW s = z) := ⟨_, rfl⟩
  rw [HZ.out] at CF HIT HWL HOFF H8
  rw [HN.out] at CF hs d1 ⊢
  have HLP : Hid ((listP zss).length ≤ 100000) := HOFF.out
  have HW : Hid (∀ k, k < zss.length → (wordAt zss k).length ≤ 100000) := fun k hk => by
    have h1 := offP_succ zss k
    have h2 := offP_mono zss (show k + 1 ≤ zss.length by omega)
    have h3 := HOFF.out
    omega
  clear h8
  go_enter Tryz.func7, Tryz.ntmps7
  go_wp2_with fail
  refine CF.out.mono ?_
  rintro e w1 ⟨ws, rfl, hz, he⟩
  have HS1 := hide' hz
  have X1 := hide' he
  obtain ⟨sa, sc, rfl, _⟩ := id hz
  obtain ⟨n, HNN⟩ : ∃ n, Hid (zss.length = n) := ⟨_, rfl⟩
  rw [HNN.out] at HS1 HW ⊢
  obtain ⟨w2, hmk, ho2, he2⟩ := make_room8 w1 N (by omega)
  have O2 := hide' ho2
  have X2 := hide' (X1.out.trans he2)
  have Y2 := hide' he2
  have HS2 := hide' (HS1.out.ext he2)
  have hsz1 := X1.out.size
  clear hz he ho2 he2 CF
  go_wp2_with fail
  clear hmk
  refine (turnsOp_any _ zss w2 HS2.out H8.out HWL.out HOFF.out).mono ?_
  rintro e w3 ⟨ts, T, rfl, hp, hq, ho, he⟩
  have HT : Hid (Turned zss T) := ⟨hp, hq⟩
  have P3 := hide' ho
  have X3 := hide' (X2.out.trans he)
  have Y3 := hide' (Y2.out.trans he)
  have O3 := hide' (O2.out.ext he)
  have hm : T.length ≤ 100000 := by rw [hp.length_eq]; exact HLP.out
  obtain ⟨ta, tc, rfl, _⟩ := id ho.sl
  obtain ⟨m, HM⟩ : ∃ m, Hid (T.length = m) := ⟨_, rfl⟩
  rw [HM.out] at hm P3 ⊢
  have HSTEP : Hid (∀ i, i < m → (bjL zss T).take i ++ [lastP zss (T.getD i (0, 0))] = (bjL zss T).take (i + 1)) := fun i hi => bjTake zss T (by rw [HM.out]; exact hi)
  have HIN : Hid (∀ i, i < m → (T.getD i (0, 0)).1 < n ∧ (T.getD i (0, 0)).2 < (wordAt zss (T.getD i (0, 0)).1).length) := fun i hi => by
    have := HT.out.mem (getP_mem (i := i) (by rw [HM.out]; exact hi))
    rwa [HNN.out] at this
  have HBL : Hid ((bjL zss T).length = m) := by show _ = _; rw [bjLen, HM.out]
  have HI3 := hide' (HIT.out T HT.out)
  obtain ⟨B, HB⟩ : ∃ B, Hid (bjL zss T = B) := ⟨_, rfl⟩
  rw [HB.out] at HSTEP HBL HI3
  obtain ⟨b2, HB2⟩ : ∃ b, Hid (w2.heap.size = b) := ⟨_, rfl⟩
  rw [HB2.out] at P3
  clear hp hq ho he HIT O2 X2 Y2 HS2 H8
  go_wp2
  obtain ⟨g1, HG1⟩ : ∃ g, Hid (w1.heap.size = g) := ⟨_, rfl⟩
  rw [HG1.out] at O3 ⊢
  rw [HG1.out] at hsz1
  go_loopw [5, 19] (fun vo vi wr => ∃ (i : Nat), i ≤ m ∧ vi = .int .i64 i ∧ Hid (Own .u8 5 g1 wr vo (B.take i)) ∧ Hid (OwnP b2 wr (.slice ta m tc) T) ∧ Hid (Ext w1 wr)) (fun _ vi _ => m - (intOf vi).toNat)
  case atStart => exact ⟨0, Nat.zero_le _, rfl, O3, P3, Y3⟩
  case round =>
    clear O3 P3 Y3
    obtain ⟨i, hi, rfl, HO, HP, HE⟩ := hrel
    by_cases hlt : i < m
    · have hlt' : (i : Int) < m := by omega
      obtain ⟨_, _, _, hcp⟩ := HP.out.sl.at
      obtain ⟨pg, poff, rfl, pcell⟩ := hcp (by omega)
      obtain ⟨p1, p2⟩ := pcell i hlt
      obtain ⟨b1, b2'⟩ := HIN.out i hlt
      have HST := hide' (HSTEP.out i hlt)
      have HLA : Hid (lastP zss (T.getD i (0, 0)) = (wordAt zss (T.getD i (0, 0)).1).getD (((T.getD i (0, 0)).2 + (wordAt zss (T.getD i (0, 0)).1).length - 1) % (wordAt zss (T.getD i (0, 0)).1).length) 0) := rfl
      rw [HLA.out] at HST
      obtain ⟨x, HX⟩ : ∃ x, Hid ((T.getD i (0, 0)).1 = x) := ⟨_, rfl⟩
      obtain ⟨y, HY⟩ : ∃ y, Hid ((T.getD i (0, 0)).2 = y) := ⟨_, rfl⟩
      rw [HX.out] at p1 b1 b2' HST
      rw [HY.out] at p2 b2' HST
      clear hcp pcell HLA HX HY
      go_wp2_with fail
      have v0 : (wr.alloc (Obj.cells #[Value.int IntKind.i64 (x : Int), Value.int IntKind.i64 (y : Int)] 36)).cell? ⟨wr.heap.size, 0, none⟩ = some (.int .i64 (x : Int)) := by simp only [World.cell?, heap_alloc_top]; rfl
      have v1 : (wr.alloc (Obj.cells #[Value.int IntKind.i64 (x : Int), Value.int IntKind.i64 (y : Int)] 36)).cell? ⟨wr.heap.size, 1, none⟩ = some (.int .i64 (y : Int)) := by simp only [World.cell?, heap_alloc_top]; rfl
      have HO1 := hide' (HO.out.ext (ext_alloc wr (Obj.cells #[Value.int IntKind.i64 (x : Int), Value.int IntKind.i64 (y : Int)] 36)))
      have HP1 := hide' ((show OwnP _ _ _ _ from HP.out).ext (ext_alloc wr (Obj.cells #[Value.int IntKind.i64 (x : Int), Value.int IntKind.i64 (y : Int)] 36)))
      have HE1 := hide' (HE.out.trans (ext_alloc wr (Obj.cells #[Value.int IntKind.i64 (x : Int), Value.int IntKind.i64 (y : Int)] 36)))
      generalize wr.alloc (Obj.cells #[Value.int IntKind.i64 (x : Int), Value.int IntKind.i64 (y : Int)] 36) = W at *
      generalize wr.heap.size = h at *
      obtain ⟨wg, woff, a2, c2, rfl, hwc, _, _, hws⟩ := (HS1.out.ext HE1.out).word (k := x) (by rw [HNN.out]; exact b1)
      have hwl := HW.out x b1
      obtain ⟨WW, HWW⟩ : ∃ W, Hid (wordAt zss x = W) := ⟨_, rfl⟩
      rw [HWW.out] at hwc hws b2' HST hwl
      have SW := hide' hws
      have HYL := hide' b2'
      obtain ⟨L, HL⟩ : ∃ L, Hid (WW.length = L) := ⟨_, rfl⟩
      rw [HL.out] at hwc SW
      obtain ⟨z, HZ2⟩ : ∃ z, Hid (WW.getD ((y + WW.length - 1) % WW.length) 0 = z) := ⟨_, rfl⟩
      rw [HZ2.out] at HST
      have CL : Hid (∀ w', Ext W w' → Calls Tryz.prog 18 #[.slice a2 L c2, .int .i64 (y : Int)] w' fun e w'' => e = .returned (.int .u8 z) ∧ Ext w' w'') := fun w' he =>
        (bjLastB_any _ WW y w' (SW.out.ext he) HYL.out (by omega)).mono fun e w'' ⟨h1, q, h2⟩ => ⟨by rw [h1, HZ2.out], by rw [h2]; exact Ext.drewN _ _⟩
      have l1 := later_cell v0
      have l2 := later_cell v1
      have l3 := later_cell hwc
      have b1' : (x : Int) < n := by omega
      have HTL : Hid ((B.take i).length ≤ 100000) := by show _ ≤ _; rw [List.length_take]; omega
      obtain ⟨Q, HQ⟩ : ∃ Q, Hid (B.take i = Q) := ⟨_, rfl⟩
      rw [HQ.out] at HST HTL HO1
      clear hws b2' hwl p1 p2 HO HP HE v0 v1 hwc
      go_wp2_with fail
      refine wp_region_kt (fun _ _ v _ => v = .int .u8 z) 10 (by kernel_rfl) (by kernel_rfl) (by kernel_rfl) ?_
      have hne := later_some W
      simp only [List.take_succ_cons, List.take_zero, List.drop_succ_cons, List.drop_zero]
      refine lexK_take 8 (by kernel_rfl) ?_
      simp only [List.take_succ_cons, List.take_zero, List.drop_succ_cons, List.drop_zero]
      repeat (go_big_quiet_step (fail))
      refine wpQuiet_nil ?_
      refine lexK_call1 18 #[.slice a2 L c2, .int .i64 (y : Int)] (.int .u8 z) (fun _ _ => Iff.rfl) rfl (fun w' => ?_) (fun w' he _ => CL.out w' he) ?_
      · go_simp
      simp only [Act.put, List.setIfInBounds_toArray, List.set_cons_succ, List.set_cons_zero]
      refine lexK_some (fun u w' => ∃ g, u = .slice (some ⟨g, 0, none⟩) 1 1 ∧ w'.cell? ⟨g, 0, none⟩ = some (.int .u8 z)) (fun u w1' w2' h12 h => ?_) rfl (fun w1' he1 _ => ?_) ?_
      · obtain ⟨g, h1, h2⟩ := h
        exact ⟨g, h1, h12.cellOf h2⟩
      · exact ⟨.slice (some ⟨w1'.heap.size, 0, none⟩) 1 1, w1'.alloc (.cells #[.int .u8 z] 5), by kernel_rfl, ext_alloc _ _, _, rfl, by simp only [World.cell?, heap_alloc_top]; simp⟩
      intro u2 w5 he1 _ hu2
      clear he1 hu2
      simp only [Act.put, List.setIfInBounds_toArray, List.set_cons_succ, List.set_cons_zero]
      refine lexK_nil ?_
      intro w5 he1 hf1
      obtain ⟨g2, hg2, hc2⟩ := (hf1 32).2 rfl
      subst hg2
      have HO2 := hide' (HO1.out.ext he1)
      have HP2 := hide' ((show OwnP _ _ _ _ from HP1.out).ext he1)
      have HE2 := hide' (HE1.out.trans he1)
      have hsz2 : g1 ≤ w5.heap.size := by have := HE2.out.size; rw [HG1.out] at this; exact this
      clear hne l1 l2 l3 he1 HO1 HP1 HE1 hf1 CL
      go_wp2_with (at_builtin; refine wpList_snocG _ rfl _ _ 22 rfl 5 .u8 1 Tryz.underlying22 infoU8 g1 _ Q z ⟨g2, 0, none⟩ rfl rfl hc2 HO2.out ?c3 hsz2 ?_)
      case c3 => have := HTL.out; unfold maxLen; omega
      intro v2 w6 ho2 hb2
      have HO3 : Hid (Own .u8 5 g1 w6 v2 (B.take (i + 1))) := by rw [← HST.out]; exact ho2
      have HP3 : Hid (OwnP b2 w6 (.slice (some ⟨pg, poff, none⟩) m tc) T) := by
        have := owns_other HO2.out HP2.out (by decide) hb2
        exact this
      have HE3 : Hid (Ext w1 w6) := Below.trans HE2.out ((Below.refl _ _).grown hb2 HE2.out.size (fun k hk => by have := (World.ownsRow.lt HO2.out k hk).1; rw [HG1.out]; exact this))
      clear ho2 hb2
      go_wp2
      go_roundw
      case rel => exact ⟨i + 1, by omega, by go_num, HO3, HP3, HE3⟩
      case measure => simp [intOf]; omega
    · have hlt' : decide ((i : Int) < m) = false := by simp; omega
      have HO9 : Hid (Own .u8 5 w.heap.size wr u5 B) := by
        have := HO.out
        rw [List.take_of_length_le (by rw [HBL.out]; omega)] at this
        exact this.low hsz1
      have HX9 := hide' (X1.out.trans HE.out)
      go_wp2
      go_ret2
      exact ⟨B, _, rfl, HI3.out, HO9.out, HX9.out⟩
theorem bjTurn_long (v : Value) (s : List Int) (w : World) (hv : Sl .u8 w v s) (hs : 100000 < s.length) :
    Calls Tryz.prog 7 #[v] w fun e w' => e = .returned (.tuple #[.slice none 0 0, .int .i64 2]) ∧ Ext w w' := by
  obtain ⟨va, vc, rfl, _⟩ := hv
  have d1 : (100000 : Int) < (s.length : Int) := by omega
  clear hs
  go_enter Tryz.func7, Tryz.ntmps7
  go_wp2
  go_ret2
  exact ⟨rfl, Ext.refl _⟩
end Go.Proofs.YtlmbdafilboblaaGreat
