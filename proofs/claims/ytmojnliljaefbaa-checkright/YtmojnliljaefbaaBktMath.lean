/- Keys that may be, counted; what stands ahead of each; the document's insertion by key. Plain numbers, no conditions. -/
import Derived.Test.YtmojnliljaefbaaCsMath
namespace Go.Proofs.Ytmojnliljaefbaa
set_option linter.unusedVariables false
set_option linter.unusedSimpArgs false

theorem getI_mem {l : List Int} {i : Nat} (h : i < l.length) : l.getD i 0 ∈ l := by
  rw [List.getD_eq_getElem?_getD, List.getElem?_eq_getElem h]
  exact List.getElem_mem h
theorem mem_getI {l : List Int} {x : Int} (h : x ∈ l) : ∃ i, i < l.length ∧ l.getD i 0 = x := by
  obtain ⟨i, hi, e⟩ := List.mem_iff_getElem.1 h
  exact ⟨i, hi, by rw [List.getD_eq_getElem?_getD, List.getElem?_eq_getElem hi]; exact e⟩
theorem setI_same {l : List Int} {i : Nat} {x : Int} (h : i < l.length) : (l.set i x).getD i 0 = x := by simp [List.getD, h]
theorem setI_other {l : List Int} {i j : Nat} {x : Int} (h : i ≠ j) : (l.set i x).getD j 0 = l.getD j 0 := by
  simp only [List.getD_eq_getElem?_getD]
  rw [List.getElem?_set_ne h]
theorem mapI_at {α : Type} (f : Nat → α) (d : α) {n i : Nat} (h : i < n) : ((List.range n).map f).getD i d = f i := by simp [List.getD, h]

/-- All are 0 to n - 1. -/
def goodI (n : Int) (zs : List Int) : Bool := zs.all fun z => decide (0 ≤ z) && decide (z < n)
theorem goodI_iff {n : Int} {zs : List Int} : goodI n zs = true ↔ ∀ z ∈ zs, 0 ≤ z ∧ z < n := by simp [goodI]
theorem goodI_of {n : Int} {zs : List Int} (h : ∀ j, j < zs.length → 0 ≤ zs.getD j 0 ∧ zs.getD j 0 < n) : goodI n zs = true :=
  goodI_iff.2 fun z hz => by obtain ⟨i, hi, rfl⟩ := mem_getI hz; exact h i hi
theorem goodI_at {n : Int} {zs : List Int} (h : goodI n zs = true) {j : Nat} (hj : j < zs.length) : 0 ≤ zs.getD j 0 ∧ zs.getD j 0 < n := goodI_iff.1 h _ (getI_mem hj)
theorem goodI_bad {n : Int} {zs : List Int} {j : Nat} (hj : j < zs.length) (h : zs.getD j 0 < 0 ∨ n ≤ zs.getD j 0) : goodI n zs = false := by
  rw [Bool.eq_false_iff]
  intro hg
  have := goodI_at hg hj
  omega
/-- k may be, and each key is 0 to k - 1. -/
def fitB (zs : List Int) (k : Int) : Bool := decide (0 ≤ k) && decide (k ≤ 1048576) && goodI k zs
theorem fitB_iff {zs : List Int} {k : Int} : fitB zs k = true ↔ 0 ≤ k ∧ k ≤ 1048576 ∧ goodI k zs = true := by simp [fitB, and_assoc]
theorem fitB_eq {zs : List Int} {k : Int} (h0 : 0 ≤ k) (h1 : k ≤ 1048576) : fitB zs k = goodI k zs := by simp [fitB, h0, h1]
theorem fitB_neg {zs : List Int} {k : Int} (h : k < 0) : fitB zs k = false := by simp [fitB]; omega
theorem fitB_big {zs : List Int} {k : Int} (h : 1048576 < k) : fitB zs k = false := by simp [fitB]; omega

/-- Go's numbers as natural ones. -/
def toN (zs : List Int) : List Nat := zs.map Int.toNat
theorem toN_len (zs : List Int) : (toN zs).length = zs.length := List.length_map _
theorem toN_at (zs : List Int) (i : Nat) : (toN zs).getD i 0 = (zs.getD i 0).toNat := by
  simp only [toN, List.getD_eq_getElem?_getD, List.getElem?_map]
  cases zs[i]? <;> rfl
theorem toN_nat (l : List Nat) : toN (natL l) = l := by
  unfold toN natL
  rw [List.map_map]
  conv => rhs; rw [← List.map_id l]
  rfl
theorem natL_toN {n : Int} {zs : List Int} (h : goodI n zs = true) : natL (toN zs) = zs := by
  refine getD_ext (by rw [natL_len, toN_len]) fun k hk => ?_
  rw [natL_len, toN_len] at hk
  have := goodI_at h hk
  rw [natL_at, toN_at]
  omega
theorem good_nat {n : Nat} {l : List Nat} (h : ∀ x ∈ l, x < n) : goodI (n : Int) (natL l) = true := by
  rw [goodI_iff]
  intro z hz
  obtain ⟨x, hx, rfl⟩ := List.mem_map.1 hz
  have := h x hx
  omega

/-- How often q stands among the first i. -/
def cntI (zs : List Int) (q : Nat) : Nat → Nat
  | 0 => 0
  | i + 1 => cntI zs q i + if zs.getD i 0 = (q : Int) then 1 else 0
theorem cntI_le (zs : List Int) (q i : Nat) : cntI zs q i ≤ i := by
  induction i with
  | zero => exact Nat.le_refl _
  | succ i ih => unfold cntI; split <;> omega
theorem cntI_succ (zs : List Int) (q i : Nat) : cntI zs q (i + 1) = cntI zs q i + if zs.getD i 0 = (q : Int) then 1 else 0 := rfl
theorem cntI_same {zs : List Int} {q i : Nat} (h : zs.getD i 0 = (q : Int)) : cntI zs q (i + 1) = cntI zs q i + 1 := by rw [cntI_succ, if_pos h]
theorem cntI_other {zs : List Int} {q i : Nat} (h : zs.getD i 0 ≠ (q : Int)) : cntI zs q (i + 1) = cntI zs q i := by rw [cntI_succ, if_neg h]; omega
def cntsI (zs : List Int) (K : Nat) : List Nat := (List.range K).map fun q => cntI zs q zs.length
theorem cntsI_len (zs : List Int) (K : Nat) : (cntsI zs K).length = K := by simp [cntsI]
theorem cntsI_at (zs : List Int) {K q : Nat} (h : q < K) : (cntsI zs K).getD q 0 = cntI zs q zs.length := mapI_at _ _ h
theorem cntI_pick {ps : List Nat} {key : Nat → Nat} {zs : List Int} (hz : ∀ j, j < ps.length → zs.getD j 0 = (key (ps.getD j 0) : Int)) (q : Nat) : ∀ i, i ≤ ps.length → cntI zs q i = (pick (ps.take i) key q).length := by
  intro i
  induction i with
  | zero => intro _; simp [cntI, pick]
  | succ i ih =>
    intro hi
    have h1 := hz i (by omega)
    rw [takeN_succ (by omega)]
    by_cases e : key (ps.getD i 0) = q
    · rw [pick_snoc_same e, cntI_same (by rw [h1, e]), ih (by omega), List.length_append]; rfl
    · rw [pick_snoc_other e, cntI_other (by rw [h1]; omega), ih (by omega)]

/-- How many there are ahead, together. -/
def sumI (cs : List Int) : Nat → Int
  | 0 => 0
  | i + 1 => sumI cs i + cs.getD i 0
def startsI (cs : List Int) : List Int := (List.range cs.length).map (sumI cs)
theorem startsI_len (cs : List Int) : (startsI cs).length = cs.length := by simp [startsI]
theorem startsI_at (cs : List Int) {i : Nat} (h : i < cs.length) : (startsI cs).getD i 0 = sumI cs i := mapI_at _ _ h
theorem sumI_le {cs : List Int} {b : Int} (h : ∀ j, j < cs.length → -b ≤ cs.getD j 0 ∧ cs.getD j 0 ≤ b) : ∀ i : Nat, i ≤ cs.length → -(i * b) ≤ sumI cs i ∧ sumI cs i ≤ i * b := by
  intro i
  induction i with
  | zero => intro _; simp [sumI]
  | succ i ih =>
    intro hi
    have h1 := ih (by omega)
    have h2 := h i (by omega)
    have e : ((i + 1 : Nat) : Int) * b = i * b + b := by rw [Int.natCast_add, Int.add_mul]; simp
    rw [e]
    unfold sumI
    omega
theorem sum_offs {ps : List Nat} {key : Nat → Nat} {K : Nat} {bs : List Nat} (hb : ∀ q, q < K → bs.getD q 0 = (pick ps key q).length) : ∀ q, q ≤ K → sumI (natL bs) q = (offs ps key q : Int) := by
  intro q
  induction q with
  | zero => intro _; rfl
  | succ q ih =>
    intro hq
    unfold sumI
    rw [ih (by omega), natL_at, hb q (by omega), offs_succ]
    simp

/-- Which numbers a pass may take, and what it makes of them. -/
def passB (os ks : List Int) (k : Int) : Bool := fitB ks k && goodI (ks.length : Int) os
def keyN (ks : List Int) (p : Nat) : Nat := (ks.getD p 0).toNat
def passI (os ks : List Int) (k : Int) : List Int := if passB os ks k = true then natL (csort k.toNat (toN os) (keyN ks)) else []
theorem passI_yes {os ks : List Int} {k : Int} (h : passB os ks k = true) : passI os ks k = natL (csort k.toNat (toN os) (keyN ks)) := if_pos h
theorem passI_no {os ks : List Int} {k : Int} (h : passB os ks k = false) : passI os ks k = [] := by unfold passI; rw [h]; rfl
theorem passB_iff {os ks : List Int} {k : Int} : passB os ks k = true ↔ fitB ks k = true ∧ goodI (ks.length : Int) os = true := by simp [passB]
theorem keyN_lt {ks : List Int} {k : Int} (h : fitB ks k = true) {p : Nat} (hp : p < ks.length) : keyN ks p < k.toNat := by
  have := goodI_at (fitB_iff.1 h).2.2 hp
  unfold keyN
  omega
theorem passB_key {os ks : List Int} {k : Int} (h : passB os ks k = true) : ∀ p ∈ toN os, keyN ks p < k.toNat := by
  intro p hp
  obtain ⟨h1, h2⟩ := passB_iff.1 h
  obtain ⟨z, hz, rfl⟩ := List.mem_map.1 hp
  have := goodI_iff.1 h2 z hz
  exact keyN_lt h1 (by omega)
/-- The keys of an order's places. -/
def ownI (os ks : List Int) : List Int := os.map fun z => ks.getD z.toNat 0
theorem ownI_len (os ks : List Int) : (ownI os ks).length = os.length := List.length_map _
theorem ownI_at (os ks : List Int) {j : Nat} (h : j < os.length) : (ownI os ks).getD j 0 = ks.getD (os.getD j 0).toNat 0 := by simp [ownI, List.getD, h]
theorem ownI_key {os ks : List Int} {k : Int} (h : passB os ks k = true) {j : Nat} (hj : j < os.length) : (ownI os ks).getD j 0 = (keyN ks ((toN os).getD j 0) : Int) := by
  obtain ⟨h1, h2⟩ := passB_iff.1 h
  have h3 := goodI_at h2 hj
  have h4 := goodI_at (fitB_iff.1 h1).2.2 (j := (os.getD j 0).toNat) (by omega)
  rw [ownI_at _ _ hj, toN_at]
  unfold keyN
  omega
theorem ownI_fit {os ks : List Int} {k : Int} (h : passB os ks k = true) : fitB (ownI os ks) k = true := by
  obtain ⟨h1, h2⟩ := passB_iff.1 h
  obtain ⟨h3, h4, h5⟩ := fitB_iff.1 h1
  refine fitB_iff.2 ⟨h3, h4, goodI_of fun j hj => ?_⟩
  rw [ownI_len] at hj
  have := goodI_at h2 hj
  rw [ownI_at _ _ hj]
  exact goodI_at h5 (by omega)

/-- The document's insertion. -/
theorem mem_csort {K : Nat} {ps : List Nat} {key : Nat → Nat} {x : Nat} (h : x ∈ csort K ps key) : x ∈ ps ∧ key x < K := by
  obtain ⟨q, hq, hx⟩ := List.mem_flatMap.1 h
  obtain ⟨h1, h2⟩ := List.mem_filter.1 hx
  have := List.mem_range.1 hq
  have e : key x = q := by simpa using h2
  exact ⟨h1, by omega⟩
theorem csort_snoc_lt {ps : List Nat} {key : Nat → Nat} {p : Nat} : ∀ {K : Nat}, K ≤ key p → csort K (ps ++ [p]) key = csort K ps key := by
  intro K
  induction K with
  | zero => intro _; rfl
  | succ K ih => intro h; rw [csort_succ, csort_succ, ih (by omega), pick_snoc_other (by omega)]
theorem csort_snoc {ps : List Nat} {key : Nat → Nat} {p : Nat} : ∀ {K : Nat}, key p < K → ∃ R, csort K ps key = csort (key p + 1) ps key ++ R ∧ csort K (ps ++ [p]) key = csort (key p + 1) ps key ++ [p] ++ R ∧ ∀ x ∈ R, key p < key x := by
  intro K
  induction K with
  | zero => intro h; omega
  | succ K ih =>
    intro h
    by_cases hK : key p < K
    · obtain ⟨R, h1, h2, h3⟩ := ih hK
      refine ⟨R ++ pick ps key K, ?_, ?_, fun x hx => ?_⟩
      · rw [csort_succ, h1, List.append_assoc]
      · rw [csort_succ, h2, pick_snoc_other (by omega), List.append_assoc]
      · rcases List.mem_append.1 hx with hx | hx
        · exact h3 x hx
        · have : key x = K := by simpa using (List.mem_filter.1 hx).2
          omega
    · have e : key p = K := by omega
      refine ⟨[], ?_, ?_, fun x hx => by cases hx⟩
      · rw [e]; simp
      · rw [csort_succ, csort_snoc_lt (by omega), pick_snoc_same e, List.append_nil, e, csort_succ, List.append_assoc]
theorem ins_place {K : Nat} {ps : List Nat} {key : Nat → Nat} {p j : Nat} (hk : key p < K) (hj : j ≤ (csort K ps key).length) (h1 : ∀ m, j ≤ m → m < (csort K ps key).length → key p < key ((csort K ps key).getD m 0))
    (h2 : j = 0 ∨ key ((csort K ps key).getD (j - 1) 0) ≤ key p) : (csort K ps key).take j ++ [p] ++ (csort K ps key).drop j = csort K (ps ++ [p]) key := by
  obtain ⟨R, e1, e2, e3⟩ := csort_snoc (ps := ps) hk
  have hA : ∀ x ∈ csort (key p + 1) ps key, key x ≤ key p := fun x hx => by have := (mem_csort hx).2; omega
  rw [e2]
  rw [e1] at hj h1 h2 ⊢
  generalize csort (key p + 1) ps key = A at *
  have hjA : j = A.length := by
    rcases Nat.lt_trichotomy j A.length with g | g | g
    · have h3 := h1 j (Nat.le_refl _) (by rw [List.length_append]; omega)
      have e : (A ++ R).getD j 0 = A.getD j 0 := by
        simp only [List.getD_eq_getElem?_getD]
        rw [List.getElem?_append_left g]
      rw [e] at h3
      have := hA _ (getN_mem g)
      omega
    · exact g
    · rcases h2 with h2 | h2
      · omega
      · rw [List.length_append] at hj
        have e : (A ++ R).getD (j - 1) 0 = R.getD (j - 1 - A.length) 0 := by
          simp only [List.getD_eq_getElem?_getD]
          rw [List.getElem?_append_right (by omega)]
        rw [e] at h2
        have := e3 _ (getN_mem (l := R) (i := j - 1 - A.length) (by omega))
        omega
  subst hjA
  rw [List.take_left, List.drop_left]
theorem pairN_at {R : Nat → Nat → Prop} {l : List Nat} (h : l.Pairwise R) {i j : Nat} (hij : i < j) (hj : j < l.length) : R (l.getD i 0) (l.getD j 0) := by
  have := List.pairwise_iff_getElem.1 h i j (by omega) hj hij
  simpa [List.getD, List.getElem?_eq_getElem hj, List.getElem?_eq_getElem (show i < l.length by omega)] using this
/-- A pass over all places. -/
theorem all_at {K n : Nat} {key : Nat → Nat} (hK : ∀ p, p < n → key p < K) : (csort K (List.range n) key).length = n ∧ (∀ i, i < n → (csort K (List.range n) key).getD i 0 < n) ∧
    (csort K (List.range n) key).Nodup ∧ ∀ i, i + 1 < n → key ((csort K (List.range n) key).getD i 0) < key ((csort K (List.range n) key).getD (i + 1) 0) ∨
      (key ((csort K (List.range n) key).getD i 0) = key ((csort K (List.range n) key).getD (i + 1) 0) ∧ (csort K (List.range n) key).getD i 0 < (csort K (List.range n) key).getD (i + 1) 0) := by
  have hp : (csort K (List.range n) key).Perm (List.range n) := csort_perm fun p hp => hK p (List.mem_range.1 hp)
  have hl : (csort K (List.range n) key).length = n := by rw [hp.length_eq, List.length_range]
  refine ⟨hl, fun i hi => List.mem_range.1 (hp.mem_iff.1 (getN_mem (by omega))), hp.nodup_iff.2 List.nodup_range, fun i hi => ?_⟩
  exact pairN_at (csort_sorted K key List.pairwise_lt_range) (Nat.lt_succ_self i) (by omega)
/-- By the lower key, then by the higher one. -/
theorem two_at {K n : Nat} {H L : Nat → Nat} (hH : ∀ p, p < n → H p < K) (hL : ∀ p, p < n → L p < K) {b : List Nat} (hb : b = csort K (csort K (List.range n) L) H) : b.length = n ∧ (∀ i, i < n → b.getD i 0 < n) ∧
    ∀ i, i + 1 < n → H (b.getD i 0) < H (b.getD (i + 1) 0) ∨ (H (b.getD i 0) = H (b.getD (i + 1) 0) ∧ (L (b.getD i 0) < L (b.getD (i + 1) 0) ∨ (L (b.getD i 0) = L (b.getD (i + 1) 0) ∧ b.getD i 0 < b.getD (i + 1) 0))) := by
  have hp : (csort K (List.range n) L).Perm (List.range n) := csort_perm fun p hp => hL p (List.mem_range.1 hp)
  have hq : (csort K (csort K (List.range n) L) H).Perm (csort K (List.range n) L) := csort_perm fun p h => hH p (List.mem_range.1 (hp.mem_iff.1 h))
  have hr := hq.trans hp
  have hs := csort_sorted K H (csort_sorted K L (List.pairwise_lt_range (n := n)))
  rw [← hb] at hr hs
  have hl : b.length = n := by rw [hr.length_eq, List.length_range]
  refine ⟨hl, fun i hi => List.mem_range.1 (hr.mem_iff.1 (getN_mem (by omega))), fun i hi => ?_⟩
  exact pairN_at hs (Nat.lt_succ_self i) (by omega)
end Go.Proofs.Ytmojnliljaefbaa
