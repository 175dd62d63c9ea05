/- Texts laid together: IndOrd, IndFold, IndAll, SaMath, SaRed, SaPart, EqInt, SaAlike, Mul, RepInt, Bools, KinSmall, KinFirst, IndIs, BktStarts, BktFit, BktCounts, IndEnds, IndPut, IndStep1, IndStep2, IndStep3. -/
import Derived.Test.YtokmlklcjipkiaaPart2
import Derived.Test.YtokmlklcjipkiaaPart1
import Derived.Lib.Mul64
import Derived.Laws.Bits64b
import Derived.Test.YtokmlklcjipkiaaRows
import Derived.Laws.CopyRow
import Derived.Laws.IdiomCopy
import Derived.BigRegion
import Derived.Laws.OwnMore
/- A scan that keeps an order; a scan from the other end. Plain numbers, no conditions. -/
namespace Go.Proofs.Ytokmlklcjipkiaa
set_option linter.unusedVariables false
set_option linter.unusedSimpArgs false

/-- An order that a scan keeps. -/
structure Ordered (n : Nat) (key : Nat → Nat) (T : Nat → Bool) (base P0 : List Nat) (lt : Nat → Nat → Prop) : Prop where
  o1 : ∀ a b, a < n → b < n → key a < key b → lt a b
  o2 : ∀ a b, a < n → b < n → key a = key b → T a = true → T b = false → lt a b
  o3 : ∀ a b, a + 1 < n → b + 1 < n → T a = true → T b = true → key a = key b → lt (a + 1) (b + 1) → lt a b
  o4 : ∀ a b, a ∈ P0 → b + 1 < n → T b = true → key a = key b → lt a b
  old : ∀ q, (pick base key q).Pairwise lt

theorem Scan.slots {n K : Nat} {key : Nat → Nat} {T : Nat → Bool} {base P0 P : List Nat} {i : Nat} {r : Nat → Int} {lt : Nat → Nat → Prop} (h : Scan n key T base P0 i P r) (b : Based n K key T base P0) (o : Ordered n key T base P0 lt) (hs : ∀ q, (pick P key q).Pairwise lt)
    {x y a c : Nat} (hxy : x < y) (hy : y < n) (ex : r x = (a : Int)) (ey : r y = (c : Int)) : lt a c := by
  have hrev : ∀ {q u}, u < (pick base key q).length → (pick base key q).reverse.getD u 0 ∈ base ∧ key ((pick base key q).reverse.getD u 0) = q := fun {q u} hu => by
    have := getN_mem (l := (pick base key q).reverse) (i := u) (by rw [List.length_reverse]; exact hu)
    rw [List.mem_reverse] at this
    exact pick_mem.1 this
  obtain ⟨q, t, _, ht, e1, h1⟩ := h.lay.cases b.hK (show x < n by omega)
  obtain ⟨q', t', _, ht', e2, h2⟩ := h.lay.cases b.hK hy
  rw [ex] at h1
  rw [ey] at h2
  have ka : key a = q ∧ a < n := by
    rcases h1 with ⟨a1, a2⟩ | ⟨a1, _, a2⟩ | a1
    · have := pick_get a1
      rw [show (pick P key q).getD t 0 = a by omega] at this
      exact ⟨this.2, (h.kind _ this.1).1⟩
    · have := hrev a1
      rw [show (pick base key q).reverse.getD (cntK n key q - 1 - t) 0 = a by omega] at this
      exact ⟨this.2, (b.kind _ this.1).1⟩
    · omega
  have kc : key c = q' ∧ c < n := by
    rcases h2 with ⟨a1, a2⟩ | ⟨a1, _, a2⟩ | a1
    · have := pick_get a1
      rw [show (pick P key q').getD t' 0 = c by omega] at this
      exact ⟨this.2, (h.kind _ this.1).1⟩
    · have := hrev a1
      rw [show (pick base key q').reverse.getD (cntK n key q' - 1 - t') 0 = c by omega] at this
      exact ⟨this.2, (b.kind _ this.1).1⟩
    · omega
  rcases Nat.lt_trichotomy q q' with hq | hq | hq
  · exact o.o1 a c ka.2 kc.2 (by omega)
  · subst hq
    rcases h1 with ⟨a1, a2⟩ | ⟨a1, a3, a2⟩ | a1
    · have m1 := pick_get a1
      have e3 : (pick P key q).getD t 0 = a := by omega
      rw [e3] at m1
      rcases h2 with ⟨b1, b2⟩ | ⟨b1, _, b2⟩ | b1
      · have := pairN_at (hs q) (show t < t' by omega) b1
        rw [e3, show (pick P key q).getD t' 0 = c by omega] at this
        exact this
      · have m2 := hrev b1
        rw [show (pick base key q).reverse.getD (cntK n key q - 1 - t') 0 = c by omega] at m2
        exact o.o2 a c ka.2 kc.2 (by omega) (h.kind _ m1.1).2 (b.kind _ m2.1).2
      · omega
    · rcases h2 with ⟨b1, b2⟩ | ⟨b1, _, b2⟩ | b1
      · omega
      · rw [rev_get _ a1] at a2
        rw [rev_get _ b1] at b2
        have := pairN_at (o.old q) (i := (pick base key q).length - 1 - (cntK n key q - 1 - t)) (j := (pick base key q).length - 1 - (cntK n key q - 1 - t')) (by omega) (by omega)
        rw [show (pick base key q).getD ((pick base key q).length - 1 - (cntK n key q - 1 - t)) 0 = a by omega, show (pick base key q).getD ((pick base key q).length - 1 - (cntK n key q - 1 - t')) 0 = c by omega] at this
        exact this
      · omega
    · omega
  · have := offK_mono n key (show q' + 1 ≤ q from hq)
    rw [offK_succ] at this
    omega

/-- One more keeps the order. -/
theorem Scan.sorted {n K : Nat} {key : Nat → Nat} {T : Nat → Bool} {base P0 P : List Nat} {i p : Nat} {r : Nat → Int} {lt : Nat → Nat → Prop} (h : Scan n key T base P0 i P r) (b : Based n K key T base P0) (o : Ordered n key T base P0 lt) (hs : ∀ q, (pick P key q).Pairwise lt)
    (hi : i < n) (hr : r i = ((p + 1 : Nat) : Int)) (hT : T p = true) : ∀ q, (pick (P ++ [p]) key q).Pairwise lt := by
  intro q
  obtain ⟨g1, _⟩ := h.room b hi hr hT
  by_cases e : key p = q
  · subst e
    rw [pick_snoc_same rfl, List.pairwise_append]
    refine ⟨hs _, List.pairwise_singleton _ _, fun a ha c hc => ?_⟩
    simp only [List.mem_singleton] at hc
    subst hc
    obtain ⟨h1, h2⟩ := pick_mem.1 ha
    rcases h.src a h1 with h3 | ⟨x, h3, h4⟩
    · exact o.o4 a c h3 g1 hT h2
    · have h5 := h.slots b o hs h3 hi h4 hr
      have h6 : a + 1 < n := by
        rcases h.val b (show x < n by omega) with h7 | ⟨p', h7, h8⟩
        · omega
        · omega
      exact o.o3 a c h6 g1 (h.kind a h1).2 hT h2 h5
  · rw [pick_snoc_other e]
    exact hs q

/-- The keys the other way round. -/
def keyM (K : Nat) (key : Nat → Nat) (p : Nat) : Nat := K - 1 - key p
theorem pick_mirror {K n : Nat} {key : Nat → Nat} (hK : ∀ p, p < n → key p < K) {P : List Nat} (hP : ∀ p ∈ P, p < n) {q : Nat} (hq : q < K) : pick P (keyM K key) (K - 1 - q) = pick P key q := by
  unfold pick keyM
  refine List.filter_congr fun p hp => ?_
  have := hK p (hP p hp)
  rw [Bool.eq_iff_iff]
  simp only [beq_iff_eq]
  omega
theorem pick_mirror_of {K n : Nat} {key : Nat → Nat} (hK : ∀ p, p < n → key p < K) {P : List Nat} (hP : ∀ p ∈ P, p < n) {q : Nat} (h : 0 < (pick P (keyM K key) q).length) : ∃ q', q' < K ∧ q = K - 1 - q' := by
  have := pick_get h
  have h2 := hK _ (hP _ this.1)
  exact ⟨_, h2, this.2.symm⟩
theorem cntK_mirror {K n : Nat} {key : Nat → Nat} (hK : ∀ p, p < n → key p < K) {q : Nat} (hq : q < K) : cntK n (keyM K key) (K - 1 - q) = cntK n key q := by
  unfold cntK
  rw [pick_mirror hK (fun p hp => List.mem_range.1 hp) hq]
theorem offK_count (n : Nat) (key : Nat → Nat) (q : Nat) : offK n key q = ((List.range n).filter fun p => decide (key p < q)).length := (csort_perm_lt (List.range n) key q).length_eq
theorem offK_mirror {K n : Nat} {key : Nat → Nat} (hK : ∀ p, p < n → key p < K) {q : Nat} (hq : q ≤ K) : offK n (keyM K key) (K - q) + offK n key q = n := by
  rw [offK_count, offK_count]
  have h := (List.filter_append_perm (fun p => decide (key p < q)) (List.range n)).length_eq
  rw [List.length_append, List.length_range] at h
  have e : ((List.range n).filter fun p => decide (keyM K key p < K - q)) = (List.range n).filter fun p => !decide (key p < q) := by
    refine List.filter_congr fun p hp => ?_
    have := hK p (List.mem_range.1 hp)
    unfold keyM
    rw [Bool.eq_iff_iff]
    simp only [Bool.not_eq_true', decide_eq_true_eq, decide_eq_false_iff_not]
    omega
  rw [e]
  omega
theorem keyM_lt {K n : Nat} {key : Nat → Nat} (hK : ∀ p, p < n → key p < K) : ∀ p, p < n → keyM K key p < K := fun p hp => by
  have := hK p hp
  unfold keyM
  omega

/-- The same, from the other end. -/
theorem Lay.mirror {n K : Nat} {key : Nat → Nat} {base P : List Nat} {r r' : Nat → Int} (h : Lay n key base P r) (hK : ∀ p, p < n → key p < K) (hPn : ∀ p ∈ P, p < n) (hBn : ∀ p ∈ base, p < n) (hc : ∀ q, (pick P key q).length + (pick base key q).length ≤ cntK n key q)
    (hr : ∀ x, x < n → r' x = r (n - 1 - x)) : Lay n (keyM K key) P.reverse base.reverse r' := by
  have hPr : ∀ p ∈ P.reverse, p < n := fun p hp => hPn p (List.mem_reverse.1 hp)
  have hBr : ∀ p ∈ base.reverse, p < n := fun p hp => hBn p (List.mem_reverse.1 hp)
  refine ⟨fun q' t ht => ?_, fun q' u hu => ?_, fun q' t ht ht1 ht2 => ?_⟩
  · obtain ⟨q, hq, rfl⟩ := pick_mirror_of hK hBr (show 0 < (pick base.reverse (keyM K key) q').length by omega)
    rw [pick_mirror hK hBr hq, pick_rev] at ht ⊢
    rw [List.length_reverse] at ht
    have h1 := offK_mirror hK (show q + 1 ≤ K from hq)
    rw [show K - (q + 1) = K - 1 - q by omega] at h1
    have h2 := hc q
    have h3 := offK_succ n key q
    rw [hr _ (by omega), ← h.old q t ht]
    congr 1
    omega
  · obtain ⟨q, hq, rfl⟩ := pick_mirror_of hK hPr (show 0 < (pick P.reverse (keyM K key) q').length by omega)
    rw [pick_mirror hK hPr hq, pick_rev] at hu ⊢
    rw [List.length_reverse] at hu
    rw [List.reverse_reverse]
    have h1 := offK_mirror hK (show q ≤ K by omega)
    have h2 := hc q
    have h4 := offK_lt hK hq (show u < cntK n key q by omega)
    rw [show K - 1 - q + 1 = K - q by omega, hr _ (by omega), ← h.put q u hu]
    congr 1
    omega
  · obtain ⟨q, hq, rfl⟩ := pick_mirror_of hK (fun p hp => List.mem_range.1 hp) (show 0 < (pick (List.range n) (keyM K key) q').length by unfold cntK at ht; omega)
    rw [cntK_mirror hK hq] at ht ht2
    rw [pick_mirror hK hBr hq, pick_rev, List.length_reverse] at ht1
    rw [pick_mirror hK hPr hq, pick_rev, List.length_reverse] at ht2
    have h1 := offK_mirror hK (show q + 1 ≤ K from hq)
    rw [show K - (q + 1) = K - 1 - q by omega] at h1
    have h3 := offK_succ n key q
    have h4 := offK_lt hK hq ht
    rw [hr _ (by omega), ← h.none q (cntK n key q - 1 - t) (by omega) (by omega) (by omega)]
    congr 1
    omega
/-- All in, key by key. -/
theorem Lay.full {n K : Nat} {key : Nat → Nat} {base P : List Nat} {r : Nat → Int} (h : Lay n key base P r) (hK : ∀ p, p < n → key p < K) (hp : (P ++ base).Perm (List.range n)) {row : List Int} (hl : row.length = n) (hr : ∀ x, x < n → row.getD x 0 = r x) : row = natL (csort K (P ++ base) key) := by
  have hlen : (csort K (P ++ base) key).length = n := by
    have := (csort_perm (K := K) (ps := P ++ base) (key := key) fun p hq => hK p (List.mem_range.1 (hp.mem_iff.1 hq))).length_eq
    rw [this, hp.length_eq, List.length_range]
  have hcnt : ∀ q, cntK n key q = (pick P key q).length + (pick base key q).length := fun q => by
    rw [← List.length_append, ← pick_app]
    exact ((hp.filter _).length_eq).symm
  have hoff : ∀ q, offs (P ++ base) key q = offK n key q := fun q => by
    rw [offK_count]
    unfold offs
    rw [(csort_perm_lt (P ++ base) key q).length_eq]
    exact (hp.filter _).length_eq
  refine getD_ext (by rw [hl, natL_len, hlen]) fun x hx => ?_
  rw [hl] at hx
  obtain ⟨q, t, h1, h2, h3, h4⟩ := h.cases hK hx
  rw [hr x hx, natL_at, h3, ← hoff, csort_at (P ++ base) key h1 (by rw [pick_app, List.length_append]; have := hcnt q; omega), hoff, ← h3, pick_app]
  have hc := hcnt q
  rcases h4 with ⟨a1, a2⟩ | ⟨a1, a3, a2⟩ | a1
  · rw [a2]
    simp only [List.getD_eq_getElem?_getD]
    rw [List.getElem?_append_left a1]
  · rw [a2, rev_get _ a1]
    simp only [List.getD_eq_getElem?_getD]
    rw [List.getElem?_append_right a3]
    congr 3
    omega
  · exfalso
    by_cases hP : t < (pick P key q).length
    · have := h.put q t hP
      rw [← h3, a1] at this
      omega
    · have := h.old q (cntK n key q - 1 - t) (by omega)
      rw [offK_succ, show offK n key q + cntK n key q - 1 - (cntK n key q - 1 - t) = x by omega, a1] at this
      omega
end Go.Proofs.Ytokmlklcjipkiaa

/- The three steps of induced sorting, as rows. Plain numbers, no conditions. -/
namespace Go.Proofs.Ytokmlklcjipkiaa
set_option linter.unusedVariables false
set_option linter.unusedSimpArgs false

/-- A place goes to the beginning, or to the end, of what its key's row has left. -/
def putB (s : List Int) (st : List Int × List Nat) (p : Nat) : List Int × List Nat := (st.1.set (st.2.getD (keyN s p) 0) (p : Int), st.2.set (keyN s p) (st.2.getD (keyN s p) 0 + 1))
def putE (s : List Int) (st : List Int × List Nat) (p : Nat) : List Int × List Nat := (st.1.set (st.2.getD (keyN s p) 0 - 1) (p : Int), st.2.set (keyN s p) (st.2.getD (keyN s p) 0 - 1))
def begN (s : List Int) (K : Nat) : List Nat := (List.range K).map (offK s.length (keyN s))
def endN (s : List Int) (K : Nat) : List Nat := (List.range K).map fun q => offK s.length (keyN s) (q + 1)
def stepB (s : List Int) (st : List Int × List Nat) (j : Int) : List Int × List Nat := if 0 < j ∧ smB s (j - 1).toNat = false then putB s st (j - 1).toNat else st
def stepE (s : List Int) (st : List Int × List Nat) (j : Int) : List Int × List Nat := if 0 < j ∧ smB s (j - 1).toNat = true then putE s st (j - 1).toNat else st
/-- The first step, m of first. -/
def st1 (s : List Int) (K : Nat) (F : List Nat) : Nat → List Int × List Nat
  | 0 => (List.replicate s.length (-1), endN s K)
  | m + 1 => putE s (st1 s K F m) (F.getD (F.length - 1 - m) 0)
/-- The second step: n first, then i of the row. -/
def st2 (s : List Int) (K : Nat) (F : List Nat) : Nat → List Int × List Nat
  | 0 => ((st1 s K F F.length).1, begN s K)
  | i + 1 => stepB s (st2 s K F i) (if i = 0 then (s.length : Int) else (st2 s K F i).1.getD (i - 1) 0)
def outI (s : List Int) (row : List Int) : List Int := row.map fun j => if 0 ≤ j ∧ smB s j.toNat = true then -1 else j
/-- The third step, m of the row from its end. -/
def st3 (s : List Int) (K : Nat) (F : List Nat) : Nat → List Int × List Nat
  | 0 => (outI s (st2 s K F (s.length + 1)).1, endN s K)
  | m + 1 => stepE s (st3 s K F m) ((st3 s K F m).1.getD (s.length - 1 - m) 0)
def indI (s : List Int) (K : Nat) (F : List Nat) : List Int := (st3 s K F s.length).1

theorem outI_len (s row : List Int) : (outI s row).length = row.length := List.length_map _
theorem outI_at (s row : List Int) {i : Nat} (h : i < row.length) : (outI s row).getD i 0 = if 0 ≤ row.getD i 0 ∧ smB s (row.getD i 0).toNat = true then -1 else row.getD i 0 := by simp [outI, List.getD, h]

/-- The numbers fit their keys. -/
structure Fits (s : List Int) (K : Nat) : Prop where
  lt : ∀ p, p < s.length → keyN s p < K
  num : ∀ p, p < s.length → s.getD p 0 = (keyN s p : Int)
theorem Fits.of {s : List Int} {k : Int} (h : fitB s k = true) : Fits s k.toNat :=
  ⟨fun p hp => keyN_lt h hp, fun p hp => by have := goodI_at (fitB_iff.1 h).2.2 hp; unfold keyN; omega⟩
/-- The first places, in some order. -/
structure Firsts (s : List Int) (F : List Nat) : Prop where
  perm : F.Perm (firstN s)
theorem Firsts.kind {s : List Int} {F : List Nat} (h : Firsts s F) : ∀ p ∈ F, p < s.length ∧ fsB s p = true := fun p hp => firN_mem.1 (h.perm.mem_iff.1 hp)
theorem Firsts.nodup {s : List Int} {F : List Nat} (h : Firsts s F) : F.Nodup := h.perm.nodup_iff.2 ((firN_sorted s s.length).imp fun h => Nat.ne_of_lt h)
theorem fsB_iff {s : List Int} {p : Nat} : fsB s p = true ↔ 1 ≤ p ∧ smB s p = true ∧ smB s (p - 1) = false := by simp [fsB]

theorem revI_at (l : List Int) {x : Nat} (h : x < l.length) : l.reverse.getD x 0 = l.getD (l.length - 1 - x) 0 := by
  simp only [List.getD_eq_getElem?_getD]
  rw [List.getElem?_reverse h]
theorem revI_out (l : List Int) {x : Nat} (h : l.length ≤ x) : l.reverse.getD x 0 = 0 := by
  simp only [List.getD_eq_getElem?_getD]
  rw [List.getElem?_eq_none (by rw [List.length_reverse]; exact h)]
  rfl

/-- A state whose rows are laid from their ends. -/
structure EndS (s : List Int) (K : Nat) (P : List Nat) (st : List Int × List Nat) : Prop where
  rl : st.1.length = s.length
  pl : st.2.length = K
  ptr : ∀ c, c < K → st.2.getD c 0 + (pick P (keyN s) c).length = offK s.length (keyN s) (c + 1)
structure BegS (s : List Int) (K : Nat) (P : List Nat) (st : List Int × List Nat) : Prop where
  rl : st.1.length = s.length
  pl : st.2.length = K
  ptr : ∀ c, c < K → st.2.getD c 0 = offK s.length (keyN s) c + (pick P (keyN s) c).length

theorem EndS.put {s : List Int} {K p : Nat} {P : List Nat} {st : List Int × List Nat} (h : EndS s K P st) (f : Fits s K) (hP : ∀ p ∈ P, p < s.length) (hp : p < s.length) (hc : (pick P (keyN s) (keyN s p)).length < cntK s.length (keyN s) (keyN s p)) :
    EndS s K (P ++ [p]) (putE s st p) ∧ 1 ≤ st.2.getD (keyN s p) 0 ∧ st.2.getD (keyN s p) 0 ≤ s.length ∧
    (putE s st p).1.reverse.getD (offK s.length (keyM K (keyN s)) (keyM K (keyN s) p) + (pick P (keyM K (keyN s)) (keyM K (keyN s) p)).length) 0 = (p : Int) ∧
    ∀ x, x ≠ offK s.length (keyM K (keyN s)) (keyM K (keyN s) p) + (pick P (keyM K (keyN s)) (keyM K (keyN s) p)).length → (putE s st p).1.reverse.getD x 0 = st.1.reverse.getD x 0 := by
  have hk := f.lt p hp
  have h1 := h.ptr _ hk
  have h2 := offK_succ s.length (keyN s) (keyN s p)
  have h3 := offK_mirror f.lt (show keyN s p + 1 ≤ K from hk)
  have e1 : pick P (keyM K (keyN s)) (keyM K (keyN s) p) = pick P (keyN s) (keyN s p) := pick_mirror f.lt hP hk
  have e2 : keyM K (keyN s) p = K - (keyN s p + 1) := by unfold keyM; omega
  rw [e1, e2]
  have hl : (putE s st p).1.length = s.length := by unfold putE; simp only [List.length_set]; exact h.rl
  refine ⟨⟨hl, by unfold putE; simp only [List.length_set]; exact h.pl, fun c hc2 => ?_⟩, by omega, by omega, ?_, fun x hx => ?_⟩
  · unfold putE
    simp only
    by_cases e : keyN s p = c
    · subst e
      rw [set_same (by rw [h.pl]; exact hk), pick_snoc_same rfl, List.length_append, List.length_singleton]
      omega
    · rw [set_other e, pick_snoc_other e]
      exact h.ptr c hc2
  · rw [revI_at _ (by rw [hl]; omega), hl]
    unfold putE
    simp only
    rw [show s.length - 1 - (offK s.length (keyM K (keyN s)) (K - (keyN s p + 1)) + (pick P (keyN s) (keyN s p)).length) = st.2.getD (keyN s p) 0 - 1 by omega, setI_same (by rw [h.rl]; omega)]
  · by_cases hxn : x < s.length
    · rw [revI_at _ (by rw [hl]; exact hxn), revI_at _ (by rw [h.rl]; exact hxn), hl, h.rl]
      unfold putE
      simp only
      rw [setI_other (by omega)]
    · rw [revI_out _ (by rw [hl]; omega), revI_out _ (by rw [h.rl]; omega)]

theorem BegS.put {s : List Int} {K p : Nat} {P : List Nat} {st : List Int × List Nat} (h : BegS s K P st) (f : Fits s K) (hp : p < s.length) (hc : (pick P (keyN s) (keyN s p)).length < cntK s.length (keyN s) (keyN s p)) :
    BegS s K (P ++ [p]) (putB s st p) ∧ st.2.getD (keyN s p) 0 < s.length ∧ (putB s st p).1.getD (offK s.length (keyN s) (keyN s p) + (pick P (keyN s) (keyN s p)).length) 0 = (p : Int) ∧
    ∀ x, x ≠ offK s.length (keyN s) (keyN s p) + (pick P (keyN s) (keyN s p)).length → (putB s st p).1.getD x 0 = st.1.getD x 0 := by
  have hk := f.lt p hp
  have h1 := h.ptr _ hk
  have h2 := offK_lt f.lt hk hc
  refine ⟨⟨by unfold putB; simp only [List.length_set]; exact h.rl, by unfold putB; simp only [List.length_set]; exact h.pl, fun c hc2 => ?_⟩, by omega, ?_, fun x hx => ?_⟩
  · unfold putB
    simp only
    by_cases e : keyN s p = c
    · subst e
      rw [set_same (by rw [h.pl]; exact hk), pick_snoc_same rfl, List.length_append, List.length_singleton]
      omega
    · rw [set_other e, pick_snoc_other e]
      exact h.ptr c hc2
  · unfold putB
    simp only
    rw [← h1, setI_same (by rw [h.rl]; omega)]
  · unfold putB
    simp only
    rw [setI_other (by omega)]

/-- The first step. -/
theorem st1_all {s : List Int} {K : Nat} {F : List Nat} (f : Fits s K) (hF : F.Nodup) (hFn : ∀ p ∈ F, p < s.length) : ∀ m, m ≤ F.length → EndS s K (F.reverse.take m) (st1 s K F m) ∧ Lay s.length (keyM K (keyN s)) [] (F.reverse.take m) (fun x => (st1 s K F m).1.reverse.getD x 0) := by
  have hRn : ∀ m, ∀ p ∈ F.reverse.take m, p < s.length := fun m p hp => hFn p (List.mem_reverse.1 (List.mem_of_mem_take hp))
  have hRd : ∀ m, (F.reverse.take m).Nodup := fun m => List.Pairwise.sublist (List.take_sublist _ _) (List.pairwise_reverse.2 (hF.imp fun h => Ne.symm h))
  intro m
  induction m with
  | zero =>
    intro _
    have hl : (st1 s K F 0).1.length = s.length := by simp [st1]
    refine ⟨⟨hl, by simp [st1, endN], fun c hc => ?_⟩, Lay.empty _ _ (fun x hx => ?_) fun q t ht => ?_⟩
    · simp only [st1, endN, List.take_zero]
      rw [mapI_at _ _ hc]
      simp [pick]
    · rw [revI_at _ (by rw [hl]; exact hx), hl]
      simp only [st1, List.getD_eq_getElem?_getD]
      rw [List.getElem?_replicate, if_pos (by omega)]
      rfl
    · obtain ⟨q', hq', rfl⟩ := pick_mirror_of f.lt (fun p hp => List.mem_range.1 hp) (show 0 < (pick (List.range s.length) (keyM K (keyN s)) q).length by unfold cntK at ht; omega)
      exact offK_lt (K := K) (keyM_lt f.lt) (by omega) ht
  | succ m ih =>
    intro hm
    obtain ⟨h1, h2⟩ := ih (by omega)
    have hlr : m < F.reverse.length := by rw [List.length_reverse]; omega
    have e : F.reverse.take (m + 1) = F.reverse.take m ++ [F.getD (F.length - 1 - m) 0] := by rw [takeN_succ hlr, rev_get _ (by omega)]
    have hp : F.getD (F.length - 1 - m) 0 < s.length := hFn _ (getN_mem (by omega))
    have hc : ∀ q, (pick (F.reverse.take (m + 1)) (keyN s) q).length ≤ cntK s.length (keyN s) q := fun q => by
      have := cnt_sub (key := keyN s) (hRd (m + 1)) List.nodup_nil (hRn (m + 1)) (fun _ h => by cases h) (fun _ _ h => by cases h) q
      omega
    have hcM : ∀ q, (pick (F.reverse.take (m + 1)) (keyM K (keyN s)) q).length ≤ cntK s.length (keyM K (keyN s)) q := fun q => by
      have := cnt_sub (key := keyM K (keyN s)) (hRd (m + 1)) List.nodup_nil (hRn (m + 1)) (fun _ h => by cases h) (fun _ _ h => by cases h) q
      omega
    rw [e] at hc hcM ⊢
    have hcp := hc (keyN s (F.getD (F.length - 1 - m) 0))
    rw [pick_snoc_same rfl, List.length_append, List.length_singleton] at hcp
    obtain ⟨g1, g2, g3, g4, g5⟩ := h1.put f (hRn m) hp (by omega)
    exact ⟨g1, h2.snoc (K := K) (fun q => by simpa [pick] using hcM q) g4 g5⟩

theorem st1_ok {s : List Int} {K : Nat} {F : List Nat} (f : Fits s K) (hF : Firsts s F) {m : Nat} (hm : m < F.length) : (st1 s K F m).1.length = s.length ∧ (st1 s K F m).2.length = K ∧ F.getD (F.length - 1 - m) 0 < s.length ∧ keyN s (F.getD (F.length - 1 - m) 0) < K ∧
    1 ≤ (st1 s K F m).2.getD (keyN s (F.getD (F.length - 1 - m) 0)) 0 ∧ (st1 s K F m).2.getD (keyN s (F.getD (F.length - 1 - m) 0)) 0 ≤ s.length := by
  have hn := hF.nodup
  have hFn : ∀ p ∈ F, p < s.length := fun p hp => (hF.kind p hp).1
  obtain ⟨h1, _⟩ := st1_all f hn hFn m (by omega)
  have hp : F.getD (F.length - 1 - m) 0 < s.length := hFn _ (getN_mem (by omega))
  have hlr : m < F.reverse.length := by rw [List.length_reverse]; omega
  have hc := cnt_sub (key := keyN s) (P := F.reverse.take (m + 1)) (List.Pairwise.sublist (List.take_sublist _ _) (List.pairwise_reverse.2 (hn.imp fun h => Ne.symm h))) List.nodup_nil (fun p hp => hFn p (List.mem_reverse.1 (List.mem_of_mem_take hp))) (fun _ h => by cases h) (fun _ _ h => by cases h) (keyN s (F.getD (F.length - 1 - m) 0))
  rw [takeN_succ hlr, rev_get _ (by omega), pick_snoc_same rfl, List.length_append, List.length_singleton] at hc
  obtain ⟨g1, g2, g3, _⟩ := h1.put f (fun p hp => hFn p (List.mem_reverse.1 (List.mem_of_mem_take hp))) hp (by omega)
  exact ⟨h1.rl, h1.pl, hp, f.lt _ hp, g2, g3⟩

/-- What the second step stands on. -/
def lgB (s : List Int) (p : Nat) : Bool := !smB s p
theorem based2 {s : List Int} {K : Nat} {F : List Nat} (f : Fits s K) (hF : Firsts s F) : Based s.length K (keyN s) (lgB s) F [s.length - 1] := by
  refine ⟨f.lt, hF.nodup, fun p hp => ?_, fun p hp => ?_, fun p hp hT => ?_⟩
  · obtain ⟨h1, h2⟩ := hF.kind p hp
    exact ⟨h1, by unfold lgB; rw [(fsB_iff.1 h2).2.1]; rfl⟩
  · simp only [List.mem_singleton] at hp
    omega
  · unfold lgB at *
    have h1 := f.num p (by omega)
    have h2 := f.num (p + 1) hp
    have hT' : smB s p = false := by simpa using hT
    constructor
    · apply Nat.le_of_not_lt
      intro hlt
      rw [smB_lt hp (by omega)] at hT'
      cases hT'
    · intro e
      rw [← smB_eq hp (by omega), hT']
      rfl
theorem based3 {s : List Int} {K : Nat} {P : List Nat} (f : Fits s K) (hn : P.Nodup) (hk : ∀ p ∈ P, p < s.length ∧ lgB s p = true) : Based s.length K (keyM K (keyN s)) (smB s) P.reverse [] := by
  refine ⟨keyM_lt f.lt, List.pairwise_reverse.2 (hn.imp fun h => Ne.symm h), fun p hp => ?_, (fun p hp => by cases hp), fun p hp hT => ?_⟩
  · obtain ⟨h1, h2⟩ := hk p (List.mem_reverse.1 hp)
    exact ⟨h1, by simpa [lgB] using h2⟩
  · have h1 := f.num p (by omega)
    have h2 := f.num (p + 1) hp
    have h3 := f.lt p (by omega)
    have h4 := f.lt (p + 1) hp
    unfold keyM
    constructor
    · have : keyN s p ≤ keyN s (p + 1) := by
        apply Nat.le_of_not_lt
        intro hlt
        rw [smB_gt hp (by omega)] at hT
        cases hT
      omega
    · intro e
      rw [← smB_eq hp (by omega), hT]

/-- A state of the second step, of the third one. -/
structure Two (s : List Int) (K : Nat) (F : List Nat) (i : Nat) (P : List Nat) (st : List Int × List Nat) : Prop where
  beg : BegS s K P st
  scan : Scan s.length (keyN s) (lgB s) F [s.length - 1] i P (fun x => st.1.getD x 0)
  ord : ∀ lt, Ordered s.length (keyN s) (lgB s) F [s.length - 1] lt → ∀ q, (pick P (keyN s) q).Pairwise lt
structure Three (s : List Int) (K : Nat) (B : List Nat) (i : Nat) (P : List Nat) (st : List Int × List Nat) : Prop where
  fin : EndS s K P st
  scan : Scan s.length (keyM K (keyN s)) (smB s) B [] i P (fun x => st.1.reverse.getD x 0)
  ord : ∀ lt, Ordered s.length (keyM K (keyN s)) (smB s) B [] lt → ∀ q, (pick P (keyM K (keyN s)) q).Pairwise lt

theorem Two.val {s : List Int} {K : Nat} {F P : List Nat} {i x : Nat} {st : List Int × List Nat} (h : Two s K F i P st) (b : Based s.length K (keyN s) (lgB s) F [s.length - 1]) (hx : x < s.length) : -1 ≤ st.1.getD x 0 ∧ st.1.getD x 0 < s.length := by
  rcases h.scan.val b hx with h1 | ⟨p, h1, h2⟩
  · omega
  · omega
theorem Two.ok {s : List Int} {K : Nat} {F P : List Nat} {i : Nat} {st : List Int × List Nat} (h : Two s K F i P st) (f : Fits s K) (b : Based s.length K (keyN s) (lgB s) F [s.length - 1]) (hi : i < s.length) {p : Nat} (hp : st.1.getD i 0 = ((p + 1 : Nat) : Int)) (hT : smB s p = false) :
    p < s.length ∧ keyN s p < K ∧ st.2.getD (keyN s p) 0 < s.length ∧ Two s K F (i + 1) (P ++ [p]) (putB s st p) := by
  have hT' : lgB s p = true := by unfold lgB; rw [hT]; rfl
  obtain ⟨g1, g2, g3, g4, g5⟩ := h.scan.room b hi hp hT'
  have hc := g3 (keyN s p)
  rw [pick_snoc_same rfl, List.length_append, List.length_singleton] at hc
  obtain ⟨k1, k2, k3, k4⟩ := h.beg.put f (show p < s.length by omega) (by omega)
  exact ⟨by omega, f.lt p (by omega), k2, k1, h.scan.next b hi hp hT' k3 k4, fun lt o => h.scan.sorted b o (h.ord lt o) hi hp hT'⟩
theorem Two.next {s : List Int} {K : Nat} {F P : List Nat} {i : Nat} {st : List Int × List Nat} (h : Two s K F i P st) (f : Fits s K) (b : Based s.length K (keyN s) (lgB s) F [s.length - 1]) (hi : i < s.length) : ∃ P', Two s K F (i + 1) P' (stepB s st (st.1.getD i 0)) := by
  unfold stepB
  by_cases hc : 0 < st.1.getD i 0 ∧ smB s (st.1.getD i 0 - 1).toNat = false
  · rw [if_pos hc]
    obtain ⟨p, hp⟩ : ∃ p : Nat, st.1.getD i 0 = ((p + 1 : Nat) : Int) := ⟨(st.1.getD i 0 - 1).toNat, by omega⟩
    have e : (st.1.getD i 0 - 1).toNat = p := by omega
    rw [e] at hc ⊢
    exact ⟨_, (h.ok f b hi hp hc.2).2.2.2⟩
  · rw [if_neg hc]
    refine ⟨P, h.beg, h.scan.skip fun p hp => ?_, h.ord⟩
    cases hs : smB s p
    · exfalso
      apply hc
      rw [hp]
      exact ⟨by omega, by rw [show (((p + 1 : Nat) : Int) - 1).toNat = p by omega]; exact hs⟩
    · unfold lgB; rw [hs]; rfl

theorem Three.val {s : List Int} {K : Nat} {B P : List Nat} {i x : Nat} {st : List Int × List Nat} (h : Three s K B i P st) (b : Based s.length K (keyM K (keyN s)) (smB s) B []) (hx : x < s.length) : -1 ≤ st.1.getD x 0 ∧ st.1.getD x 0 < s.length := by
  have hl := h.fin.rl
  have e : st.1.reverse.getD (s.length - 1 - x) 0 = st.1.getD x 0 := by
    rw [revI_at _ (by omega), hl]
    congr 1
    omega
  rcases h.scan.val b (show s.length - 1 - x < s.length by omega) with h1 | ⟨p, h1, h2⟩
  · omega
  · omega
theorem Three.ok {s : List Int} {K : Nat} {B P : List Nat} {i : Nat} {st : List Int × List Nat} (h : Three s K B i P st) (f : Fits s K) (b : Based s.length K (keyM K (keyN s)) (smB s) B []) (hi : i < s.length) {p : Nat} (hp : st.1.getD (s.length - 1 - i) 0 = ((p + 1 : Nat) : Int)) (hT : smB s p = true) :
    p < s.length ∧ keyN s p < K ∧ 1 ≤ st.2.getD (keyN s p) 0 ∧ st.2.getD (keyN s p) 0 ≤ s.length ∧ Three s K B (i + 1) (P ++ [p]) (putE s st p) := by
  have hl := h.fin.rl
  have hp' : st.1.reverse.getD i 0 = ((p + 1 : Nat) : Int) := by rw [revI_at _ (by omega), hl]; exact hp
  obtain ⟨g1, g2, g3, g4, g5⟩ := h.scan.room b hi hp' hT
  have hk := f.lt p (by omega)
  have hPn : ∀ p ∈ P, p < s.length := fun p hp => (h.scan.kind p hp).1
  have hc := g3 (keyM K (keyN s) p)
  have e1 : pick P (keyM K (keyN s)) (keyM K (keyN s) p) = pick P (keyN s) (keyN s p) := pick_mirror f.lt hPn hk
  have e2 : cntK s.length (keyM K (keyN s)) (keyM K (keyN s) p) = cntK s.length (keyN s) (keyN s p) := cntK_mirror f.lt hk
  rw [pick_snoc_same rfl, List.length_append, List.length_singleton, e1, e2] at hc
  obtain ⟨k1, k2, k3, k4, k5⟩ := h.fin.put f hPn (show p < s.length by omega) (by omega)
  exact ⟨by omega, hk, k2, k3, k1, h.scan.next b hi hp' hT k4 k5, fun lt o => h.scan.sorted b o (h.ord lt o) hi hp' hT⟩
theorem Three.next {s : List Int} {K : Nat} {B P : List Nat} {i : Nat} {st : List Int × List Nat} (h : Three s K B i P st) (f : Fits s K) (b : Based s.length K (keyM K (keyN s)) (smB s) B []) (hi : i < s.length) : ∃ P', Three s K B (i + 1) P' (stepE s st (st.1.getD (s.length - 1 - i) 0)) := by
  have hl := h.fin.rl
  unfold stepE
  by_cases hc : 0 < st.1.getD (s.length - 1 - i) 0 ∧ smB s (st.1.getD (s.length - 1 - i) 0 - 1).toNat = true
  · rw [if_pos hc]
    obtain ⟨p, hp⟩ : ∃ p : Nat, st.1.getD (s.length - 1 - i) 0 = ((p + 1 : Nat) : Int) := ⟨(st.1.getD (s.length - 1 - i) 0 - 1).toNat, by omega⟩
    have e : (st.1.getD (s.length - 1 - i) 0 - 1).toNat = p := by omega
    rw [e] at hc ⊢
    exact ⟨_, (h.ok f b hi hp hc.2).2.2.2.2⟩
  · rw [if_neg hc]
    refine ⟨P, h.fin, h.scan.skip fun p hp => ?_, h.ord⟩
    rw [revI_at _ (by omega), hl] at hp
    cases hs : smB s p
    · rfl
    · exfalso
      apply hc
      rw [hp]
      exact ⟨by omega, by rw [show (((p + 1 : Nat) : Int) - 1).toNat = p by omega]; exact hs⟩
end Go.Proofs.Ytokmlklcjipkiaa

/- Induced sorting as a whole: each place once; in order if the first places are. Plain numbers, no conditions. -/
namespace Go.Proofs.Ytokmlklcjipkiaa
set_option linter.unusedVariables false
set_option linter.unusedSimpArgs false

theorem Lay.congr {n : Nat} {k1 k2 : Nat → Nat} {base P : List Nat} {r : Nat → Int} (h : Lay n k1 base P r) (hk : ∀ p, p < n → k1 p = k2 p) (hP : ∀ p ∈ P, p < n) (hB : ∀ p ∈ base, p < n) : Lay n k2 base P r := by
  have e : ∀ {L : List Nat}, (∀ p ∈ L, p < n) → ∀ q, pick L k1 q = pick L k2 q := fun hL q => List.filter_congr fun p hp => by rw [hk p (hL p hp)]
  have eo : ∀ q, offK n k1 q = offK n k2 q := fun q => by
    rw [offK_count, offK_count]
    congr 1
    exact List.filter_congr fun p hp => by rw [hk p (List.mem_range.1 hp)]
  have ec : ∀ q, cntK n k1 q = cntK n k2 q := fun q => by unfold cntK; rw [e fun p hp => List.mem_range.1 hp]
  refine ⟨fun q t ht => ?_, fun q u hu => ?_, fun q t h1 h2 h3 => ?_⟩
  · rw [← eo, ← e hP q]
    rw [← e hP q] at ht
    exact h.put q t ht
  · rw [← eo, ← e hB q]
    rw [← e hB q] at hu
    exact h.old q u hu
  · rw [← eo]
    rw [← ec] at h1 h3
    rw [← e hP q] at h2
    rw [← e hB q] at h3
    exact h.none q t h1 h2 h3
theorem keyM_two {K n : Nat} {key : Nat → Nat} (hK : ∀ p, p < n → key p < K) : ∀ p, p < n → keyM K (keyM K key) p = key p := fun p hp => by
  have := hK p hp
  unfold keyM
  omega

theorem lay1 {s : List Int} {K : Nat} {F : List Nat} (f : Fits s K) (hF : Firsts s F) : (st1 s K F F.length).1.length = s.length ∧ Lay s.length (keyN s) F [] (fun x => (st1 s K F F.length).1.getD x 0) := by
  have hFn : ∀ p ∈ F, p < s.length := fun p hp => (hF.kind p hp).1
  obtain ⟨h1, h2⟩ := st1_all f hF.nodup hFn F.length (Nat.le_refl _)
  have hl := h1.rl
  rw [show F.reverse.take F.length = F.reverse by rw [← List.length_reverse, List.take_length]] at h2
  refine ⟨hl, ?_⟩
  have hc := cnt_sub (key := keyM K (keyN s)) (P := F.reverse) (R := []) (List.pairwise_reverse.2 (hF.nodup.imp fun h => Ne.symm h)) List.nodup_nil (fun p hp => hFn p (List.mem_reverse.1 hp)) (fun _ h => by cases h) (fun _ _ h => by cases h)
  have h3 := h2.mirror (K := K) (r' := fun x => (st1 s K F F.length).1.getD x 0) (keyM_lt f.lt) (fun p hp => hFn p (List.mem_reverse.1 hp)) (fun _ h => by cases h) hc (fun x hx => by
    rw [revI_at _ (by omega), hl]
    congr 1
    omega)
  rw [List.reverse_reverse, List.reverse_nil] at h3
  exact h3.congr (keyM_two f.lt) (fun _ h => by cases h) hFn

theorem st2_one {s : List Int} {K : Nat} {F : List Nat} (hn : 0 < s.length) : st2 s K F 1 = putB s (st2 s K F 0) (s.length - 1) := by
  show stepB s _ (if 0 = 0 then (s.length : Int) else _) = _
  rw [if_pos rfl]
  unfold stepB
  rw [show ((s.length : Int) - 1).toNat = s.length - 1 by omega, if_pos ⟨by omega, smB_last (by omega)⟩]
theorem st2_next {s : List Int} {K : Nat} {F : List Nat} (i : Nat) : st2 s K F (i + 2) = stepB s (st2 s K F (i + 1)) ((st2 s K F (i + 1)).1.getD i 0) := by
  show stepB s _ (if i + 1 = 0 then (s.length : Int) else _) = _
  rw [if_neg (by omega)]
  rfl
theorem st2_begin {s : List Int} {K : Nat} {F : List Nat} (f : Fits s K) (hF : Firsts s F) : BegS s K [] (st2 s K F 0) := by
  refine ⟨(lay1 f hF).1, by simp [st2, begN], fun c hc => ?_⟩
  simp only [st2, begN]
  rw [mapI_at _ _ hc]
  simp [pick]
theorem st2_first {s : List Int} {K : Nat} {F : List Nat} (f : Fits s K) (hF : Firsts s F) (hn : 0 < s.length) : keyN s (s.length - 1) < K ∧ (st2 s K F 0).2.getD (keyN s (s.length - 1)) 0 < s.length ∧ Two s K F 0 [s.length - 1] (st2 s K F 1) := by
  have b := based2 f hF
  have hT : lgB s (s.length - 1) = true := by unfold lgB; rw [smB_last (by omega)]; rfl
  have hc := cnt_sub (key := keyN s) (P := [s.length - 1]) (R := F) (by simp) hF.nodup (fun p hp => by simp only [List.mem_singleton] at hp; omega) (fun p hp => (hF.kind p hp).1) (fun p hp h2 => by
    simp only [List.mem_singleton] at hp
    subst hp
    have := (b.kind _ h2).2
    rw [hT] at this
    cases this)
  have hcp := hc (keyN s (s.length - 1))
  rw [show pick [s.length - 1] (keyN s) (keyN s (s.length - 1)) = pick ([] ++ [s.length - 1]) (keyN s) (keyN s (s.length - 1)) from rfl, pick_snoc_same rfl, List.length_append, List.length_singleton] at hcp
  obtain ⟨k1, k2, k3, k4⟩ := (st2_begin f hF).put f (show s.length - 1 < s.length by omega) (by omega)
  rw [st2_one hn]
  refine ⟨f.lt _ (by omega), k2, k1, ⟨?_, by simp, fun p hp => ?_, fun p hp => .inl hp, (fun x hx => by omega), fun p hp => hp⟩, fun lt o q => ?_⟩
  · exact (lay1 f hF).2.snoc (K := K) hc k3 k4
  · simp only [List.mem_singleton] at hp
    subst hp
    exact ⟨by omega, hT⟩
  · refine List.Pairwise.filter _ (List.pairwise_singleton _ _)
theorem st2_all {s : List Int} {K : Nat} {F : List Nat} (f : Fits s K) (hF : Firsts s F) (hn : 0 < s.length) : ∀ i, i ≤ s.length → ∃ P, Two s K F i P (st2 s K F (i + 1)) := by
  intro i
  induction i with
  | zero => intro _; exact ⟨_, (st2_first f hF hn).2.2⟩
  | succ i ih =>
    intro hi
    obtain ⟨P, h⟩ := ih (by omega)
    rw [st2_next]
    exact h.next f (based2 f hF) (by omega)

theorem perm_of {n : Nat} {P : List Nat} {T : Nat → Bool} (hn : P.Nodup) (hk : ∀ p ∈ P, p < n ∧ T p = true) (ha : ∀ p, p < n → T p = true → p ∈ P) : P.Perm ((List.range n).filter T) :=
  (List.perm_ext_iff_of_nodup hn (List.Pairwise.filter _ List.nodup_range)).2 fun p => by
    rw [List.mem_filter, List.mem_range]
    exact ⟨hk p, fun h => ha p h.1 h.2⟩

/-- Behind the second step all large places stand. -/
theorem two_all {s : List Int} {K : Nat} {F P : List Nat} {st : List Int × List Nat} (f : Fits s K) (hF : Firsts s F) (h : Two s K F s.length P st) : ∀ p, p < s.length → lgB s p = true → p ∈ P :=
  h.scan.all (based2 f hF) (fun p hp _ hl => List.mem_singleton.2 (by omega)) fun p hp hT hT1 => by
    refine hF.perm.mem_iff.2 (firN_mem.2 ⟨hp, fsB_iff.2 ⟨by omega, ?_, ?_⟩⟩)
    · simpa [lgB] using hT1
    · rw [Nat.add_sub_cancel]; simpa [lgB] using hT

/-- The small ones taken out. -/
theorem lay3 {s : List Int} {K : Nat} {F P : List Nat} {st : List Int × List Nat} (f : Fits s K) (hF : Firsts s F) {i : Nat} (h : Two s K F i P st) : Lay s.length (keyN s) [] P (fun x => (outI s st.1).getD x 0) := by
  have b := based2 f hF
  have hl := h.beg.rl
  have hcs := cnt_sub (key := keyN s) h.scan.nodup b.nodup (fun p hp => (h.scan.kind p hp).1) (fun p hp => (b.kind p hp).1) (h.scan.apart b)
  refine ⟨fun q t ht => ?_, (fun q u hu => by simp [pick] at hu), fun q t h1 h2 h3 => ?_⟩
  · have h4 := h.scan.lay.put q t ht
    have hm := pick_get ht
    have hc := hcs q
    have hk := h.scan.kind _ hm.1
    have hx := offK_lt f.lt (show q < K by have := f.lt _ hk.1; omega) (show t < cntK s.length (keyN s) q by omega)
    rw [outI_at _ _ (by omega)]
    rw [h4]
    rw [if_neg]
    intro ⟨_, h5⟩
    rw [Int.toNat_natCast] at h5
    have := hk.2
    unfold lgB at this
    rw [h5] at this
    cases this
  · have hq : q < K := by
      have : 0 < (pick (List.range s.length) (keyN s) q).length := by unfold cntK at h1; omega
      have h4 := pick_get this
      have := f.lt _ (List.mem_range.1 h4.1)
      omega
    have hx := offK_lt f.lt hq h1
    rw [outI_at _ _ (by omega)]
    rcases h.scan.lay.cases b.hK hx with ⟨q', t', g1, g2, g3, g4⟩
    obtain ⟨rfl, rfl⟩ := offK_inj h1 g2 g3
    rcases g4 with ⟨a1, a2⟩ | ⟨a1, a3, a2⟩ | a1
    · omega
    · rw [a2, if_pos]
      refine ⟨by omega, ?_⟩
      have := getN_mem (l := (pick F (keyN s) q).reverse) (by rw [List.length_reverse]; exact a1)
      rw [List.mem_reverse] at this
      have := (b.kind _ (pick_mem.1 this).1).2
      rw [Int.toNat_natCast]
      simpa [lgB] using this
    · rw [a1, if_neg (by omega)]

theorem st3_begin {s : List Int} {K : Nat} {F P : List Nat} (f : Fits s K) (hF : Firsts s F) (h : Two s K F s.length P (st2 s K F (s.length + 1))) : Three s K P.reverse 0 [] (st3 s K F 0) := by
  have hl := h.beg.rl
  have hPn : ∀ p ∈ P, p < s.length := fun p hp => (h.scan.kind p hp).1
  have hol : (st3 s K F 0).1.length = s.length := by simp only [st3]; rw [outI_len, hl]
  have hc := cnt_sub (key := keyN s) (P := P) (R := []) h.scan.nodup List.nodup_nil hPn (fun _ h => by cases h) (fun _ _ h => by cases h)
  have h3 := (lay3 f hF h).mirror (K := K) (r' := fun x => (st3 s K F 0).1.reverse.getD x 0) f.lt hPn (fun _ h => by cases h) hc (fun x hx => by
    rw [revI_at _ (by omega), hol]
    rfl)
  refine ⟨⟨hol, by simp [st3, endN], fun c hc2 => ?_⟩, ⟨h3, List.nodup_nil, (fun p hp => by cases hp), (fun p hp => by cases hp), (fun x hx => by omega), (fun p hp => by cases hp)⟩, fun lt o q => by simp [pick]⟩
  simp only [st3, endN]
  rw [mapI_at _ _ hc2]
  simp [pick]
theorem st3_all {s : List Int} {K : Nat} {F P : List Nat} (f : Fits s K) (hF : Firsts s F) (h : Two s K F s.length P (st2 s K F (s.length + 1))) : ∀ i, i ≤ s.length → ∃ P', Three s K P.reverse i P' (st3 s K F i) := by
  intro i
  induction i with
  | zero => intro _; exact ⟨_, st3_begin f hF h⟩
  | succ i ih =>
    intro hi
    obtain ⟨P', h'⟩ := ih (by omega)
    exact h'.next f (based3 f h.scan.nodup h.scan.kind) (by omega)

/-- Of one number the large endings are less than the small ones. -/
theorem ltE_kinds {s : List Int} : ∀ (d a b : Nat), s.length - a = d → a < s.length → b < s.length → s.getD a 0 = s.getD b 0 → smB s a = false → smB s b = true → ltE s a b := by
  intro d
  induction d with
  | zero => intro a b h1 h2; omega
  | succ d ih =>
    intro a b h1 ha hb he h3 h4
    rw [ltE_same ha hb he]
    have hb1 : b + 1 < s.length := by
      apply Nat.lt_of_not_le
      intro hle
      rw [smB_last hle] at h4
      cases h4
    by_cases ha1 : a + 1 < s.length
    · rw [smB_next ha1] at h3
      rw [smB_next hb1] at h4
      simp only [Bool.or_eq_false_iff, decide_eq_false_iff_not, Bool.and_eq_false_iff] at h3
      simp only [Bool.or_eq_true, decide_eq_true_eq, Bool.and_eq_true] at h4
      by_cases h5 : s.getD (a + 1) 0 < s.getD (b + 1) 0
      · exact ltE_less ha1 hb1 h5
      · have e1 : s.getD a 0 = s.getD (a + 1) 0 := by omega
        have e2 : s.getD b 0 = s.getD (b + 1) 0 := by omega
        refine ih (a + 1) (b + 1) (by omega) ha1 hb1 (by omega) ?_ ?_
        · rcases h3.2 with h6 | h6
          · exact absurd e1 h6
          · exact h6
        · rcases h4 with h6 | h6
          · omega
          · exact h6.2
    · exact ltE_end (by omega) hb1

theorem ord2 {s : List Int} {K : Nat} {F : List Nat} (f : Fits s K) (ho : F.Pairwise (ltE s)) : Ordered s.length (keyN s) (lgB s) F [s.length - 1] (ltE s) := by
  refine ⟨fun a b ha hb h => ?_, fun a b ha hb h h1 h2 => ?_, fun a b ha hb _ _ h h3 => ?_, fun a b ha hb hT h => ?_, fun q => ho.filter _⟩
  · exact ltE_less ha hb (by rw [f.num a ha, f.num b hb]; omega)
  · exact ltE_kinds _ a b rfl ha hb (by rw [f.num a ha, f.num b hb, h]) (by simpa [lgB] using h1) (by simpa [lgB] using h2)
  · exact (ltE_same (by omega) (by omega) (by rw [f.num a (by omega), f.num b (by omega), h])).2 h3
  · simp only [List.mem_singleton] at ha
    subst ha
    exact (ltE_same (by omega) (by omega) (by rw [f.num _ (by omega), f.num b (by omega), h])).2 (ltE_end (by omega) hb)
theorem ord3 {s : List Int} {K : Nat} {P : List Nat} (f : Fits s K) (hP : ∀ p ∈ P, p < s.length) (ho : ∀ q, (pick P (keyN s) q).Pairwise (ltE s)) : Ordered s.length (keyM K (keyN s)) (smB s) P.reverse [] (fun a b => ltE s b a) := by
  refine ⟨fun a b ha hb h => ?_, fun a b ha hb h h1 h2 => ?_, fun a b ha hb _ _ h h3 => ?_, (fun a b ha => by cases ha), fun q => ?_⟩
  · have h1 := f.lt a ha
    have h2 := f.lt b hb
    unfold keyM at h
    exact ltE_less hb ha (by rw [f.num a ha, f.num b hb]; omega)
  · have h3 := f.lt a ha
    have h4 := f.lt b hb
    unfold keyM at h
    exact ltE_kinds _ b a rfl hb ha (by rw [f.num a ha, f.num b hb]; omega) h2 h1
  · have h4 := f.lt a (by omega)
    have h5 := f.lt b (by omega)
    unfold keyM at h
    exact (ltE_same (by omega) (by omega) (by rw [f.num a (by omega), f.num b (by omega)]; omega)).2 h3
  · rw [pick_rev, List.pairwise_reverse]
    by_cases h0 : 0 < (pick P (keyM K (keyN s)) q).length
    · obtain ⟨q', hq, rfl⟩ := pick_mirror_of f.lt hP h0
      rw [pick_mirror f.lt hP hq]
      exact ho q'
    · rw [List.length_eq_zero_iff.1 (show (pick P (keyM K (keyN s)) q).length = 0 by omega)]
      exact List.Pairwise.nil

/-- Induced sorting: each place comes once, number by number, and by whatever relation both steps keep. -/
theorem indI_rel {s : List Int} {K : Nat} {F : List Nat} (f : Fits s K) (hF : Firsts s F) : ∃ R : List Nat, indI s K F = natL R ∧ R.Perm (List.range s.length) ∧ R.Pairwise (fun a b => keyN s a ≤ keyN s b) ∧
    ∀ (r2 r : Nat → Nat → Prop), Ordered s.length (keyN s) (lgB s) F [s.length - 1] r2 → (∀ a b, lgB s a = true → lgB s b = true → r2 a b → r a b) →
      (∀ P : List Nat, (∀ p ∈ P, p < s.length ∧ lgB s p = true) → (∀ q, (pick P (keyN s) q).Pairwise r) → Ordered s.length (keyM K (keyN s)) (smB s) P.reverse [] (fun a b => r b a)) →
      (∀ a b, a < s.length → b < s.length → keyN s a < keyN s b → r a b) → (∀ a b, a < s.length → b < s.length → keyN s a = keyN s b → smB s a = false → smB s b = true → r a b) → R.Pairwise r := by
  by_cases hn : 0 < s.length
  · obtain ⟨P, h⟩ := st2_all f hF hn s.length (Nat.le_refl _)
    obtain ⟨Q, h'⟩ := st3_all f hF h s.length (Nat.le_refl _)
    have hPn : ∀ p ∈ P, p < s.length := fun p hp => (h.scan.kind p hp).1
    have hQn : ∀ p ∈ Q, p < s.length := fun p hp => (h'.scan.kind p hp).1
    have b := based2 f hF
    have b' := based3 f h.scan.nodup h.scan.kind
    have hPa := two_all f hF h
    have hQa : ∀ p, p < s.length → smB s p = true → p ∈ Q := h'.scan.all b' (fun p hp hT hl => by
      rw [smB_last hl] at hT
      cases hT) fun p hp hT hT1 => List.mem_reverse.2 (hPa _ hp (by unfold lgB; rw [hT1]; rfl))
    have hperm : (P ++ Q.reverse).Perm (List.range s.length) := by
      refine (List.perm_ext_iff_of_nodup (List.nodup_append.2 ⟨h.scan.nodup, List.pairwise_reverse.2 (h'.scan.nodup.imp fun h => Ne.symm h), fun a ha c hc e => ?_⟩) List.nodup_range).2 fun p => ?_
      · have h1 := (h.scan.kind a ha).2
        have h2 := (h'.scan.kind c (List.mem_reverse.1 hc)).2
        rw [← e] at h2
        unfold lgB at h1
        rw [h2] at h1
        cases h1
      · rw [List.mem_append, List.mem_reverse, List.mem_range]
        constructor
        · rintro (h1 | h1)
          · exact hPn p h1
          · exact hQn p h1
        · intro hp
          cases hs : smB s p
          · exact .inl (hPa p hp (by unfold lgB; rw [hs]; rfl))
          · exact .inr (hQa p hp hs)
    have hl := h'.fin.rl
    have hc := cnt_sub (key := keyM K (keyN s)) h'.scan.nodup b'.nodup hQn (fun p hp => (b'.kind p hp).1) (h'.scan.apart b')
    have hlay : Lay s.length (keyN s) Q.reverse P (fun x => (indI s K F).getD x 0) := by
      have := h'.scan.lay.mirror (K := K) (r' := fun x => (indI s K F).getD x 0) (keyM_lt f.lt) hQn (fun p hp => (b'.kind p hp).1) hc (fun x hx => by
        rw [revI_at _ (by omega), hl]
        unfold indI
        congr 1
        omega)
      rw [List.reverse_reverse] at this
      exact this.congr (keyM_two f.lt) hPn (fun p hp => hQn p (List.mem_reverse.1 hp))
    have hrow := hlay.full f.lt hperm (row := indI s K F) hl (fun x _ => rfl)
    have hkey : ∀ p ∈ P ++ Q.reverse, keyN s p < K := fun p hp => f.lt p (List.mem_range.1 (hperm.mem_iff.1 hp))
    refine ⟨_, hrow, (csort_perm hkey).trans hperm, ?_, fun r2 r ho2 h23 ho3 x1 x2 => ?_⟩
    · refine (csort_sorted K (keyN s) (Q := fun _ _ => True) (List.pairwise_of_forall fun _ _ => trivial)).imp fun h => ?_
      rcases h with h | h
      · omega
      · omega
    · have o2 : ∀ q, (pick P (keyN s) q).Pairwise r := fun q => (h.ord _ ho2 q).imp_of_mem fun ha hb hr => h23 _ _ (h.scan.kind _ (pick_mem.1 ha).1).2 (h.scan.kind _ (pick_mem.1 hb).1).2 hr
      have o3 := h'.ord _ (ho3 P h.scan.kind o2)
      unfold csort
      rw [List.pairwise_flatMap]
      constructor
      · intro q hq
        have hq := List.mem_range.1 hq
        rw [pick_app, pick_rev, List.pairwise_append]
        refine ⟨o2 q, List.pairwise_reverse.2 ?_, fun a ha c hc => ?_⟩
        · have := o3 (K - 1 - q)
          rw [pick_mirror f.lt hQn hq] at this
          exact this
        · obtain ⟨h1, h2⟩ := pick_mem.1 ha
          obtain ⟨h3, h4⟩ := pick_mem.1 (List.mem_reverse.1 hc)
          have k1 := h.scan.kind a h1
          have k2 := h'.scan.kind c h3
          exact x2 a c k1.1 k2.1 (by rw [h2, h4]) (by simpa [lgB] using k1.2) k2.2
      · refine List.pairwise_lt_range.imp ?_
        intro q q' hqq x hx y hy
        obtain ⟨h1, h2⟩ := pick_mem.1 hx
        obtain ⟨h3, h4⟩ := pick_mem.1 hy
        have k1 := List.mem_range.1 (hperm.mem_iff.1 h1)
        have k2 := List.mem_range.1 (hperm.mem_iff.1 h3)
        exact x1 x y k1 k2 (by omega)
  · have h0 : s.length = 0 := by omega
    have hs : s = [] := List.length_eq_zero_iff.1 h0
    have hFe : F = [] := by
      have := hF.perm
      rw [hs] at this
      exact List.perm_nil.1 this
    subst hs
    subst hFe
    exact ⟨[], rfl, List.Perm.refl _, List.Pairwise.nil, fun _ _ _ _ _ _ _ => List.Pairwise.nil⟩
/-- Induced sorting: each place comes once, number by number; in order, if the first places are. -/
theorem indI_all {s : List Int} {K : Nat} {F : List Nat} (f : Fits s K) (hF : Firsts s F) : ∃ R : List Nat, indI s K F = natL R ∧ R.Perm (List.range s.length) ∧ R.Pairwise (fun a b => keyN s a ≤ keyN s b) ∧ (F.Pairwise (ltE s) → R.Pairwise (ltE s)) := by
  obtain ⟨R, h1, h2, h3, h4⟩ := indI_rel f hF
  exact ⟨R, h1, h2, h3, fun ho => h4 _ _ (ord2 f ho) (fun _ _ _ _ h => h) (fun P hP hp => ord3 f (fun p h => (hP p h).1) hp)
    (fun a b ha hb h => ltE_less ha hb (by rw [f.num a ha, f.num b hb]; omega))
    (fun a b ha hb h k1 k2 => ltE_kinds _ a b rfl ha hb (by rw [f.num a ha, f.num b hb, h]) k1 k2)⟩
end Go.Proofs.Ytokmlklcjipkiaa

/- Parts of a text from one first place to the next: sorted by induced sorting, named, they tell the order of the endings. Plain numbers, no conditions. -/
namespace Go.Proofs.Ytokmlklcjipkiaa
set_option linter.unusedVariables false
set_option linter.unusedSimpArgs false

/-- A place's number and kind as one. -/
def codeI (s : List Int) (a : Nat) : Int := 2 * s.getD a 0 + (if smB s a = true then 1 else 0)
theorem codeI_small {s : List Int} {a : Nat} (h : smB s a = true) : codeI s a = 2 * s.getD a 0 + 1 := by unfold codeI; rw [if_pos h]
theorem codeI_large {s : List Int} {a : Nat} (h : smB s a = false) : codeI s a = 2 * s.getD a 0 := by unfold codeI; rw [if_neg (by rw [h]; simp)]; omega
theorem codeI_eq {s : List Int} {a b : Nat} (h : codeI s a = codeI s b) : s.getD a 0 = s.getD b 0 ∧ smB s a = smB s b := by
  cases ha : smB s a <;> cases hb : smB s b
  · rw [codeI_large ha, codeI_large hb] at h
    exact ⟨by omega, rfl⟩
  · rw [codeI_large ha, codeI_small hb] at h
    omega
  · rw [codeI_small ha, codeI_large hb] at h
    omega
  · rw [codeI_small ha, codeI_small hb] at h
    exact ⟨by omega, rfl⟩
theorem codeI_lt {s : List Int} {a b : Nat} (ha : a < s.length) (hb : b < s.length) (h : codeI s a < codeI s b) : ltE s a b := by
  cases h1 : smB s a <;> cases h2 : smB s b
  · rw [codeI_large h1, codeI_large h2] at h
    exact ltE_less ha hb (by omega)
  · rw [codeI_large h1, codeI_small h2] at h
    by_cases e : s.getD a 0 = s.getD b 0
    · exact ltE_kinds _ a b rfl ha hb e h1 h2
    · exact ltE_less ha hb (by omega)
  · rw [codeI_small h1, codeI_large h2] at h
    exact ltE_less ha hb (by omega)
  · rw [codeI_small h1, codeI_small h2] at h
    exact ltE_less ha hb (by omega)
theorem fsB_out {s : List Int} {a : Nat} (h : s.length ≤ a) : fsB s a = false := by
  unfold fsB
  rw [smB_last (by omega)]
  simp

/-- From a place to the next first one, that one with it; else to the end. -/
def cutF (s : List Int) : Nat → Nat → List Int
  | 0, _ => []
  | d + 1, a => codeI s a :: (if fsB s (a + 1) = true then [codeI s (a + 1)] else cutF s d (a + 1))
def cutW (s : List Int) (a : Nat) : List Int := cutF s (s.length - a) a
theorem cutW_end {s : List Int} {a : Nat} (h : s.length ≤ a) : cutW s a = [] := by
  unfold cutW
  rw [show s.length - a = 0 by omega]
  rfl
theorem cutW_cons {s : List Int} {a : Nat} (h : a < s.length) : cutW s a = codeI s a :: (if fsB s (a + 1) = true then [codeI s (a + 1)] else cutW s (a + 1)) := by
  unfold cutW
  rw [show s.length - a = (s.length - (a + 1)) + 1 by omega]
  rfl
/-- Likewise, a first place alone. -/
def cutL (s : List Int) (a : Nat) : List Int := if fsB s a = true then [codeI s a] else cutW s a
theorem cutW_tail {s : List Int} {a : Nat} (h : a < s.length) : cutW s a = codeI s a :: cutL s (a + 1) := cutW_cons h
theorem cutL_large {s : List Int} {a : Nat} (h : smB s a = false) : cutL s a = cutW s a := by
  unfold cutL
  rw [if_neg]
  intro hf
  have := (fsB_iff.1 hf).2.1
  rw [h] at this
  cases this
theorem cutL_next {s : List Int} {a : Nat} (h : smB s a = true) : cutL s (a + 1) = cutW s (a + 1) := by
  unfold cutL
  rw [if_neg]
  intro hf
  have := (fsB_iff.1 hf).2.2
  rw [Nat.add_sub_cancel, h] at this
  cases this

theorem cmpI_head {x y : Int} {l l' : List Int} (h : x < y) : cmpI (x :: l) (y :: l') = -1 := by rw [cmpI, if_pos h]
theorem cmpI_tail {x : Int} {l l' : List Int} : cmpI (x :: l) (x :: l') = cmpI l l' := by rw [cmpI, if_neg (by omega), if_neg (by omega)]

theorem key_code {s : List Int} {K a b : Nat} (f : Fits s K) (ha : a < s.length) (hb : b < s.length) (h : keyN s a < keyN s b) : codeI s a < codeI s b := by
  have h1 := f.num a ha
  have h2 := f.num b hb
  unfold codeI
  split <;> split <;> omega
theorem kind_code {s : List Int} {K a b : Nat} (f : Fits s K) (ha : a < s.length) (hb : b < s.length) (h : keyN s a = keyN s b) (h1 : smB s a = false) (h2 : smB s b = true) : codeI s a < codeI s b := by
  have h3 := f.num a ha
  have h4 := f.num b hb
  rw [codeI_large h1, codeI_small h2]
  omega
theorem same_code {s : List Int} {K a b : Nat} (f : Fits s K) (ha : a < s.length) (hb : b < s.length) (h : keyN s a = keyN s b) (h1 : smB s a = smB s b) : codeI s a = codeI s b := by
  have h3 := f.num a ha
  have h4 := f.num b hb
  unfold codeI
  rw [h1, h3, h4, h]
theorem cutL_head {s : List Int} {a : Nat} (h : a < s.length) : ∃ l, cutL s a = codeI s a :: l := by
  unfold cutL
  split
  · exact ⟨[], rfl⟩
  · exact ⟨_, cutW_cons h⟩

/-- Whatever the order of the first places, what comes out stands in order of the parts. -/
theorem indI_cut {s : List Int} {K : Nat} {F : List Nat} (f : Fits s K) (hF : Firsts s F) : ∃ R : List Nat, indI s K F = natL R ∧ R.Perm (List.range s.length) ∧ R.Pairwise (fun a b => cmpI (cutW s a) (cutW s b) ≤ 0) := by
  obtain ⟨R, h1, h2, _, h4⟩ := indI_rel f hF
  refine ⟨R, h1, h2, h4 (fun a b => cmpI (cutL s a) (cutL s b) ≤ 0) _ ⟨fun a b ha hb h => ?_, fun a b ha hb h k1 k2 => ?_, fun a b ha hb k1 k2 h h3 => ?_, fun a b ha hb k2 h => ?_, fun q => ?_⟩ (fun a b k1 k2 h => ?_) (fun P hP hp => ⟨fun a b ha hb h => ?_, fun a b ha hb h k1 k2 => ?_, fun a b ha hb k1 k2 h h3 => ?_, (fun a b ha => by cases ha), fun q => ?_⟩) (fun a b ha hb h => ?_) (fun a b ha hb h k1 k2 => ?_)⟩
  · obtain ⟨l, e⟩ := cutL_head ha
    obtain ⟨l', e'⟩ := cutL_head hb
    rw [e, e', cmpI_head (key_code f ha hb h)]
    omega
  · obtain ⟨l, e⟩ := cutL_head ha
    obtain ⟨l', e'⟩ := cutL_head hb
    rw [e, e', cmpI_head (kind_code f ha hb h (by simpa [lgB] using k1) (by simpa [lgB] using k2))]
    omega
  · have k1' : smB s a = false := by simpa [lgB] using k1
    have k2' : smB s b = false := by simpa [lgB] using k2
    rw [cutL_large k1', cutL_large k2', cutW_tail (by omega), cutW_tail (by omega), same_code f (by omega) (by omega) h (by rw [k1', k2']), cmpI_tail]
    exact h3
  · simp only [List.mem_singleton] at ha
    subst ha
    have k1' : smB s (s.length - 1) = false := smB_last (by omega)
    have k2' : smB s b = false := by simpa [lgB] using k2
    have e : cutL s (s.length - 1 + 1) = [] := by
      unfold cutL
      rw [fsB_out (by omega), if_neg (by simp), cutW_end (by omega)]
    obtain ⟨l, e'⟩ := cutL_head hb
    rw [cutL_large k1', cutL_large k2', cutW_tail (by omega), cutW_tail (by omega), same_code f (by omega) (by omega) h (by rw [k1', k2']), cmpI_tail, e, e']
    exact (by decide : (-1 : Int) ≤ 0)
  · refine (List.pairwise_of_forall (R := fun _ _ => True) fun _ _ => trivial).imp_of_mem fun ha hb _ => ?_
    obtain ⟨m1, e1⟩ := pick_mem.1 ha
    obtain ⟨m2, e2⟩ := pick_mem.1 hb
    obtain ⟨n1, f1⟩ := hF.kind _ m1
    obtain ⟨n2, f2⟩ := hF.kind _ m2
    unfold cutL
    rw [if_pos f1, if_pos f2, same_code f n1 n2 (by rw [e1, e2]) (by rw [(fsB_iff.1 f1).2.1, (fsB_iff.1 f2).2.1]), cmpI_self]
    exact Int.le_refl _
  · have k1' : smB s a = false := by simpa [lgB] using k1
    have k2' : smB s b = false := by simpa [lgB] using k2
    rw [cutL_large k1', cutL_large k2'] at h
    exact h
  · have h5 := f.lt a ha
    have h6 := f.lt b hb
    unfold keyM at h
    rw [cutW_tail ha, cutW_tail hb, cmpI_head (key_code f hb ha (by omega))]
    omega
  · have h5 := f.lt a ha
    have h6 := f.lt b hb
    unfold keyM at h
    rw [cutW_tail ha, cutW_tail hb, cmpI_head (kind_code f hb ha (by omega) k2 k1)]
    omega
  · have h5 := f.lt a (by omega)
    have h6 := f.lt b (by omega)
    unfold keyM at h
    rw [cutW_tail (show a < s.length by omega), cutW_tail (show b < s.length by omega), cutL_next k1, cutL_next k2, same_code f (by omega) (by omega) (show keyN s a = keyN s b by omega) (by rw [k1, k2]), cmpI_tail]
    exact h3
  · rw [pick_rev, List.pairwise_reverse]
    by_cases h0 : 0 < (pick P (keyM K (keyN s)) q).length
    · obtain ⟨q', hq, rfl⟩ := pick_mirror_of f.lt (fun p h => (hP p h).1) h0
      rw [pick_mirror f.lt (fun p h => (hP p h).1) hq]
      exact hp q'
    · rw [List.length_eq_zero_iff.1 (show (pick P (keyM K (keyN s)) q).length = 0 by omega)]
      exact List.Pairwise.nil
  · rw [cutW_tail ha, cutW_tail hb, cmpI_head (key_code f ha hb h)]
    omega
  · rw [cutW_tail ha, cutW_tail hb, cmpI_head (kind_code f ha hb h k1 k2)]
    omega

/-- Behind a large place stands a first one, a large one, or nothing. -/
theorem behind_large {s : List Int} {a : Nat} (h : smB s a = false) (hf : fsB s (a + 1) = false) : smB s (a + 1) = false := by
  cases h2 : smB s (a + 1)
  · rfl
  · have : fsB s (a + 1) = true := fsB_iff.2 ⟨by omega, h2, by rw [Nat.add_sub_cancel]; exact h⟩
    rw [hf] at this
    cases this
theorem ahead_first {s : List Int} {a : Nat} (hf : fsB s (a + 1) = true) : smB s a = false ∧ smB s (a + 1) = true ∧ a + 1 < s.length := by
  have h := fsB_iff.1 hf
  rw [Nat.add_sub_cancel] at h
  refine ⟨h.2.2, h.2.1, ?_⟩
  apply Nat.lt_of_not_le
  intro hle
  rw [fsB_out hle] at hf
  cases hf

/-- A less part is of a less ending. -/
theorem cut_lt {s : List Int} : ∀ (d a b : Nat), s.length - a = d → a < s.length → b < s.length → cmpI (cutW s a) (cutW s b) < 0 → ltE s a b := by
  intro d
  induction d with
  | zero => intro a b h1 h2; omega
  | succ d ih =>
    intro a b hd ha hb h
    rw [cutW_cons ha, cutW_cons hb] at h
    rcases Int.lt_trichotomy (codeI s a) (codeI s b) with hc | hc | hc
    · exact codeI_lt ha hb hc
    · obtain ⟨c1, c2⟩ := codeI_eq hc
      rw [hc, cmpI_tail] at h
      rw [ltE_same ha hb c1]
      cases f1 : fsB s (a + 1) <;> cases f2 : fsB s (b + 1) <;> rw [f1, f2] at h <;> simp only [if_true, if_false, Bool.false_eq_true] at h
      · by_cases ha1 : a + 1 < s.length
        · by_cases hb1 : b + 1 < s.length
          · exact ih (a + 1) (b + 1) (by omega) ha1 hb1 h
          · rw [cutW_end (a := b + 1) (by omega), cutW_cons ha1] at h
            exact absurd h (by rw [cmpI]; decide)
        · by_cases hb1 : b + 1 < s.length
          · exact ltE_end (by omega) hb1
          · rw [cutW_end (a := a + 1) (by omega), cutW_end (a := b + 1) (by omega)] at h
            exact absurd h (by decide)
      · obtain ⟨k1, k2, k3⟩ := ahead_first f2
        by_cases ha1 : a + 1 < s.length
        · have k4 := behind_large (by rw [c2]; exact k1) f1
          rw [cutW_cons ha1] at h
          rcases Int.lt_trichotomy (codeI s (a + 1)) (codeI s (b + 1)) with hc2 | hc2 | hc2
          · exact codeI_lt ha1 k3 hc2
          · have := (codeI_eq hc2).2
            rw [k4, k2] at this
            cases this
          · rw [cmpI, if_neg (by omega), if_pos hc2] at h
            omega
        · exact ltE_end (by omega) k3
      · obtain ⟨k1, k2, k3⟩ := ahead_first f1
        by_cases hb1 : b + 1 < s.length
        · have k4 := behind_large (by rw [← c2]; exact k1) f2
          rw [cutW_cons hb1] at h
          rcases Int.lt_trichotomy (codeI s (a + 1)) (codeI s (b + 1)) with hc2 | hc2 | hc2
          · exact codeI_lt k3 hb1 hc2
          · have := (codeI_eq hc2).2
            rw [k4, k2] at this
            cases this
          · rw [cmpI, if_neg (by omega), if_pos hc2] at h
            omega
        · rw [cutW_end (a := b + 1) (by omega)] at h
          exact absurd h (by rw [cmpI]; decide)
      · obtain ⟨k1, k2, k3⟩ := ahead_first f1
        obtain ⟨k4, k5, k6⟩ := ahead_first f2
        rcases Int.lt_trichotomy (codeI s (a + 1)) (codeI s (b + 1)) with hc2 | hc2 | hc2
        · exact codeI_lt k3 k6 hc2
        · rw [hc2, cmpI_tail] at h
          exact absurd h (by decide)
        · rw [cmpI, if_neg (by omega), if_pos hc2] at h
          omega
    · rw [cmpI, if_neg (by omega), if_pos hc] at h
      omega

/-- Parts that are one end as far off, both at a first place. -/
theorem cut_same {s : List Int} : ∀ (d a b : Nat), s.length - a = d → a < s.length → b < s.length → a ≠ b → cutW s a = cutW s b →
    ∃ e, 1 ≤ e ∧ fsB s (a + e) = true ∧ fsB s (b + e) = true ∧ (∀ x, 1 ≤ x → x < e → fsB s (a + x) = false ∧ fsB s (b + x) = false) ∧ (ltE s a b ↔ ltE s (a + e) (b + e)) := by
  intro d
  induction d with
  | zero => intro a b h1 h2; omega
  | succ d ih =>
    intro a b hd ha hb hne h
    rw [cutW_cons ha, cutW_cons hb] at h
    simp only [List.cons.injEq] at h
    obtain ⟨hc, h⟩ := h
    obtain ⟨c1, c2⟩ := codeI_eq hc
    cases f1 : fsB s (a + 1) <;> cases f2 : fsB s (b + 1) <;> rw [f1, f2] at h <;> simp only [if_true, if_false, Bool.false_eq_true] at h
    · by_cases ha1 : a + 1 < s.length
      · by_cases hb1 : b + 1 < s.length
        · obtain ⟨e, e1, e2, e3, e4, e5⟩ := ih (a + 1) (b + 1) (by omega) ha1 hb1 (by omega) h
          refine ⟨e + 1, by omega, ?_, ?_, fun x h1 h2 => ?_, ?_⟩
          · rw [show a + (e + 1) = a + 1 + e by omega]; exact e2
          · rw [show b + (e + 1) = b + 1 + e by omega]; exact e3
          · by_cases hx : x = 1
            · subst hx
              exact ⟨f1, f2⟩
            · have := e4 (x - 1) (by omega) (by omega)
              rw [show a + 1 + (x - 1) = a + x by omega, show b + 1 + (x - 1) = b + x by omega] at this
              exact this
          · rw [ltE_same ha hb c1, e5, show a + (e + 1) = a + 1 + e by omega, show b + (e + 1) = b + 1 + e by omega]
        · rw [cutW_end (a := b + 1) (by omega), cutW_cons ha1] at h
          cases h
      · by_cases hb1 : b + 1 < s.length
        · rw [cutW_end (a := a + 1) (by omega), cutW_cons hb1] at h
          cases h
        · omega
    · obtain ⟨k1, k2, k3⟩ := ahead_first f2
      by_cases ha1 : a + 1 < s.length
      · have k4 := behind_large (by rw [c2]; exact k1) f1
        rw [cutW_cons ha1] at h
        simp only [List.cons.injEq] at h
        have := (codeI_eq h.1).2
        rw [k4, k2] at this
        cases this
      · rw [cutW_end (a := a + 1) (by omega)] at h
        cases h
    · obtain ⟨k1, k2, k3⟩ := ahead_first f1
      by_cases hb1 : b + 1 < s.length
      · have k4 := behind_large (by rw [← c2]; exact k1) f2
        rw [cutW_cons hb1] at h
        simp only [List.cons.injEq] at h
        have := (codeI_eq h.1).2
        rw [k4, k2] at this
        cases this
      · rw [cutW_end (a := b + 1) (by omega)] at h
        cases h
    · exact ⟨1, Nat.le_refl _, f1, f2, fun x h1 h2 => by omega, ltE_same ha hb c1⟩
end Go.Proofs.Ytokmlklcjipkiaa

/- Parts named in order: the names' endings stand as the first places' endings do. Plain numbers, no conditions. -/
namespace Go.Proofs.Ytokmlklcjipkiaa
set_option linter.unusedVariables false
set_option linter.unusedSimpArgs false

/-- Names of the parts, in the first places' order in the text: less names are of less parts. -/
structure Names (s N : List Int) : Prop where
  len : N.length = (firstN s).length
  lt : ∀ i j, i < N.length → j < N.length → (N.getD i 0 < N.getD j 0 ↔ cmpI (cutW s ((firstN s).getD i 0)) (cutW s ((firstN s).getD j 0)) < 0)

theorem Names.same {s N : List Int} (h : Names s N) {i j : Nat} (hi : i < N.length) (hj : j < N.length) (e : N.getD i 0 = N.getD j 0) : cutW s ((firstN s).getD i 0) = cutW s ((firstN s).getD j 0) := by
  have h1 := h.lt i j hi hj
  have h2 := h.lt j i hj hi
  rw [cmpI_swap] at h2
  have h3 : ¬ cmpI (cutW s ((firstN s).getD i 0)) (cutW s ((firstN s).getD j 0)) < 0 := fun h => by have := h1.2 h; omega
  have h4 : ¬ -cmpI (cutW s ((firstN s).getD i 0)) (cutW s ((firstN s).getD j 0)) < 0 := fun h => by have := h2.2 h; omega
  exact cmpI_zero (by omega)
theorem firstN_lt (s : List Int) {i j : Nat} (hij : i < j) (hj : j < (firstN s).length) : (firstN s).getD i 0 < (firstN s).getD j 0 := pairN_at (firN_sorted s s.length) hij hj
theorem firstN_at {s : List Int} {i : Nat} (hi : i < (firstN s).length) : (firstN s).getD i 0 < s.length ∧ fsB s ((firstN s).getD i 0) = true := firN_mem.1 (getN_mem hi)
/-- The next first place is the next of the row. -/
theorem firstN_next {s : List Int} {i e : Nat} (hi : i < (firstN s).length) (he : 1 ≤ e) (hf : fsB s ((firstN s).getD i 0 + e) = true) (hb : ∀ x, 1 ≤ x → x < e → fsB s ((firstN s).getD i 0 + x) = false) :
    i + 1 < (firstN s).length ∧ (firstN s).getD (i + 1) 0 = (firstN s).getD i 0 + e := by
  have hlt : (firstN s).getD i 0 + e < s.length := by
    apply Nat.lt_of_not_le
    intro hle
    rw [fsB_out hle] at hf
    cases hf
  have hm : (firstN s).getD i 0 + e ∈ firstN s := firN_mem.2 ⟨hlt, hf⟩
  obtain ⟨j, hj, ej⟩ := mem_getN hm
  have hij : i < j := by
    apply Nat.lt_of_not_le
    intro hle
    by_cases e2 : j = i
    · subst e2; omega
    · have := firstN_lt s (show j < i by omega) hi
      omega
  refine ⟨by omega, ?_⟩
  by_cases e2 : j = i + 1
  · rw [← e2, ej]
  · have h1 := firstN_lt s (show i < i + 1 by omega) (by omega)
    have h2 := firstN_lt s (show i + 1 < j by omega) hj
    have h3 := (firstN_at (s := s) (i := i + 1) (by omega)).2
    have h4 := hb ((firstN s).getD (i + 1) 0 - (firstN s).getD i 0) (by omega) (by omega)
    rw [show (firstN s).getD i 0 + ((firstN s).getD (i + 1) 0 - (firstN s).getD i 0) = (firstN s).getD (i + 1) 0 by omega, h3] at h4
    cases h4

theorem red_lt {s N : List Int} (h : Names s N) : ∀ d i j, N.length - i = d → i < N.length → j < N.length → ltE N i j → ltE s ((firstN s).getD i 0) ((firstN s).getD j 0) := by
  intro d
  induction d with
  | zero => intro i j h1 h2; omega
  | succ d ih =>
    intro i j hd hi hj hlt
    have hl := h.len
    have fi := firstN_at (s := s) (i := i) (by omega)
    have fj := firstN_at (s := s) (i := j) (by omega)
    rcases Int.lt_trichotomy (N.getD i 0) (N.getD j 0) with hc | hc | hc
    · exact cut_lt _ _ _ rfl fi.1 fj.1 ((h.lt i j hi hj).1 hc)
    · have hne : i ≠ j := fun e => by
        subst e
        exact ltE_irrefl hlt
      have hne2 : (firstN s).getD i 0 ≠ (firstN s).getD j 0 := fun e => by
        rcases Nat.lt_or_gt_of_ne hne with g | g
        · have := firstN_lt s g (by omega); omega
        · have := firstN_lt s g (by omega); omega
      obtain ⟨e, e1, e2, e3, e4, e5⟩ := cut_same _ _ _ rfl fi.1 fj.1 hne2 (h.same hi hj hc)
      obtain ⟨n1, n2⟩ := firstN_next (s := s) (i := i) (by omega) e1 e2 fun x h1 h2 => (e4 x h1 h2).1
      obtain ⟨n3, n4⟩ := firstN_next (s := s) (i := j) (by omega) e1 e3 fun x h1 h2 => (e4 x h1 h2).2
      rw [ltE_same hi hj hc] at hlt
      have := ih (i + 1) (j + 1) (by omega) (by omega) (by omega) hlt
      rw [n2, n4] at this
      exact e5.2 this
    · exact absurd (ltE_trans hlt (ltE_less hj hi hc)) ltE_irrefl

/-- The names' order brings the first places into theirs. -/
theorem red_ord {s N : List Int} {R : List Nat} (h : Names s N) (hR : InOrd N R) : (R.map fun i => (firstN s).getD i 0).Perm (firstN s) ∧ (R.map fun i => (firstN s).getD i 0).Pairwise (ltE s) := by
  constructor
  · have h1 := hR.1.map fun i => (firstN s).getD i 0
    refine h1.trans ?_
    have e : (List.range N.length).map (fun i => (firstN s).getD i 0) = firstN s := natL_ext (by rw [List.length_map, List.length_range, h.len]) fun i hi => by
      rw [List.length_map, List.length_range] at hi
      exact mapI_at _ _ hi
    rw [e]
  · rw [List.pairwise_map]
    refine hR.2.imp_of_mem fun ha hb hlt => ?_
    exact red_lt h _ _ _ rfl (List.mem_range.1 (hR.1.mem_iff.1 ha)) (List.mem_range.1 (hR.1.mem_iff.1 hb)) hlt
theorem sais_ord {s : List Int} {K : Nat} {F : List Nat} (f : Fits s K) (hp : F.Perm (firstN s)) (ho : F.Pairwise (ltE s)) : ∃ R, indI s K F = natL R ∧ InOrd s R := by
  obtain ⟨R, h1, h2, _, h4⟩ := indI_all f ⟨hp⟩
  exact ⟨R, h1, h2, h4 ho⟩

/-- The first places as a row has them. -/
def firOf (s : List Int) (R : List Nat) : List Nat := R.filter (fsB s)
theorem firOf_perm {s : List Int} {R : List Nat} (h : R.Perm (List.range s.length)) : (firOf s R).Perm (firstN s) := h.filter _
theorem firOf_cut {s : List Int} {R : List Nat} (h : R.Pairwise (fun a b => cmpI (cutW s a) (cutW s b) ≤ 0)) : (firOf s R).Pairwise (fun a b => cmpI (cutW s a) (cutW s b) ≤ 0) := h.filter _
/-- Where no two parts are one, their order is that of the endings. -/
theorem firOf_ord {s : List Int} {G : List Nat} (hp : G.Perm (firstN s)) (h : G.Pairwise (fun a b => cmpI (cutW s a) (cutW s b) ≤ 0)) (hd : ∀ t, t + 1 < G.length → cutW s (G.getD t 0) ≠ cutW s (G.getD (t + 1) 0)) : G.Pairwise (ltE s) := by
  rw [List.pairwise_iff_getElem]
  intro i j hi hj hij
  have mem : ∀ t, t < G.length → G.getD t 0 < s.length := fun t ht => (firN_mem.1 (hp.mem_iff.1 (getN_mem ht))).1
  have key : ∀ d t, t + d + 1 < G.length → ltE s (G.getD t 0) (G.getD (t + d + 1) 0) := by
    intro d
    induction d with
    | zero =>
      intro t ht
      have h1 := pairN_at h (show t < t + 1 by omega) (by omega)
      have h2 : cmpI (cutW s (G.getD t 0)) (cutW s (G.getD (t + 1) 0)) ≠ 0 := fun e => hd t (by omega) (cmpI_zero e)
      exact cut_lt _ _ _ rfl (mem t (by omega)) (mem (t + 1) (by omega)) (Int.lt_iff_le_and_ne.2 ⟨h1, h2⟩)
    | succ d ih =>
      intro t ht
      have h1 := ih t (by omega)
      have h2 := pairN_at h (show t + d + 1 < t + (d + 1) + 1 by omega) (by omega)
      have h3 : cmpI (cutW s (G.getD (t + d + 1) 0)) (cutW s (G.getD (t + d + 1 + 1) 0)) ≠ 0 := fun e => hd (t + d + 1) (by omega) (cmpI_zero e)
      refine ltE_trans h1 (cut_lt _ _ _ rfl (mem _ (by omega)) (mem _ (by omega)) ?_)
      rw [show t + (d + 1) + 1 = t + d + 1 + 1 by omega] at h2 ⊢
      omega
  have := key (j - i - 1) i (by omega)
  rw [show i + (j - i - 1) + 1 = j by omega] at this
  simpa [List.getD, List.getElem?_eq_getElem hi, List.getElem?_eq_getElem hj] using this

/-- Names by counting: one more where a part is not the one ahead of it. -/
def nmG (s : List Int) (G : List Nat) : Nat → Nat
  | 0 => 0
  | t + 1 => nmG s G t + if cutW s (G.getD t 0) = cutW s (G.getD (t + 1) 0) then 0 else 1
theorem nmG_same {s : List Int} {G : List Nat} {t : Nat} (h : cutW s (G.getD t 0) = cutW s (G.getD (t + 1) 0)) : nmG s G (t + 1) = nmG s G t := by
  show nmG s G t + _ = _
  rw [if_pos h]; rfl
theorem nmG_other {s : List Int} {G : List Nat} {t : Nat} (h : cutW s (G.getD t 0) ≠ cutW s (G.getD (t + 1) 0)) : nmG s G (t + 1) = nmG s G t + 1 := by
  show nmG s G t + _ = _
  rw [if_neg h]
theorem nmG_le (s : List Int) (G : List Nat) (t : Nat) : nmG s G t ≤ t := by
  induction t with
  | zero => exact Nat.le_refl _
  | succ t ih =>
    show nmG s G t + _ ≤ _
    split <;> omega
theorem nmG_step (s : List Int) (G : List Nat) (t : Nat) : nmG s G t ≤ nmG s G (t + 1) := by
  show _ ≤ nmG s G t + _
  omega
theorem nmG_mono (s : List Int) (G : List Nat) {t u : Nat} (h : t ≤ u) : nmG s G t ≤ nmG s G u := by
  induction h with
  | refl => exact Nat.le_refl _
  | step _ ih => exact Nat.le_trans ih (nmG_step _ _ _)
theorem cmpI_anti {x y : List Int} (h1 : cmpI x y ≤ 0) (h2 : cmpI y x ≤ 0) : x = y := by
  rw [cmpI_swap] at h2
  exact cmpI_zero (by omega)
theorem nmG_iff {s : List Int} {G : List Nat} (h : G.Pairwise (fun a b => cmpI (cutW s a) (cutW s b) ≤ 0)) : ∀ d t, t + d < G.length → (nmG s G t = nmG s G (t + d) ↔ cutW s (G.getD t 0) = cutW s (G.getD (t + d) 0)) := by
  intro d
  induction d with
  | zero => intro t _; simp
  | succ d ih =>
    intro t ht
    have i1 := ih t (by omega)
    have m1 := nmG_mono s G (show t ≤ t + d by omega)
    by_cases e : cutW s (G.getD (t + d) 0) = cutW s (G.getD (t + d + 1) 0)
    · rw [show t + (d + 1) = t + d + 1 by omega, nmG_same e, ← e]
      exact i1
    · rw [show t + (d + 1) = t + d + 1 by omega, nmG_other e]
      constructor
      · intro h1; omega
      · intro h1
        exfalso
        by_cases hd : d = 0
        · subst hd
          exact e h1
        · have p1 := pairN_at h (show t < t + d by omega) (by omega)
          have p2 := pairN_at h (show t + d < t + d + 1 by omega) (by omega)
          rw [← h1] at p2
          exact e ((cmpI_anti p1 p2).symm.trans h1)
theorem nmG_lt {s : List Int} {G : List Nat} (h : G.Pairwise (fun a b => cmpI (cutW s a) (cutW s b) ≤ 0)) {t u : Nat} (ht : t < G.length) (hu : u < G.length) : nmG s G t < nmG s G u ↔ cmpI (cutW s (G.getD t 0)) (cutW s (G.getD u 0)) < 0 := by
  have key : ∀ {a b : Nat}, a < b → b < G.length → (nmG s G a < nmG s G b ↔ cmpI (cutW s (G.getD a 0)) (cutW s (G.getD b 0)) < 0) ∧ cmpI (cutW s (G.getD a 0)) (cutW s (G.getD b 0)) ≤ 0 := fun {a b} hab hb => by
    have h1 := nmG_iff h (b - a) a (by omega)
    rw [show a + (b - a) = b by omega] at h1
    have h2 := pairN_at h hab hb
    have h3 := nmG_mono s G (show a ≤ b by omega)
    refine ⟨⟨fun h4 => ?_, fun h4 => ?_⟩, h2⟩
    · have : cmpI (cutW s (G.getD a 0)) (cutW s (G.getD b 0)) ≠ 0 := fun e => by have := h1.2 (cmpI_zero e); omega
      omega
    · have : nmG s G a ≠ nmG s G b := fun e => by
        rw [h1.1 e, cmpI_self] at h4
        omega
      omega
  rcases Nat.lt_trichotomy t u with g | g | g
  · exact (key g hu).1
  · subst g
    rw [cmpI_self]
    omega
  · have h1 := nmG_mono s G (show u ≤ t by omega)
    have h2 := (key g ht).2
    rw [cmpI_swap] at h2
    omega
/-- The names that counting gives, laid by the first places' order in the text. -/
theorem names_of {s N : List Int} {G : List Nat} (hp : G.Perm (firstN s)) (h : G.Pairwise (fun a b => cmpI (cutW s a) (cutW s b) ≤ 0)) (hl : N.length = (firstN s).length) (hN : ∀ t i, t < G.length → i < N.length → G.getD t 0 = (firstN s).getD i 0 → N.getD i 0 = (nmG s G t : Int)) : Names s N := by
  refine ⟨hl, fun i j hi hj => ?_⟩
  obtain ⟨t, ht, et⟩ := mem_getN (hp.mem_iff.2 (getN_mem (l := firstN s) (i := i) (by omega)))
  obtain ⟨u, hu, eu⟩ := mem_getN (hp.mem_iff.2 (getN_mem (l := firstN s) (i := j) (by omega)))
  rw [hN t i ht hi et, hN u j hu hj eu, ← et, ← eu, ← nmG_lt h ht hu]
  omega
end Go.Proofs.Ytokmlklcjipkiaa

/- Pieces from one first place to the next, by their numbers alone. Plain numbers, no conditions. -/
namespace Go.Proofs.Ytokmlklcjipkiaa
set_option linter.unusedVariables false
set_option linter.unusedSimpArgs false

theorem cutW_run {s : List Int} : ∀ (e a : Nat), 1 ≤ e → a + e < s.length → fsB s (a + e) = true → (∀ x, 1 ≤ x → x < e → fsB s (a + x) = false) → cutW s a = (List.range (e + 1)).map fun (x : Nat) => codeI s (a + x) := by
  intro e
  induction e with
  | zero => intro a h; omega
  | succ e ih =>
    intro a _ hl hf hb
    rw [cutW_cons (by omega), List.range_succ_eq_map]
    simp only [List.map_cons, List.map_map, Nat.add_zero]
    congr 1
    by_cases h0 : e = 0
    · subst h0
      rw [if_pos hf]
      simp [List.range_succ]
    · rw [hb 1 (by omega) (by omega), if_neg (by simp), ih (a + 1) (by omega) (by omega) (by rw [show a + 1 + e = a + (e + 1) by omega]; exact hf) (fun x h1 h2 => by rw [show a + 1 + x = a + (x + 1) by omega]; exact hb (x + 1) (by omega) (by omega))]
      refine List.map_congr_left fun x _ => ?_
      show codeI s (a + 1 + x) = codeI s (a + (x + 1))
      rw [show a + 1 + x = a + (x + 1) by omega]
theorem same_kinds {s : List Int} {a b e : Nat} (hae : a + e < s.length) (hbe : b + e < s.length) (ha : smB s (a + e) = true) (hb : smB s (b + e) = true) (hn : ∀ x, x ≤ e → s.getD (a + x) 0 = s.getD (b + x) 0) : ∀ d x, x + d = e → smB s (a + x) = smB s (b + x) := by
  intro d
  induction d with
  | zero =>
    intro x hx
    rw [show x = e by omega, ha, hb]
  | succ d ih =>
    intro x hx
    rw [smB_next (i := a + x) (by omega), smB_next (i := b + x) (by omega), hn x (by omega), show a + x + 1 = a + (x + 1) by omega, show b + x + 1 = b + (x + 1) by omega, hn (x + 1) (by omega), ih (x + 1) (by omega)]
/-- The numbers from place a to place b. -/
def secI (s : List Int) (a b : Nat) : List Int := (s.take (b + 1)).drop a
theorem secI_len {s : List Int} {a b : Nat} (hab : a ≤ b) (hb : b < s.length) : (secI s a b).length = b - a + 1 := by
  unfold secI
  rw [List.length_drop, List.length_take]
  omega
theorem secI_at {s : List Int} {a b x : Nat} (hab : a ≤ b) (hb : b < s.length) (hx : x ≤ b - a) : (secI s a b).getD x 0 = s.getD (a + x) 0 := by
  unfold secI
  simp only [List.getD, List.getElem?_drop, List.getElem?_take]
  rw [if_pos (by omega)]
theorem firstN_gap {s : List Int} {i : Nat} (hi : i + 1 < (firstN s).length) : ∀ x, 1 ≤ x → x < (firstN s).getD (i + 1) 0 - (firstN s).getD i 0 → fsB s ((firstN s).getD i 0 + x) = false := fun x h1 h2 => by
  cases hf : fsB s ((firstN s).getD i 0 + x) with
  | false => rfl
  | true =>
    have hlt : (firstN s).getD i 0 + x < s.length := by have := (firstN_at hi).1; omega
    have hm : (firstN s).getD i 0 + x ∈ firstN s := firN_mem.2 ⟨hlt, hf⟩
    obtain ⟨j, hj, ej⟩ := mem_getN hm
    rcases Nat.lt_or_ge i j with g | g
    · rcases Nat.lt_or_ge j (i + 1) with g2 | g2
      · omega
      · by_cases e : j = i + 1
        · rw [e] at ej; omega
        · have := firstN_lt s (show i + 1 < j by omega) hj; omega
    · by_cases e : j = i
      · rw [e] at ej; omega
      · have := firstN_lt s (show j < i by omega) (by omega); omega
theorem cutW_sec {s : List Int} {i : Nat} (hi : i + 1 < (firstN s).length) : cutW s ((firstN s).getD i 0) = (List.range ((firstN s).getD (i + 1) 0 - (firstN s).getD i 0 + 1)).map fun (x : Nat) => codeI s ((firstN s).getD i 0 + x) := by
  have h1 := firstN_lt s (show i < i + 1 by omega) hi
  have h2 := firstN_at (s := s) hi
  exact cutW_run _ _ (by omega) (by omega) (by rw [show (firstN s).getD i 0 + ((firstN s).getD (i + 1) 0 - (firstN s).getD i 0) = (firstN s).getD (i + 1) 0 by omega]; exact h2.2) (firstN_gap hi)
theorem sec_cut {s : List Int} {i j : Nat} (hi : i + 1 < (firstN s).length) (hj : j + 1 < (firstN s).length) :
    secI s ((firstN s).getD i 0) ((firstN s).getD (i + 1) 0) = secI s ((firstN s).getD j 0) ((firstN s).getD (j + 1) 0) ↔ cutW s ((firstN s).getD i 0) = cutW s ((firstN s).getD j 0) := by
  have i1 := firstN_lt s (show i < i + 1 by omega) hi
  have i2 := firstN_at (s := s) hi
  have j1 := firstN_lt s (show j < j + 1 by omega) hj
  have j2 := firstN_at (s := s) hj
  rw [cutW_sec hi, cutW_sec hj]
  generalize hA : (firstN s).getD i 0 = a at *
  generalize hB : (firstN s).getD (i + 1) 0 = b at *
  generalize hC : (firstN s).getD j 0 = c at *
  generalize hD : (firstN s).getD (j + 1) 0 = d at *
  constructor
  · intro h
    have hl := congrArg List.length h
    rw [secI_len (by omega) i2.1, secI_len (by omega) j2.1] at hl
    have hn : ∀ x, x ≤ b - a → s.getD (a + x) 0 = s.getD (c + x) 0 := fun x hx => by rw [← secI_at (by omega) i2.1 hx, h, secI_at (by omega) j2.1 (by omega)]
    have hk := same_kinds (s := s) (a := a) (b := c) (e := b - a) (by omega) (by omega) (by rw [show a + (b - a) = b by omega]; exact (fsB_iff.1 i2.2).2.1) (by rw [show c + (b - a) = d by omega]; exact (fsB_iff.1 j2.2).2.1) hn
    rw [show d - c = b - a by omega]
    refine List.map_congr_left fun x hx => ?_
    rw [List.mem_range] at hx
    unfold codeI
    rw [hn x (by omega), hk (b - a - x) x (by omega)]
  · intro h
    have hl := congrArg List.length h
    simp only [List.length_map, List.length_range] at hl
    refine rowI_ext (by rw [secI_len (by omega) i2.1, secI_len (by omega) j2.1]; omega) fun x hx => ?_
    rw [secI_len (by omega) i2.1] at hx
    rw [secI_at (by omega) i2.1 (by omega), secI_at (by omega) j2.1 (by omega)]
    have : ((List.range (b - a + 1)).map fun (x : Nat) => codeI s (a + x)).getD x 0 = ((List.range (d - c + 1)).map fun (x : Nat) => codeI s (c + x)).getD x 0 := by rw [h]
    rw [mapI_at _ _ (by omega), mapI_at _ _ (by omega)] at this
    exact (codeI_eq this).1
/-- Are two pieces alike, by their numbers? The last one is like none. -/
def alikeB (s : List Int) (i j : Nat) : Bool := decide (i + 1 < (firstN s).length ∧ j + 1 < (firstN s).length ∧ secI s ((firstN s).getD i 0) ((firstN s).getD (i + 1) 0) = secI s ((firstN s).getD j 0) ((firstN s).getD (j + 1) 0))
theorem alikeB_cut {s : List Int} {i j : Nat} (hi : i < (firstN s).length) (hj : j < (firstN s).length) (hne : i ≠ j) : alikeB s i j = decide (cutW s ((firstN s).getD i 0) = cutW s ((firstN s).getD j 0)) := by
  unfold alikeB
  refine decide_eq_decide.2 ⟨fun h => (sec_cut h.1 h.2.1).1 h.2.2, fun h => ?_⟩
  have fi := firstN_at hi
  have fj := firstN_at hj
  have hne2 : (firstN s).getD i 0 ≠ (firstN s).getD j 0 := fun e => by
    rcases Nat.lt_or_gt_of_ne hne with g | g
    · have := firstN_lt s g hj; omega
    · have := firstN_lt s g hi; omega
  obtain ⟨e, e1, e2, e3, e4, e5⟩ := cut_same _ _ _ rfl fi.1 fj.1 hne2 h
  obtain ⟨n1, _⟩ := firstN_next (s := s) (i := i) hi e1 e2 fun x h1 h2 => (e4 x h1 h2).1
  obtain ⟨n3, _⟩ := firstN_next (s := s) (i := j) hj e1 e3 fun x h1 h2 => (e4 x h1 h2).2
  exact ⟨n1, n3, (sec_cut n1 n3).2 h⟩
end Go.Proofs.Ytokmlklcjipkiaa

/- Contract of slices.Equal at ints. -/
namespace Go.Proofs.Ytokmlklcjipkiaa
set_option linter.unusedVariables false
set_option linter.unusedSimpArgs false
open Go.RowKit

set_option maxHeartbeats 400000 in
theorem equalI_any (u v : Value) (x y : List Int) (w : World) (hu : Sl .i64 w u x) (hv : Sl .i64 w v y) (hx : x.length ≤ 1000000) (hy : y.length ≤ 1000000) :
    Calls Try.prog 51 #[u, v] w fun e w' => e = .returned (.bool (decide (x = y))) ∧ ∃ m, w' = w.drewN m := by
  have HU := hide' hu
  have HV := hide' hv
  obtain ⟨a, c, rfl, _⟩ := hu
  obtain ⟨a', c', rfl, _⟩ := hv
  by_cases hl : x.length = y.length
  · obtain ⟨n, hn1⟩ : ∃ n, x.length = n := ⟨_, rfl⟩
    have hn2 : y.length = n := by omega
    rw [hn1] at HU hx ⊢
    rw [hn2] at HV hy ⊢
    have HXL := hide' hn1
    have HYL := hide' hn2
    clear hn1 hn2 hl
    have hd : ((n : Int) != (n : Int)) = false := by simp
    go_enter Try.func51, Try.ntmps51
    go_wp2
    go_loopw [13] (fun vk wr => ∃ (k : Nat), k ≤ n ∧ vk = .int .i64 k ∧ Hid (x.take k = y.take k) ∧ ∃ m, wr = w.drewN m) (fun vk _ => n - (intOf vk).toNat)
    case atStart => exact ⟨0, Nat.zero_le _, rfl, (show _ = _ by simp), 0, rfl⟩
    case round =>
      obtain ⟨k, hk, rfl, HK, m, rfl⟩ := hrel
      by_cases l1 : k < n
      · have hne1 : x ≠ [] := fun h => by have := HXL.out; rw [h] at this; simp at this; omega
        have hne2 : y ≠ [] := fun h => by have := HYL.out; rw [h] at this; simp at this; omega
        obtain ⟨_, b1, o1, e1, c1⟩ := HU.out.at hne1
        obtain ⟨_, b2, o2, e2, c2⟩ := HV.out.at hne2
        have c1' := c1 k l1
        have c2' := c2 k l1
        obtain ⟨p, HP⟩ : ∃ p, Hid (x.getD k 0 = p) := ⟨_, rfl⟩
        obtain ⟨q, HQ⟩ : ∃ q, Hid (y.getD k 0 = q) := ⟨_, rfl⟩
        rw [HP.out] at c1'
        rw [HQ.out] at c2'
        subst e1 e2
        clear c1 c2 hne1 hne2
        have l1' : (k : Int) < n := by omega
        by_cases hpq : p = q
        · have HK' : Hid (x.take (k + 1) = y.take (k + 1)) := take_ext_succ (by rw [HXL.out]; exact l1) (by rw [HYL.out]; exact l1) HK.out (by rw [HP.out, HQ.out, hpq])
          subst hpq
          have hpq' : (p != p) = false := by simp
          go_wp2_with fail
          go_quiet (fail)
          go_wp2
          go_roundw
          case rel => exact ⟨k + 1, by omega, by go_num, HK', _, rfl⟩
          case measure => simp [intOf]; omega
        · have hpq' : (p != q) = true := by simpa using hpq
          have hpq2 : (p == q) = false := by simpa using hpq
          have HD : Hid (decide (x = y) = false) := by
            show _ = _
            refine decide_eq_false fun h => hpq ?_
            rw [← HP.out, ← HQ.out, h]
          clear hpq
          go_wp2_with fail
          go_quiet (fail)
          go_wp2
          go_ret
          rw [HD.out]
          exact ⟨rfl, _, by first | rfl | rw [World.drewN_drewN]⟩
      · have l1' : decide ((k : Int) < n) = false := by simp; omega
        have HD : Hid (decide (x = y) = true) := by
          show _ = _
          refine decide_eq_true ?_
          have := HK.out
          rwa [List.take_of_length_le (by rw [HXL.out]; omega), List.take_of_length_le (by rw [HYL.out]; omega)] at this
        go_wp2
        go_ret
        rw [HD.out]
        exact ⟨rfl, _, rfl⟩
  · have hd : ((x.length : Int) != (y.length : Int)) = true := by simp; omega
    have hd2 : ((x.length : Int) == (y.length : Int)) = false := by simp; omega
    have HD : Hid (decide (x = y) = false) := by
      show _ = _
      exact decide_eq_false fun h => hl (by rw [h])
    clear hl
    go_enter Try.func51, Try.ntmps51
    go_wp2
    go_ret
    rw [HD.out]
    exact ⟨rfl, 0, rfl⟩

end Go.Proofs.Ytokmlklcjipkiaa

/- Contract of sais.alike. -/
namespace Go.Proofs.Ytokmlklcjipkiaa
set_option linter.unusedVariables false
set_option linter.unusedSimpArgs false
open Go.RowKit

set_option maxHeartbeats 1000000 in
theorem saAlike_any (sv fv : Value) (s : List Int) (i j : Nat) (w : World) (hs : Sl .i64 w sv s) (hf : Sl .i64 w fv (natL (firstN s))) (hi : i < (firstN s).length) (hj : j < (firstN s).length) (hlen : s.length ≤ 1000000) :
    Calls Try.prog 49 #[sv, fv, .int .i64 i, .int .i64 j] w fun e w' => e = .returned (.bool (alikeB s i j)) ∧ ∃ m, w' = w.drewN m := by
  have HV := hide' hs
  have HF := hide' hf
  have hfl : (firstN s).length ≤ s.length := by have := firstN_half s; omega
  obtain ⟨a, c, rfl, _⟩ := hs
  obtain ⟨a', c', rfl, _⟩ := hf
  obtain ⟨_, _, _, hcf⟩ := HF.out.nat
  have HLN := hide' (natL_len (firstN s))
  rw [HLN.out] at HF hcf ⊢
  obtain ⟨n, HN⟩ : ∃ n, Hid (s.length = n) := ⟨_, rfl⟩
  obtain ⟨f, HL⟩ : ∃ f, Hid ((firstN s).length = f) := ⟨_, rfl⟩
  have HVN := HV
  rw [HN.out] at HVN hlen hfl ⊢
  rw [HL.out] at HF hcf hfl hi hj ⊢
  obtain ⟨g, off, rfl, kc⟩ := hcf (by omega)
  have KC := hide' kc
  clear hcf kc
  have h1 : (f : Int) - 1 = ((f - 1 : Nat) : Int) := by omega
  by_cases hil : i + 1 = f
  · have d1 : ((i : Int) == ((f - 1 : Nat) : Int)) = true := by simp; omega
    have HA : Hid (alikeB s i j = false) := by
      show _ = _
      unfold alikeB
      refine decide_eq_false fun h => ?_
      have := h.1
      rw [HL.out] at this
      omega
    rw [HA.out]
    clear hil
    go_enter Try.func49, Try.ntmps49
    go_wp2
    go_ret
    exact ⟨rfl, 0, rfl⟩
  · have d1 : ((i : Int) == ((f - 1 : Nat) : Int)) = false := by simp; omega
    by_cases hjl : j + 1 = f
    · have d2 : ((j : Int) == ((f - 1 : Nat) : Int)) = true := by simp; omega
      have HA : Hid (alikeB s i j = false) := by
        show _ = _
        unfold alikeB
        refine decide_eq_false fun h => ?_
        have := h.2.1
        rw [HL.out] at this
        omega
      rw [HA.out]
      clear hil hjl
      go_enter Try.func49, Try.ntmps49
      go_wp2
      go_ret
      exact ⟨rfl, 0, rfl⟩
    · have d2 : ((j : Int) == ((f - 1 : Nat) : Int)) = false := by simp; omega
      have hi1 : i + 1 < f := by omega
      have hj1 : j + 1 < f := by omega
      have ci := KC.out i hi
      have ci1 := KC.out (i + 1) hi1
      have cj := KC.out j hj
      have cj1 := KC.out (j + 1) hj1
      have i1 := firstN_lt s (show i < i + 1 by omega) (by rw [HL.out]; exact hi1)
      have i2 := (firstN_at (s := s) (i := i + 1) (by rw [HL.out]; exact hi1)).1
      have j1 := firstN_lt s (show j < j + 1 by omega) (by rw [HL.out]; exact hj1)
      have j2 := (firstN_at (s := s) (i := j + 1) (by rw [HL.out]; exact hj1)).1
      rw [HN.out] at i2 j2
      obtain ⟨D, HD⟩ : ∃ D, Hid (alikeB s i j = D) := ⟨_, rfl⟩
      have HA : Hid (decide (secI s ((firstN s).getD i 0) ((firstN s).getD (i + 1) 0) = secI s ((firstN s).getD j 0) ((firstN s).getD (j + 1) 0)) = D) := by
        show _ = _
        rw [← HD.out]
        unfold alikeB
        exact decide_eq_decide.2 ⟨fun h => ⟨by rw [HL.out]; exact hi1, by rw [HL.out]; exact hj1, h⟩, fun h => h.2.2⟩
      rw [HD.out]
      obtain ⟨A, hA⟩ : ∃ A, (firstN s).getD i 0 = A := ⟨_, rfl⟩
      obtain ⟨B, hB⟩ : ∃ A, (firstN s).getD (i + 1) 0 = A := ⟨_, rfl⟩
      obtain ⟨C, hC⟩ : ∃ A, (firstN s).getD j 0 = A := ⟨_, rfl⟩
      obtain ⟨E, hE⟩ : ∃ A, (firstN s).getD (j + 1) 0 = A := ⟨_, rfl⟩
      rw [hA, hB, hC, hE] at HA
      rw [hA] at ci i1
      rw [hB] at ci1 i1 i2
      rw [hC] at cj j1
      rw [hE] at cj1 j1 j2
      clear hA hB hC hE
      obtain ⟨p1, r1, s1⟩ := HVN.out.runCut (P := Try.prog) 32 3 Try.underlying32 sizeI64 A (B + 1) (by omega) (by rw [HN.out]; omega)
      obtain ⟨p2, r2, s2⟩ := HVN.out.runCut (P := Try.prog) 32 3 Try.underlying32 sizeI64 C (E + 1) (by omega) (by rw [HN.out]; omega)
      have l1 : (secI s A B).length ≤ 1000000 := by rw [secI_len (by omega) (by rw [HN.out]; exact i2)]; omega
      have l2 : (secI s C E).length ≤ 1000000 := by rw [secI_len (by omega) (by rw [HN.out]; exact j2)]; omega
      have HW : Hid (∀ m, Calls Try.prog 51 #[.slice p1 (B + 1 - A) (c - A), .slice p2 (E + 1 - C) (c - C)] (w.drewN m) fun e w' => e = .returned (.bool D) ∧ ∃ k, w' = (w.drewN m).drewN k) := fun m => by
        have := equalI_any _ _ (secI s A B) (secI s C E) (w.drewN m) (s1.drewN m) (s2.drewN m) l1 l2
        rw [HA.out] at this
        exact this
      have e1 : ((B : Int) + 1) = ((B + 1 : Nat) : Int) := by omega
      have e2 : ((E : Int) + 1) = ((E + 1 : Nat) : Int) := by omega
      have e3 : ((i : Int) + 1) = ((i + 1 : Nat) : Int) := by omega
      have e4 : ((j : Int) + 1) = ((j + 1 : Nat) : Int) := by omega
      have b3 : ((i + 1 : Nat) : Int) < f := by omega
      have b4 : ((j + 1 : Nat) : Int) < f := by omega
      generalize B + 1 - A = q1 at *
      generalize c - A = q2 at *
      generalize E + 1 - C = q3 at *
      generalize c - C = q4 at *
      generalize hI : i + 1 = I at *
      generalize hJ : j + 1 = J at *
      generalize hBB : B + 1 = BB at *
      generalize hEE : E + 1 = EE at *
      clear s1 s2 l1 l2 hil hjl hI hJ hBB hEE
      go_enter Try.func49, Try.ntmps49
      go_wp2_with fail
      go_quiet ((go_at_call 51; exact Calls.quiet_of (HW.out _)))
      go_wp2
      go_ret
      exact ⟨rfl, _, by first | rfl | rw [World.drewN_drewN]⟩
end Go.Proofs.Ytokmlklcjipkiaa

/- Contracts of math/bits.Mul64 and Mul. -/
namespace Go.Proofs.Ytokmlklcjipkiaa
set_option linter.unusedVariables false
set_option linter.unusedSimpArgs false
open Go.RowKit

theorem mulMask (a : Nat) (ha : a < 18446744073709551616) : bits .and .u64 (a : Int) 4294967295 = ((a % 4294967296 : Nat) : Int) := by
  have h := bits_and_u64_nat a 4294967295 ha (by omega)
  rw [show a &&& 4294967295 = a % 4294967296 from Nat.and_two_pow_sub_one_eq_mod a 32] at h
  exact h
theorem mulDiv (a : Nat) : (a : Int) / 4294967296 = ((a / 4294967296 : Nat) : Int) := by omega
theorem mulMul (a b : Nat) : (a : Int) * (b : Int) = ((a * b : Nat) : Int) := (Int.natCast_mul a b).symm
theorem mulAdd (a b : Nat) : (a : Int) + (b : Int) = ((a + b : Nat) : Int) := (Int.natCast_add a b).symm
theorem mulWrap (a : Nat) (ha : a < 18446744073709551616) : IntKind.u64.wrap (a : Int) = (a : Int) := by rw [IntKind.wrap_u64]; omega
theorem mulWrapM (a : Nat) : IntKind.u64.wrap (a : Int) = ((a % 18446744073709551616 : Nat) : Int) := by rw [IntKind.wrap_u64]; omega

set_option maxHeartbeats 1000000 in
theorem mul64_any (x y : Nat) (hx : x < 18446744073709551616) (hy : y < 18446744073709551616) (w : World) :
    Calls Try.prog 53 #[.int .u64 x, .int .u64 y] w fun e w' => e = .returned (.tuple #[.int .u64 ((x * y / 18446744073709551616 : Nat) : Int), .int .u64 ((x * y % 18446744073709551616 : Nat) : Int)]) ∧ w' = w := by
  obtain ⟨bd, bt, bw, hhi⟩ := Go.Lib.mul64_hi x y hx hy
  have ba := Go.Lib.half_mul_le (a := x / 4294967296) (b := y / 4294967296) (by omega) (by omega)
  have bb := Go.Lib.half_mul_le (a := x / 4294967296) (b := y % 4294967296) (by omega) (by omega)
  have bc := Go.Lib.half_mul_le (a := x % 4294967296) (b := y / 4294967296) (by omega) (by omega)
  have ba' : x / 4294967296 * (y / 4294967296) < 18446744073709551616 := by omega
  have bb' : x / 4294967296 * (y % 4294967296) < 18446744073709551616 := by omega
  have bc' : x % 4294967296 * (y / 4294967296) < 18446744073709551616 := by omega
  have bh1 : x / 4294967296 * (y / 4294967296) + (x / 4294967296 * (y % 4294967296) + x % 4294967296 * (y % 4294967296) / 4294967296) / 4294967296 < 18446744073709551616 := by omega
  have bh : x / 4294967296 * (y / 4294967296) + (x / 4294967296 * (y % 4294967296) + x % 4294967296 * (y % 4294967296) / 4294967296) / 4294967296 + ((x / 4294967296 * (y % 4294967296) + x % 4294967296 * (y % 4294967296) / 4294967296) % 4294967296 + x % 4294967296 * (y / 4294967296)) / 4294967296 < 18446744073709551616 := by omega
  go_enter Try.func53, Try.ntmps53
  go_wp2
  simp only [mulMask x hx, mulMask y hy, mulDiv, mulMul, mulAdd, mulWrap _ bd, mulWrap _ bb', mulWrap _ bt, mulMask _ bt, mulWrap _ bc', mulWrap _ bw, mulWrap _ ba', mulWrap _ bh1, mulWrap _ bh, mulWrapM (x * y)]
  rw [hhi]
  go_ret2
  exact ⟨rfl, rfl⟩

set_option maxHeartbeats 1000000 in
theorem mul_any (x y : Nat) (hx : x < 18446744073709551616) (hy : y < 18446744073709551616) (w : World) :
    Calls Try.prog 50 #[.int .u64 x, .int .u64 y] w fun e w' => e = .returned (.tuple #[.int .u64 ((x * y / 18446744073709551616 : Nat) : Int), .int .u64 ((x * y % 18446744073709551616 : Nat) : Int)]) ∧ w' = w := by
  have c64 := hide' (mul64_any x y hx hy w)
  go_enter Try.func50, Try.ntmps50
  go_wp2_with fail
  refine c64.out.mono ?_
  rintro e w' ⟨rfl, hw⟩
  rw [hw]
  go_wp2
  go_ret2
  exact ⟨rfl, rfl⟩
end Go.Proofs.Ytokmlklcjipkiaa

/- Contract of slices.Repeat at one int. -/
namespace Go.Proofs.Ytokmlklcjipkiaa
set_option linter.unusedVariables false
set_option linter.unusedSimpArgs false
open Go.RowKit

set_option maxRecDepth 100000 in
/-- 'copy(s[o:], x)', s the call's own. -/
theorem copy_own {B : Nat} {w : World} {g n cap : Nat} {zs : List Int} (ys : List Int) (h : Own .i64 3 B w (.slice (some ⟨g, 0, none⟩) n cap) zs) (hn : zs.length = n) {o d dCap b off sLen sCap : Nat} (hod : o + d ≤ n)
    (hs : ∀ i, i < ys.length → w.cell? ⟨b, off + i, none⟩ = some (.int .i64 (ys.getD i 0))) (hl : ys.length = Nat.min sLen d) :
    ∃ w', (∀ ty, (Builtin.copy_ #[32, 32] ty #[.slice (some ⟨g, o, none⟩) d dCap, .slice (some ⟨b, off, none⟩) sLen sCap]).run Try.prog w = .ok (goInt ys.length) w') ∧
      Own .i64 3 B w' (.slice (some ⟨g, 0, none⟩) n cap) (zs.take o ++ ys ++ zs.drop (o + ys.length)) ∧ But g w w' := by
  have hyd : ys.length ≤ d := by rw [hl]; exact Nat.min_le_right _ _
  obtain ⟨h1, h2⟩ := h
  rcases h2 with ⟨h2, _⟩ | ⟨g', cap', cur, h2, hB, hh, h3, h4, h5, h6⟩
  · cases h2
  · simp only [Value.slice.injEq, Option.some.injEq, Addr.mk.injEq] at h2
    obtain ⟨⟨rfl, _⟩, _, rfl⟩ := h2
    rw [Nat.mul_one] at h5 h6
    have hcn : cur.toList.length = cap := by simpa using h5
    obtain ⟨i0, hi, hz0, hz1, hz2⟩ := info_parts infoI64
    refine ⟨w.setRow g (cur.toList.take o ++ ys.map (Value.int .i64) ++ cur.toList.drop (o + (ys.map (Value.int .i64)).length)).toArray, fun ty => ?_, ?_, ?_⟩
    · have := run_copy_row (P := Try.prog) w 32 32 ty 3 g o d dCap ⟨b, off, none⟩ sLen sCap cur 3 (ys.map (Value.int .i64)) Try.underlying32 (by rw [hi]; simp [hz1]) hh (by rw [List.length_map]; exact hl)
        (fun j v hj => by
          have hjl : j < ys.length := by
            rcases Nat.lt_or_ge j ys.length with q | q
            · exact q
            · simp [List.getElem?_eq_none (show (ys.map (Value.int .i64)).length ≤ j by simpa using q)] at hj
          rw [Go.WideShapes.add_plain, hs j hjl]
          simp [List.getElem?_eq_getElem hjl] at hj
          subst hj
          simp [List.getD, List.getElem?_eq_getElem hjl]) (by rw [List.length_map, h5]; omega) (ints_one ys)
      rw [List.length_map (f := Value.int .i64)] at this ⊢
      exact this
    · refine ⟨by simp, .inr ⟨g, cap, _, ?_, hB, setRow_heap w g cur _ 3 (0, 0) hh, by simp; omega, h4, ?_, ?_⟩⟩
      · rw [show (zs.take o ++ ys ++ zs.drop (o + ys.length)).length = n by simp; omega]
      · simp; omega
      · rw [show (zs.take o ++ ys ++ zs.drop (o + ys.length)).length = n by simp; omega, Nat.mul_one]
        simp only [List.map_append, List.map_take, List.map_drop, List.length_map]
        rw [← h6]
        have e1 : cur.toList = cur.toList.take n ++ cur.toList.drop n := (List.take_append_drop _ _).symm
        rw [hn]
        apply List.ext_getElem?
        intro i
        simp only [List.getElem?_take, List.getElem?_append, List.length_append, List.length_take, List.length_map, List.getElem?_drop, hcn]
        by_cases hin : i < n
        · rw [if_pos hin]
          split
          · split
            · rw [if_pos (by omega), if_pos (by omega), if_pos (by omega)]
            · rw [if_pos (by omega), if_neg (by omega)]
              congr 1
              omega
          · rw [if_neg (by omega), if_pos (by omega)]
            congr 1
            omega
        · rw [if_neg hin, if_neg (by omega), if_neg (by omega)]
    · exact ⟨rfl, rfl, rfl, by simp [World.setRow], fun k _ hne => setRow_other w g k _ (fun e => hne (by rw [e]))⟩

theorem rep_step (z : Int) (k m d : Nat) (h : m ≤ d) : (List.replicate k z ++ List.replicate d 0).take k ++ List.replicate m z ++ (List.replicate k z ++ List.replicate d 0).drop (k + m) = List.replicate (k + m) z ++ List.replicate (d - m) 0 := by
  rw [List.take_left' (by simp), ← List.drop_drop, List.drop_left' (by simp), List.drop_replicate, List.replicate_append_replicate]
theorem rep_take (z : Int) (k m d : Nat) (h : m ≤ k) : ∀ i, i < m → (List.replicate k z ++ List.replicate d 0).getD i 0 = (List.replicate m z).getD i 0 := fun i hi => by
  simp [List.getD, List.getElem?_append, List.getElem?_replicate, hi, show i < k by omega]

set_option maxHeartbeats 1000000 in
theorem repeat_any (v : Value) (z : Int) (n : Nat) (w : World) (hv : Sl .i64 w v [z]) (hn : n ≤ 1000000) :
    Calls Try.prog 48 #[v, .int .i64 n] w fun e w' => e = .returned (.slice (some ⟨w.heap.size, 0, none⟩) n n) ∧ Own .i64 3 w.heap.size w' (.slice (some ⟨w.heap.size, 0, none⟩) n n) (List.replicate n z) ∧ Ext w w' := by
  have HV := hide' hv
  obtain ⟨a, c, rfl, _⟩ := hv
  obtain ⟨_, _, _, hcv⟩ := HV.out.int
  obtain ⟨b1, o1, rfl, k1⟩ := hcv (by simp)
  have K1 := hide' (k1 0 (by simp))
  clear k1 hcv
  obtain ⟨w1, hmk, ho, he⟩ := make_ints w n hn
  have HO := hide' ho
  have HE := hide' he
  have c1 : IntKind.u64.wrap 1 = 1 := by decide
  have c2 : IntKind.u64.wrap (n : Int) = (n : Int) := by rw [IntKind.wrap_u64]; omega
  have c3 : IntKind.i64.wrap (n : Int) = (n : Int) := by rw [IntKind.wrap_i64]; omega
  have c4 : decide ((n : Int) < 0) = false := by simp
  have HM : Hid (Calls Try.prog 50 #[.int .u64 1, .int .u64 n] w fun e w' => e = .returned (.tuple #[.int .u64 0, .int .u64 n]) ∧ w' = w) := by
    have h := mul_any 1 n (by omega) (by omega) w
    rw [Nat.one_mul, Nat.div_eq_of_lt (by omega), Nat.mod_eq_of_lt (by omega)] at h
    exact h
  have c5 : decide ((n : Int) > 9223372036854775807) = false := by simp; omega
  have c6 : decide ((9223372036854775807 : Int) < n) = false := by simp; omega
  clear ho he
  obtain ⟨g, HG⟩ : ∃ g, Hid (w.heap.size = g) := ⟨_, rfl⟩
  have hgw : w.heap.size ≤ g := by rw [HG.out]; exact Nat.le_refl _
  rw [HG.out] at HO hmk ⊢
  go_enter Try.func48, Try.ntmps48
  go_wp2_with fail
  refine HM.out.mono ?_
  rintro e _ ⟨rfl, hw⟩
  rw [hw]
  clear hw HM
  obtain ⟨m0, HM0⟩ : ∃ m, Hid (Nat.min 1 n = m) := ⟨_, rfl⟩
  have hm0 : m0 ≤ n := by rw [← HM0.out]; exact Nat.min_le_right _ _
  have hm1 : m0 ≤ 1 := by rw [← HM0.out]; exact Nat.min_le_left _ _
  have hm2 : n = 0 ∨ 0 < m0 := by
    by_cases h0 : n = 0
    · exact .inl h0
    · refine .inr ?_
      rw [← HM0.out]
      exact Nat.lt_min.2 ⟨by omega, by omega⟩
  obtain ⟨w2, hcp, ho, hb⟩ := copy_own (o := 0) (d := n) (dCap := n) (b := b1) (off := o1) (sLen := 1) (sCap := c) (List.replicate m0 z) HO.out (by simp) (by omega) (fun i hi => HE.out.cellOf (by
    rw [List.length_replicate] at hi
    have e0 : i = 0 := by omega
    subst e0
    rw [K1.out]
    simp [List.getD, hi])) (by rw [List.length_replicate]; exact HM0.out.symm)
  rw [List.length_replicate] at hcp
  have hcp' : ∀ ty, (Builtin.copy_ #[32, 32] ty #[.slice (some ⟨g, 0, none⟩) n n, .slice (some ⟨b1, o1, none⟩) 1 c]).run Try.prog w1 = .ok (.int .i64 (m0 : Int)) w2 := hcp
  have O2 : Hid (Own .i64 3 g w2 (.slice (some ⟨g, 0, none⟩) n n) (List.replicate m0 z ++ List.replicate (n - m0) 0)) := by
    have := ho
    simp only [List.take_zero, List.nil_append, List.length_replicate, Nat.zero_add, List.drop_replicate] at this
    exact this
  have E2 : Hid (Ext w w2) := Ext.but HE.out hgw hb
  have HM2 := hide' hm2
  clear hcp ho hb HE HO hm2
  go_wp2
  go_loopw [8] (fun vk wr => ∃ (k d : Nat), n = k + d ∧ Hid (d = 0 ∨ 0 < k) ∧ vk = .int .i64 k ∧ Hid (Own .i64 3 g wr (.slice (some ⟨g, 0, none⟩) n n) (List.replicate k z ++ List.replicate d 0)) ∧ Hid (Ext w wr)) (fun vk _ => n - (intOf vk).toNat)
  case atStart => exact ⟨m0, n - m0, by omega, (by show _ ∨ _; rcases HM2.out with h | h; exact .inl (by omega); exact .inr h), rfl, O2, E2⟩
  case round =>
    clear O2 E2
    obtain ⟨k, d, hkd, HK, rfl, HO, HE⟩ := hrel
    have HKD := hide' hkd
    by_cases hd : d = 0
    · subst hd
      have d1 : decide ((k : Int) < n) = false := by simp; omega
      have hkn : n = k := by omega
      clear hkd
      go_wp2
      go_ret
      have := HO.out
      rw [hkn] at this
      exact ⟨rfl, by simpa using this, HE.out⟩
    · have hlt : (k : Int) < n := by omega
      obtain ⟨m, HM⟩ : ∃ m, Hid (Nat.min k d = m) := ⟨_, rfl⟩
      have hmk : m ≤ k := by rw [← HM.out]; exact Nat.min_le_left _ _
      have hmd : m ≤ d := by rw [← HM.out]; exact Nat.min_le_right _ _
      have hm3 : 0 < m := by rw [← HM.out]; exact Nat.lt_min.2 ⟨by rcases HK.out with h | h <;> omega, by omega⟩
      have HL : Hid ((List.replicate k z ++ List.replicate d (0 : Int)).length = n) := by show _ = _; simp; omega
      obtain ⟨w3, hcp, ho, hb⟩ := copy_own (w := wr.drew) (o := k) (d := d) (dCap := d) (b := g) (off := 0) (sLen := k) (sCap := n) (List.replicate m z) (HO.out.ext (Ext.drewN wr 1)) HL.out (by omega) (fun i hi => by
        rw [List.length_replicate] at hi
        show (wr.drewN 1).cell? _ = _
        rw [Nat.zero_add, (HO.out.ext (Ext.drewN wr 1)).cell HL.out i (by omega), rep_take z k m d hmk i hi]) (by rw [List.length_replicate]; exact HM.out.symm)
      rw [List.length_replicate] at hcp
      rw [List.length_replicate, rep_step z k m d hmd] at ho
      have hcp' : ∀ ty, (Builtin.copy_ #[32, 32] ty #[.slice (some ⟨g, k, none⟩) d d, .slice (some ⟨g, 0, none⟩) k n]).run Try.prog wr.drew = .ok (.int .i64 (m : Int)) w3 := hcp
      have O3 := hide' ho
      have E3 : Hid (Ext w w3) := Ext.but (HE.out.trans (Ext.drewN wr 1)) hgw hb
      have hr1 : ∀ W, (Instr.slice 32 (.slice (some ⟨g, 0, none⟩) n n) (some (.int .i64 (k : Int))) none none).run Try.prog W = .ok (.slice (some ⟨g, k, none⟩) d d) W := fun W => by
        rw [run_slice_l W _ _ _ _ (show Try.prog.underlying 32 = some (.slice (Try.prog.elem 32)) by kernel_rfl) .i64 _ (by omega) (by omega), show Try.prog.elem 32 = 3 by kernel_rfl, sizeI64]
        simp only [Result.andThen, Int.toNat_natCast, sliced, Nat.mul_one]
        rw [show n - k = d by omega, if_neg (by omega)]
        have hk0 : k ≠ 0 := by rcases HK.out with h | h <;> omega
        simp [Addr.add, hk0]
      have hr2 : ∀ W, (Instr.slice 32 (.slice (some ⟨g, 0, none⟩) n n) none (some (.int .i64 (k : Int))) none).run Try.prog W = .ok (.slice (some ⟨g, 0, none⟩) k n) W := fun W => by
        exact ((Own.sl HO.out).runTake (P := Try.prog) 32 3 Try.underlying32 sizeI64 k (by rw [HL.out]; omega)).1 W
      clear hcp ho hb HO HE hkd
      go_wp2_with fail
      go_big_region
      all_goals
        go_wp2
        go_roundw
        case rel => exact ⟨k + m, d - m, by have := HKD.out; omega, (by show _ ∨ _; exact .inr (by omega)), by go_num, O3, E3⟩
        case measure => have := HKD.out; simp [intOf] <;> omega
end Go.Proofs.Ytokmlklcjipkiaa

/- Rows of truths that a call owns: made, read, stored to. No conditions. -/
namespace Go.Proofs.Ytokmlklcjipkiaa
set_option linter.unusedVariables false
set_option linter.unusedSimpArgs false
open Go.RowKit

theorem infoB : (Try.prog.info? 4).map (fun i => (i.zero, i.size, i.bytes)) = some (some (.bool false), 1, 1) := by kernel_rfl

/-- The call's own row of truths. -/
def OwnB (B : Nat) (w : World) (s : Value) (bs : List Bool) : Prop := w.ownsRow B 4 1 s bs.length (bs.map Value.bool)

theorem make_bools (w : World) (n : Nat) (hn : n ≤ 4000000) : ∃ w', (Instr.makeSlice 55 (.int .i64 (n : Int)) (.int .i64 (n : Int))).run Try.prog w = .ok (.slice (some ⟨w.heap.size, 0, none⟩) n n) w' ∧ OwnB w.heap.size w' (.slice (some ⟨w.heap.size, 0, none⟩) n n) (List.replicate n false) ∧ Ext w w' := by
  obtain ⟨i0, hi, hz0, hz1, hz2⟩ := info_parts infoB
  obtain ⟨w', h1, h2, h3⟩ := run_make_full (P := Try.prog) w w.heap.size 55 4 i0 (.bool false) 1 Try.underlying55 hi hz0 hz1 .i64 .i64 n (by rw [hz2]; omega) (by unfold maxLen; omega) (Nat.le_refl _)
  refine ⟨w', h1, ?_, ⟨h3.os, h3.tape, h3.output, h3.size, fun k hk => h3.block k hk (by simp)⟩⟩
  unfold OwnB
  have e1 : (Value.bool false).cells = #[Value.bool false] := rfl
  rw [e1, Nat.mul_one, toList_madeCells_one] at h2
  rw [List.length_replicate, List.map_replicate]
  exact h2

theorem OwnB.cell {B : Nat} {w : World} {g n cap : Nat} {bs : List Bool} (h : OwnB B w (.slice (some ⟨g, 0, none⟩) n cap) bs) (hn : bs.length = n) (j : Nat) (hj : j < n) : w.cell? ⟨g, j, none⟩ = some (.bool (bs.getD j false)) := by
  subst hn
  have := World.ownsRow.cellAt h j (by simpa using hj)
  rw [this]
  simp [List.getD, List.getElem?_eq_getElem hj]
theorem OwnB.frozen {B : Nat} {w : World} {g n cap : Nat} {bs : List Bool} (h : OwnB B w (.slice (some ⟨g, 0, none⟩) n cap) bs) (hn : bs.length = n) (j : Nat) : w.frozen? ⟨g, j, none⟩ = false := by
  subst hn
  exact World.ownsRow.frozenAt h j
theorem OwnB.store {B : Nat} {w : World} {g n cap : Nat} {bs : List Bool} (h : OwnB B w (.slice (some ⟨g, 0, none⟩) n cap) bs) (hn : bs.length = n) (j : Nat) (b : Bool) :
    OwnB B (w.setCell ⟨g, j, none⟩ (.bool b)) (.slice (some ⟨g, 0, none⟩) n cap) (bs.set j b) := by
  subst hn
  have := (World.ownsRow.stored h j (.bool b)).1
  unfold OwnB
  rw [List.length_set, List.map_set]
  exact this
theorem OwnB.ext {B : Nat} {w w' : World} {s : Value} {bs : List Bool} (h : OwnB B w s bs) (he : Ext w w') : OwnB B w' s bs :=
  World.ownsRow.kept (row := none) h ⟨he.os, he.tape, he.output, he.size, fun i hi _ => he.block i hi⟩ (by cases hv : s.ownBlock <;> simp)
/-- A row of truths that may be read. -/
def SlB (w : World) (v : Value) (bs : List Bool) : Prop :=
  ∃ a c, v = .slice a bs.length c ∧ bs.length ≤ c ∧ c ≤ maxLen ∧ (bs = [] ∨ ∃ b off, a = some ⟨b, off, none⟩ ∧ ∀ i, i < bs.length → w.cell? ⟨b, off + i, none⟩ = some (.bool (bs.getD i false)))

theorem SlB.ext {w w' : World} {v : Value} {bs : List Bool} (h : SlB w v bs) (he : Ext w w') : SlB w' v bs := by
  obtain ⟨a, c, h1, h2, h3, h4⟩ := h
  refine ⟨a, c, h1, h2, h3, ?_⟩
  rcases h4 with h4 | ⟨b, off, h4, h5⟩
  · exact .inl h4
  · exact .inr ⟨b, off, h4, fun i hi => he.cellOf (h5 i hi)⟩

theorem OwnB.sl {B : Nat} {w : World} {s : Value} {bs : List Bool} (h : OwnB B w s bs) : SlB w s bs := by
  obtain ⟨h1, h2⟩ := h
  rcases h2 with ⟨rfl, h2⟩ | ⟨g, cap, cur, rfl, _, hh, hn, hm, hs, ht⟩
  · exact ⟨none, 0, by rw [h2], by omega, by simp [maxLen], .inl (List.length_eq_zero_iff.1 h2)⟩
  · refine ⟨_, cap, rfl, hn, hm, .inr ⟨g, 0, rfl, fun i hi => ?_⟩⟩
    have : w.cell? ⟨g, 0 + i, none⟩ = cur[i]? := by simp [World.cell?, hh]
    rw [this]
    have h5 : cur.toList[i]? = (bs.map Value.bool)[i]? := by
      rw [← ht, List.getElem?_take, if_pos (by simpa using hi)]
    have h6 : cur[i]? = cur.toList[i]? := by simp
    rw [h6, h5]
    simp [List.getD, List.getElem?_eq_getElem hi]

theorem SlB.truth {w : World} {a : Option Addr} {n c : Nat} {bs : List Bool} (h : SlB w (.slice a n c) bs) : bs.length = n ∧ n ≤ c ∧ c ≤ maxLen ∧ (0 < n → ∃ g off, a = some ⟨g, off, none⟩ ∧ ∀ i, i < n → w.cell? ⟨g, off + i, none⟩ = some (.bool (bs.getD i false))) := by
  obtain ⟨a', c', h1, h2, h3, h4⟩ := h
  simp only [Value.slice.injEq] at h1
  obtain ⟨rfl, rfl, rfl⟩ := h1
  refine ⟨rfl, h2, h3, fun h0 => ?_⟩
  rcases h4 with h4 | ⟨b, off, h4, h5⟩
  · rw [h4] at h0; simp at h0
  · exact ⟨b, off, h4, h5⟩

theorem OwnB.nil (B : Nat) (w : World) : OwnB B w (.slice none 0 0) [] := World.ownsRow_nil _ _ _ _
theorem OwnB.alloc {B : Nat} {w : World} {s : Value} {bs : List Bool} (h : OwnB B w s bs) (o : Obj) : OwnB B (w.alloc o) s bs := World.ownsRow.alloc h o
theorem OwnB.low {B B' : Nat} {w : World} {s : Value} {bs : List Bool} (h : OwnB B w s bs) (hB : B' ≤ B) : OwnB B' w s bs := by
  obtain ⟨h1, h2⟩ := h
  refine ⟨h1, ?_⟩
  rcases h2 with h2 | ⟨g, cap, cur, h2, h3, h4⟩
  · exact .inl h2
  · exact .inr ⟨g, cap, cur, h2, Nat.le_trans hB h3, h4⟩

theorem oneB {b : Bool} : ∀ u ∈ [Value.bool b], u.oneCell' = true := by
  intro u hu; simp at hu; subst hu; rfl

/-- 'append(s, x)', s the call's own row of truths. -/
theorem wpList_snocB (w : World) {ops : Array Oper} {rest : List Oper} {o : Oper} {a : Act} {Q : Exit → Act → World → Prop} (hgd : o.guard = none) (s x : Operand)
    (ho : o.op = .call { callee := .builtin .append, args := #[s, x], argTypes := #[55, 55] }) (B : Nat) (v : Value) (bs : List Bool) (z : Bool) (ad : Addr) (hs : a.eval s = v) (hx : a.eval x = .slice (some ad) 1 1)
    (hcell : w.cell? ad = some (.bool z)) (hown : OwnB B w v bs) (hlen : bs.length + 1 ≤ 1000000) (hB : B ≤ w.heap.size)
    (h : ∀ v' w', OwnB B w' v' (bs ++ [z]) → Below B w w' → wpList Try.prog ops Q rest (a.put o.dst v') w') : wpList Try.prog ops Q (o :: rest) a w := by
  obtain ⟨i0, hi, hz0, hz1, hz2⟩ := info_parts infoB
  refine wpList_append_own w hgd s x 55 ho B 4 i0 (.bool false) 1 1 Try.underlying55 hi hz0 hz1 hz2 rfl (by decide) v _ _ hs hown ad 1 1 [.bool z] hx rfl ?_ oneB (by unfold maxLen; omega) (by omega) hB ?_
  · intro j u hj
    match j, hj with
    | 0, hj => simp at hj; subst hj; simpa [Addr.add] using hcell
  · intro v' w' h1 h2 _
    exact h v' w' (by unfold OwnB; simpa using h1) ((Below.refl _ _).grown h2 hB (fun k hk => (World.ownsRow.lt hown k hk).1))

theorem setB_same {l : List Bool} {i : Nat} {x : Bool} (h : i < l.length) : (l.set i x).getD i false = x := by simp [List.getD, h]
theorem setB_other {l : List Bool} {i j : Nat} {x : Bool} (h : i ≠ j) : (l.set i x).getD j false = l.getD j false := by
  simp [List.getD, List.getElem?_set_ne h]
theorem getB_ext {x y : List Bool} (hl : x.length = y.length) (h : ∀ k, k < x.length → x.getD k false = y.getD k false) : x = y := by
  refine List.ext_getElem hl fun k h1 h2 => ?_
  have := h k h1
  simpa [List.getD, List.getElem?_eq_getElem h1, List.getElem?_eq_getElem h2] using this
end Go.Proofs.Ytokmlklcjipkiaa

/- Contract of kinds.Small. -/
namespace Go.Proofs.Ytokmlklcjipkiaa
set_option linter.unusedVariables false
set_option linter.unusedSimpArgs false
open Go.RowKit

set_option maxHeartbeats 1000000 in
theorem small_any (v : Value) (zs : List Int) (w : World) (hv : Sl .i64 w v zs) (hlen : zs.length ≤ 4000000) :
    Calls Try.prog 35 #[v] w fun e w' => ∃ s, e = .returned s ∧ OwnB w.heap.size w' s (smallI zs) ∧ Ext w w' := by
  have HV := hide' hv
  obtain ⟨a, c, rfl, _⟩ := hv
  obtain ⟨_, _, _, hcv⟩ := HV.out.int
  have CV := hide' hcv
  obtain ⟨n, HN⟩ : ∃ n, Hid (zs.length = n) := ⟨_, rfl⟩
  rw [HN.out] at CV hlen ⊢
  clear hcv HV
  obtain ⟨w1, hmk, ho, he⟩ := make_bools w n hlen
  have HO := hide' ho
  have HE := hide' he
  clear ho he
  have hw2 : IntKind.i64.wrap ((n : Int) - 2) = (n : Int) - 2 := by rw [IntKind.wrap_i64]; omega
  go_enter Try.func35, Try.ntmps35
  go_wp2
  clear hmk
  go_loopw [4] (fun vi wr => ∃ (x : Int) (bs : List Bool), -2 ≤ x ∧ x + 2 ≤ n ∧ vi = .int .i64 x ∧ Hid (bs.length = n) ∧ Hid (∀ j : Nat, x < j → j < n → bs.getD j false = smB zs j) ∧
    Hid (OwnB w.heap.size wr (.slice (some ⟨w.heap.size, 0, none⟩) n n) bs) ∧ Hid (Ext w wr)) (fun vi _ => (intOf vi + 2).toNat)
  case atStart => 
    refine ⟨(n : Int) - 2, List.replicate n false, by omega, by omega, by first | rfl | rw [hw2], List.length_replicate, (fun j h1 h2 => ?_), HO, HE⟩
    rw [smB_last (by rw [HN.out]; omega)]
    simp [List.getD, h2]
  case round =>
    clear HO HE
    obtain ⟨x, bs, hx1, hx2, rfl, HL, HB, HO, HE⟩ := hrel
    by_cases hlt : 0 ≤ x
    · obtain ⟨k, rfl⟩ := Int.eq_ofNat_of_zero_le hlt
      have hk : k + 1 < n := by omega
      have hk0 : k < n := by omega
      have hk0' : (k : Int) < n := by omega
      have hk1' : (k : Int) + 1 < n := by omega
      obtain ⟨g1, o1, rfl, k1⟩ := CV.out (by omega)
      have c1 := HE.out.cellOf (k1 k hk0)
      have c2 := HE.out.cellOf (k1 (k + 1) hk)
      clear k1
      obtain ⟨p, HP⟩ : ∃ z, Hid (zs.getD k 0 = z) := ⟨_, rfl⟩
      obtain ⟨q, HQ⟩ : ∃ z, Hid (zs.getD (k + 1) 0 = z) := ⟨_, rfl⟩
      rw [HP.out] at c1
      rw [HQ.out] at c2
      have c3 := HO.out.cell HL.out (k + 1) hk
      have HR := hide' (HB.out (k + 1) (by omega) hk)
      rw [HR.out] at c3
      obtain ⟨r, HRR⟩ : ∃ z, Hid (smB zs (k + 1) = z) := ⟨_, rfl⟩
      rw [HRR.out] at c3
      have hfz := HO.out.frozen HL.out k
      have hci := HO.out.cell HL.out k hk0
      have hwk : IntKind.i64.wrap ((k : Int) + 1) = ((k + 1 : Nat) : Int) := by rw [IntKind.wrap_i64]; omega
      have HGO : Hid (∀ b, smB zs k = b → (∀ j : Nat, (k : Int) - 1 < j → j < n → (bs.set k b).getD j false = smB zs j)) := by
        intro b hb j h1 h2
        by_cases hjk : j = k
        · subst hjk; rw [setB_same (by rw [HL.out]; exact hk0), hb]
        · rw [setB_other (by omega)]; exact HB.out j (by omega) h2
      have hwm : IntKind.i64.wrap ((k : Int) - 1) = (k : Int) - 1 := by rw [IntKind.wrap_i64]; omega
      rcases Int.lt_trichotomy p q with h | h | h
      · have hb := hide' (smB_lt (s := zs) (i := k) (by rw [HN.out]; exact hk) (by rw [HP.out, HQ.out]; exact h))
        go_wp2_with fail
        go_big_region
        have HO2 : Hid (OwnB w.heap.size (wr.setCell ⟨w.heap.size, k, none⟩ (.bool true)).drew (.slice (some ⟨w.heap.size, 0, none⟩) n n) (bs.set k true)) := (HO.out.store HL.out k true).ext (Ext.drewN _ 1)
        have HE2 : Hid (Ext w (wr.setCell ⟨w.heap.size, k, none⟩ (.bool true)).drew) := (Ext.but HE.out (Nat.le_refl _) (but_set _ _ _ _)).trans (Ext.drewN _ 1)
        clear HO HE c1 c2 c3 hfz hci
        generalize (wr.setCell ⟨w.heap.size, k, none⟩ (.bool true)).drew = WW at *
        go_wp2
        go_roundw
        case rel => exact ⟨(k : Int) - 1, bs.set k true, by omega, by omega, by first | rfl | go_num, (show _ = _ by rw [List.length_set]; exact HL.out), HGO.out true hb.out, HO2, HE2⟩
        case measure => simp [intOf]; omega
      · have hb : Hid (smB zs k = r) := (smB_eq (s := zs) (i := k) (by rw [HN.out]; exact hk) (by rw [HP.out, HQ.out]; exact h)).trans HRR.out
        subst h
        go_wp2_with fail
        go_big_region
        have HO2 : Hid (OwnB w.heap.size (wr.setCell ⟨w.heap.size, k, none⟩ (.bool r)).drew (.slice (some ⟨w.heap.size, 0, none⟩) n n) (bs.set k r)) := (HO.out.store HL.out k r).ext (Ext.drewN _ 1)
        have HE2 : Hid (Ext w (wr.setCell ⟨w.heap.size, k, none⟩ (.bool r)).drew) := (Ext.but HE.out (Nat.le_refl _) (but_set _ _ _ _)).trans (Ext.drewN _ 1)
        clear HO HE c1 c2 c3 hfz hci
        generalize (wr.setCell ⟨w.heap.size, k, none⟩ (.bool r)).drew = WW at *
        go_wp2
        go_roundw
        case rel => exact ⟨(k : Int) - 1, bs.set k r, by omega, by omega, by first | rfl | go_num, (show _ = _ by rw [List.length_set]; exact HL.out), HGO.out r hb.out, HO2, HE2⟩
        case measure => simp [intOf]; omega
      · have hb := hide' (smB_gt (s := zs) (i := k) (by rw [HN.out]; exact hk) (by rw [HP.out, HQ.out]; exact h))
        have h1 : decide (p < q) = false := by simp; omega
        have h2 : (p == q) = false := by simp; omega
        go_wp2_with fail
        go_big_region
        have HO2 : Hid (OwnB w.heap.size (wr.setCell ⟨w.heap.size, k, none⟩ (.bool false)).drew (.slice (some ⟨w.heap.size, 0, none⟩) n n) (bs.set k false)) := (HO.out.store HL.out k false).ext (Ext.drewN _ 1)
        have HE2 : Hid (Ext w (wr.setCell ⟨w.heap.size, k, none⟩ (.bool false)).drew) := (Ext.but HE.out (Nat.le_refl _) (but_set _ _ _ _)).trans (Ext.drewN _ 1)
        clear HO HE c1 c2 c3 hfz hci
        generalize (wr.setCell ⟨w.heap.size, k, none⟩ (.bool false)).drew = WW at *
        go_wp2
        go_roundw
        case rel => exact ⟨(k : Int) - 1, bs.set k false, by omega, by omega, by first | rfl | go_num, (show _ = _ by rw [List.length_set]; exact HL.out), HGO.out false hb.out, HO2, HE2⟩
        case measure => simp [intOf]; omega
    · have hlt' : decide (0 ≤ x) = false := by simp; omega
      have HQ : Hid (bs = smallI zs) := getB_ext (by rw [HL.out, smallI_len, HN.out]) fun j hj => by
        rw [HL.out] at hj
        rw [HB.out j (by omega) hj, smallI_at (by rw [HN.out]; exact hj)]
      go_wp2
      go_ret
      exact ⟨_, rfl, by rw [← HQ.out]; exact HO.out, HE.out⟩
end Go.Proofs.Ytokmlklcjipkiaa

/- Contract of whorl/kinds.First. -/
namespace Go.Proofs.Ytokmlklcjipkiaa
set_option linter.unusedVariables false
set_option linter.unusedSimpArgs false
open Go.RowKit

set_option maxHeartbeats 1000000 in
theorem first_any (v : Value) (zs : List Int) (w : World) (hv : Sl .i64 w v zs) (hlen : zs.length ≤ 1000000) :
    Calls Try.prog 43 #[v] w fun e w' => ∃ s, e = .returned s ∧ Own .i64 3 w.heap.size w' s (natL (firstN zs)) ∧ Ext w w' := by
  have HV := hide' hv
  obtain ⟨a, c, rfl, _⟩ := hv
  have C := hide' (small_any _ zs w HV.out (by omega))
  obtain ⟨n, HN⟩ : ∃ n, Hid (zs.length = n) := ⟨_, rfl⟩
  rw [HN.out] at C hlen ⊢
  clear HV
  go_enter Try.func43, Try.ntmps43
  go_wp2_with fail
  refine C.out.mono ?_
  rintro e w1 ⟨s, rfl, ho, he⟩
  have HS := hide' ho.sl
  have E1 := hide' he
  have hz1 := he.size
  clear ho he C
  obtain ⟨sa, sc, rfl, _⟩ := HS.out
  have HLS : Hid ((smallI zs).length = n) := by show _ = _; rw [smallI_len, HN.out]
  rw [HLS.out] at HS ⊢
  obtain ⟨_, _, _, hcv⟩ := HS.out.truth
  have CV := hide' hcv
  clear hcv HS
  go_wp2
  go_loopw [4, 5] (fun sv vi wr => ∃ (i : Nat), 1 ≤ i ∧ (i ≤ n ∨ i = 1) ∧ vi = .int .i64 i ∧ Hid (Own .i64 3 w1.heap.size wr sv (natL (firN zs i))) ∧ Hid (Ext w1 wr)) (fun _ vi _ => n + 1 - (intOf vi).toNat)
  case atStart => exact ⟨1, Nat.le_refl _, .inr rfl, rfl, Own.nil _ _ _ _, Ext.refl _⟩
  case round =>
    obtain ⟨i, hi1, hi, rfl, HO, HE⟩ := hrel
    have hsz := HE.out.size
    by_cases hlt : i < n
    · have hlt' : (i : Int) < n := by omega
      obtain ⟨j, rfl⟩ : ∃ j, i = j + 1 := ⟨i - 1, by omega⟩
      have hij : ((j + 1 : Nat) : Int) - 1 = (j : Int) := by omega
      have hj : j < n := by omega
      have hj' : (j : Int) < n := by omega
      obtain ⟨g1, o1, rfl, k1⟩ := CV.out (by omega)
      have c1 := HE.out.cellOf (k1 (j + 1) hlt)
      have c2 := HE.out.cellOf (k1 j hj)
      rw [smallI_at (by rw [HN.out]; exact hlt)] at c1
      rw [smallI_at (by rw [HN.out]; exact hj)] at c2
      clear k1
      have HFI : Hid (fsB zs (j + 1) = (smB zs (j + 1) && !smB zs j)) := by show _ = _; unfold fsB; simp
      obtain ⟨p, HP⟩ : ∃ z, Hid (smB zs (j + 1) = z) := ⟨_, rfl⟩
      obtain ⟨q, HQ⟩ : ∃ z, Hid (smB zs j = z) := ⟨_, rfl⟩
      rw [HP.out] at c1 HFI
      rw [HQ.out] at c2 HFI
      have HLF : Hid ((natL (firN zs (j + 1))).length ≤ j + 1) := by show _ ≤ _; rw [natL_len]; exact firN_len _ _
      have stop : ∀ b, fsB zs (j + 1) = b → b = false → Hid (natL (firN zs (j + 1)) = natL (firN zs (j + 2))) := fun b h1 h2 => by show _ = _; rw [firN_no (k := j + 1) (by rw [h1, h2])]
      have yes : ∀ b, fsB zs (j + 1) = b → b = true → Hid (natL (firN zs (j + 1)) ++ [(j : Int) + 1] = natL (firN zs (j + 2))) := fun b h1 h2 => by show _ = _; rw [firN_yes (k := j + 1) (by rw [h1, h2]), ← natL_snoc]; rfl
      cases p
      · have HX := stop _ HFI.out rfl
        have HO1 : Hid (Own .i64 3 w1.heap.size wr u4 (natL (firN zs (j + 2)))) := by rw [← HX.out]; exact HO.out
        clear stop yes
        go_wp2
        go_roundw
        case rel => exact ⟨j + 2, by omega, by omega, by go_num, HO1, HE.out⟩
        case measure => simp [intOf]; omega
      · cases q
        rotate_left
        · have HX := stop _ HFI.out rfl
          have HO1 : Hid (Own .i64 3 w1.heap.size wr u4 (natL (firN zs (j + 2)))) := by rw [← HX.out]; exact HO.out
          clear stop yes
          go_wp2
          go_roundw
          case rel => exact ⟨j + 2, by omega, by omega, by go_num, HO1, HE.out⟩
          case measure => simp [intOf]; omega
        · have HX := yes _ HFI.out rfl
          clear stop yes
          go_wp2_with (at_builtin; refine wpList_snoc _ rfl _ _ 32 rfl 3 .i64 8 Try.underlying32 infoI64 w1.heap.size _ (natL (firN zs (j + 1))) ((j : Int) + 1) ⟨wr.heap.size, 0, none⟩ rfl rfl ?c4 (HO.out.alloc _) ?c3 ?c5 ?_)
          case c3 => have := HLF.out; unfold maxLen; omega
          case c5 => simp; omega
          case c4 => simp only [World.cell?, heap_alloc_top]; simp
          intro v1 w2 ho1 hb1
          have HO1 : Hid (Own .i64 3 w1.heap.size w2 v1 (natL (firN zs (j + 2)))) := by rw [← HX.out]; exact ho1
          have HE1 : Hid (Ext w1 w2) := Below.trans (HE.out.trans (ext_alloc _ _)) hb1
          clear ho1 hb1
          go_wp2
          go_roundw
          case rel => exact ⟨j + 2, by omega, by omega, by go_num, HO1, HE1⟩
          case measure => simp [intOf]; omega
    · have hlt' : decide ((i : Int) < n) = false := by simp; omega
      have HQ : Hid (firN zs i = firstN zs) := by
        show _ = _
        unfold firstN
        rw [HN.out]
        by_cases h0 : i = n
        · rw [h0]
        · have h1 : i = 1 := by omega
          have h2 : n = 0 := by omega
          rw [h1, h2]; rfl
      go_wp2
      go_ret
      exact ⟨_, rfl, by rw [← HQ.out]; exact HO.out.low hz1, E1.out.trans HE.out⟩
end Go.Proofs.Ytokmlklcjipkiaa

/- Contract of induce.isFirst: are they the first places, each once, in some order? -/
namespace Go.Proofs.Ytokmlklcjipkiaa
set_option linter.unusedVariables false
set_option linter.unusedSimpArgs false
open Go.RowKit

def firB (s fs : List Int) : Bool := fs.isPerm (natL (firstN s))
theorem firB_iff {s fs : List Int} : firB s fs = true ↔ fs.Perm (natL (firstN s)) := List.isPerm_iff
theorem firB_no {s fs : List Int} (h : ¬ fs.Perm (natL (firstN s))) : firB s fs = false := by
  rw [Bool.eq_false_iff]
  exact fun e => h (firB_iff.1 e)
theorem firstN_nodup (s : List Int) : (firstN s).Nodup := (firN_sorted s s.length).imp fun h => Nat.ne_of_lt h
/-- The row of truths says which first places have not come yet. -/
def Miss (s fs : List Int) (i : Nat) (bs : List Bool) : Prop :=
  ((fs.take i).Nodup ∧ ∀ z ∈ fs.take i, z ∈ natL (firstN s)) ∧ ∀ x, x < s.length → (bs.getD x false = true ↔ (x ∈ firstN s ∧ (x : Int) ∉ fs.take i))
theorem Miss.bad {s fs : List Int} {i : Nat} {bs : List Bool} (h : Miss s fs i bs) (hi : i < fs.length) (hz : fs.getD i 0 < 0 ∨ (s.length : Int) ≤ fs.getD i 0 ∨ bs.getD (fs.getD i 0).toNat false = false) : firB s fs = false := by
  refine firB_no fun hp => ?_
  have hm := natL_mem.1 (hp.mem_iff.1 (getI_mem hi))
  obtain ⟨p, hp1, hp2⟩ := hm
  have hpn := (firN_mem.1 hp1).1
  rw [hp2] at hz
  rcases hz with hz | hz | hz
  · omega
  · omega
  · rw [Int.toNat_natCast] at hz
    have h1 : ¬ (p ∈ firstN s ∧ (p : Int) ∉ fs.take i) := fun e => by
      rw [(h.2 p hpn).2 e] at hz
      cases hz
    have h2 : (p : Int) ∈ fs.take i := by
      apply Classical.byContradiction
      exact fun e => h1 ⟨hp1, e⟩
    have hnd := hp.nodup_iff.2 (natL_nodup (firstN_nodup s))
    have h3 : (fs.take (i + 1)).Nodup := List.Pairwise.sublist (List.take_sublist _ _) hnd
    rw [takeI_succ hi, List.nodup_append] at h3
    exact h3.2.2 _ h2 _ (List.mem_singleton.2 rfl) hp2.symm
theorem Miss.next {s fs : List Int} {i p : Nat} {bs : List Bool} (h : Miss s fs i bs) (hl : bs.length = s.length) (hi : i < fs.length) (hz : fs.getD i 0 = (p : Int)) (hp : p < s.length) (hb : bs.getD p false = true) : Miss s fs (i + 1) (bs.set p false) := by
  obtain ⟨⟨h1, h2⟩, h3⟩ := h
  have h4 := (h3 p hp).1 hb
  unfold Miss
  rw [takeI_succ hi, hz]
  refine ⟨⟨List.nodup_append.2 ⟨h1, by simp, fun a ha c hc e => ?_⟩, fun z hz2 => ?_⟩, fun x hx => ?_⟩
  · simp only [List.mem_singleton] at hc
    exact h4.2 (by rw [← hc, ← e]; exact ha)
  · rcases List.mem_append.1 hz2 with h5 | h5
    · exact h2 z h5
    · simp only [List.mem_singleton] at h5
      rw [h5]
      exact natL_mem.2 ⟨p, h4.1, rfl⟩
  · by_cases e : x = p
    · subst e
      rw [setB_same (by omega)]
      simp
    · rw [setB_other (by omega), h3 x hx, List.mem_append, List.mem_singleton]
      constructor
      · exact fun h => ⟨h.1, fun h5 => by rcases h5 with h5 | h5; · exact h.2 h5
                                          · omega⟩
      · exact fun h => ⟨h.1, fun h5 => h.2 (.inl h5)⟩
theorem Miss.done {s fs : List Int} {bs : List Bool} (h : Miss s fs fs.length bs) (hl : fs.length = (firstN s).length) : firB s fs = true := by
  obtain ⟨⟨h1, h2⟩, _⟩ := h
  rw [List.take_length] at h1 h2
  exact firB_iff.2 (nodup_perm h1 h2 (by rw [natL_len]; omega))

set_option maxHeartbeats 1000000 in
theorem isFirst_any (fv sv : Value) (fs s : List Int) (w : World) (hf : Sl .i64 w fv fs) (hs : Sl .i64 w sv s) (hlen : s.length ≤ 1000000) :
    Calls Try.prog 34 #[fv, sv] w fun e w' => e = .returned (.bool (firB s fs)) ∧ Ext w w' := by
  have HF := hide' hf
  have HV := hide' hs
  have C := hide' (first_any _ s w hs hlen)
  obtain ⟨a, c, rfl, _⟩ := hf
  obtain ⟨a0, c0, rfl, _⟩ := hs
  obtain ⟨_, _, hcm, hcv⟩ := HF.out.int
  have CV := hide' hcv
  have hLN := firN_len s s.length
  have HIN : Hid (∀ j, j < (firstN s).length → (firstN s).getD j 0 < s.length) := fun j hj => (firN_in hj).2
  obtain ⟨L, HL⟩ : ∃ n, Hid (fs.length = n) := ⟨_, rfl⟩
  obtain ⟨W, HW⟩ : ∃ n, Hid (firstN s = n) := ⟨_, rfl⟩
  obtain ⟨m, HM⟩ : ∃ n, Hid (W.length = n) := ⟨_, rfl⟩
  obtain ⟨n, HN⟩ : ∃ n, Hid (s.length = n) := ⟨_, rfl⟩
  have HML : Hid ((natL W).length = m) := by show _ = _; rw [natL_len, HM.out]
  have hmn : m ≤ n := by rw [← HM.out, ← HW.out, ← HN.out]; exact hLN
  have HLs := HL
  rw [HW.out] at C HIN
  rw [HM.out] at HIN
  rw [HN.out] at C hlen HV HIN ⊢
  rw [HL.out] at CV HF ⊢
  clear hcv hLN hcm
  go_enter Try.func34, Try.ntmps34
  go_wp2_with fail
  refine C.out.mono ?_
  rintro e w1 ⟨s1, rfl, ho, he⟩
  have O1 := hide' ho.sl
  have X1 := hide' he
  have hz1 := he.size
  clear ho he C
  obtain ⟨a1, c1, rfl, _⟩ := O1.out
  rw [HML.out] at O1 ⊢
  obtain ⟨_, _, _, hc1⟩ := O1.out.nat
  have C1 := hide' hc1
  clear hc1
  by_cases hne : L = m
  rotate_left
  · have HB : Hid (firB s fs = false) := firB_no fun hp => hne (by
      have := hp.length_eq
      rw [natL_len, HW.out, HM.out, HL.out] at this
      exact this)
    have d1 : ((L : Int) == m) = false := by simp; omega
    have d2 : ((L : Int) != m) = true := by simp; omega
    clear hne
    go_wp2
    go_ret
    exact ⟨by rw [HB.out]; rfl, X1.out⟩
  · have d1 : ((L : Int) == m) = true := by simp; omega
    have d2 : ((L : Int) != m) = false := by simp; omega
    obtain ⟨w2, hmk, ho, he⟩ := make_bools w1 n (by omega)
    have HO := hide' ho
    have HE := hide' he
    have HLF : Hid (fs.length = (firstN s).length) := by show _ = _; rw [HL.out, HW.out, HM.out]; exact hne
    clear ho he
    obtain ⟨G, HG⟩ : ∃ G, Hid (w1.heap.size = G) := ⟨_, rfl⟩
    go_wp2
    clear hmk
    go_loopw [23] (fun vi wr => ∃ (i : Nat) (bs : List Bool), i ≤ m ∧ vi = .int .i64 i ∧ Hid (bs.length = n) ∧ Hid (∀ x, x < n → (bs.getD x false = true ↔ x ∈ W.take i)) ∧
      Hid (OwnB w1.heap.size wr (.slice (some ⟨w1.heap.size, 0, none⟩) n n) bs) ∧ Hid (Ext w1 wr)) (fun vi _ => m - (intOf vi).toNat)
    case atStart => exact ⟨0, List.replicate n false, Nat.zero_le _, rfl, List.length_replicate, (fun x hx => by simp [List.getD, hx]), HO, HE⟩
    case round =>
      clear HO HE
      obtain ⟨i, bs, hi, rfl, HLB, HB, HO, HE⟩ := hrel
      by_cases hlt : i < m
      · have hlt' : (i : Int) < m := by omega
        obtain ⟨g1, o1, rfl, k1⟩ := C1.out (by omega)
        have c1 := HE.out.cellOf (k1 i hlt)
        clear k1
        have hp := HIN.out i hlt
        have HTK := hide' (takeN_succ (l := W) (i := i) (by rw [HM.out]; exact hlt))
        obtain ⟨p, HP⟩ : ∃ p, Hid (W.getD i 0 = p) := ⟨_, rfl⟩
        rw [HP.out] at c1 hp HTK
        have hp' : (p : Int) < n := by omega
        have hfz := HO.out.frozen HLB.out p
        have hci := HO.out.cell HLB.out p hp
        have HO2 := hide' (HO.out.store HLB.out p true)
        go_wp2
        go_roundw
        case rel =>
          refine ⟨i + 1, bs.set p true, by omega, by go_num, (show _ = _ by rw [List.length_set]; exact HLB.out), fun x hx => ?_, HO2, Ext.but HE.out (Nat.le_refl _) (but_set _ _ _ _)⟩
          rw [HTK.out, List.mem_append, List.mem_singleton]
          by_cases hxp : x = p
          · subst hxp; rw [setB_same (by rw [HLB.out]; exact hx)]; simp
          · rw [setB_other (by omega), HB.out x hx]; simp [hxp]
        case measure => simp [intOf] <;> omega
      · have hlt' : decide ((i : Int) < m) = false := by simp; omega
        have hin : i = m := by omega
        have HMI : Hid (Miss s fs 0 bs) := by
          refine ⟨⟨by simp, by simp⟩, fun x hx => ?_⟩
          rw [HN.out] at hx
          rw [HB.out x hx, HW.out, List.take_of_length_le (by rw [HM.out]; omega)]
          simp
        clear HB hin
        go_wp2
        go_loopw [33] (fun vi wq => ∃ (i : Nat) (cs : List Bool), i ≤ L ∧ vi = .int .i64 i ∧ Hid (cs.length = n) ∧ Hid (Miss s fs i cs) ∧
          Hid (OwnB w1.heap.size wq (.slice (some ⟨w1.heap.size, 0, none⟩) n n) cs) ∧ Hid (Ext w1 wq)) (fun vi _ => L - (intOf vi).toNat)
        case atStart => exact ⟨0, bs, Nat.zero_le _, rfl, HLB, HMI, HO, HE⟩
        case round =>
          clear HO HE HLB HMI hlt hlt'
          obtain ⟨t, cs, ht, rfl, HLB, HMI, HO, HE⟩ := hrel
          by_cases hlt : t < L
          · have hlt' : (t : Int) < L := by omega
            obtain ⟨g1, o1, rfl, k1⟩ := CV.out (by omega)
            have c1 := HE.out.cellOf (X1.out.cellOf (k1 t hlt))
            clear k1
            have HBAD : Hid (∀ z, fs.getD t 0 = z → (z < 0 ∨ (n : Int) ≤ z ∨ cs.getD z.toNat false = false) → firB s fs = false) := fun z hz h => HMI.out.bad (by rw [HL.out]; exact hlt) (by rw [hz, HN.out]; exact h)
            have HNX : Hid (∀ p : Nat, fs.getD t 0 = (p : Int) → p < n → cs.getD p false = true → Miss s fs (t + 1) (cs.set p false)) := fun p h1 h2 h3 => HMI.out.next (by rw [HLB.out, HN.out]) (by rw [HL.out]; exact hlt) h1 (by rw [HN.out]; exact h2) h3
            obtain ⟨z, HZ⟩ : ∃ p, Hid (fs.getD t 0 = p) := ⟨_, rfl⟩
            rw [HZ.out] at c1
            by_cases h0 : z < 0
            · have HB := hide' (HBAD.out z HZ.out (.inl h0))
              go_wp2
              go_ret
              exact ⟨by rw [HB.out]; rfl, X1.out.trans HE.out⟩
            · have e0 : decide (z < 0) = false := by simp; omega
              by_cases h1 : (n : Int) ≤ z
              · have HB := hide' (HBAD.out z HZ.out (.inr (.inl h1)))
                go_wp2
                go_ret
                exact ⟨by rw [HB.out]; rfl, X1.out.trans HE.out⟩
              · have e1 : decide ((n : Int) ≤ z) = false := by simp; omega
                obtain ⟨p, rfl⟩ := Int.eq_ofNat_of_zero_le (show 0 ≤ z by omega)
                have hp : p < n := by omega
                have hp' : (p : Int) < n := by omega
                have e2 : decide (n ≤ p) = false := by simp; omega
                have hci := HO.out.cell HLB.out p hp
                clear h0 h1
                cases hb : cs.getD p false
                · rw [hb] at hci
                  have HB := hide' (HBAD.out p HZ.out (.inr (.inr (by rw [Int.toNat_natCast]; exact hb))))
                  clear hb
                  go_wp2
                  go_ret
                  exact ⟨by rw [HB.out]; rfl, X1.out.trans HE.out⟩
                · rw [hb] at hci
                  have HM2 := hide' (HNX.out p HZ.out hp hb)
                  have hfz := HO.out.frozen HLB.out p
                  have HO2 := hide' (HO.out.store HLB.out p false)
                  clear hb
                  go_wp2
                  go_roundw
                  case rel => exact ⟨t + 1, cs.set p false, by omega, by go_num, (show _ = _ by rw [List.length_set]; exact HLB.out), HM2, HO2, Ext.but HE.out (Nat.le_refl _) (but_set _ _ _ _)⟩
                  case measure => simp [intOf] <;> omega
          · have hlt' : decide ((t : Int) < L) = false := by simp; omega
            have htl : t = L := by omega
            have HB : Hid (firB s fs = true) := Miss.done (bs := cs) (by rw [HL.out, ← htl]; exact HMI.out) HLF.out
            go_wp2
            go_ret
            exact ⟨by rw [HB.out]; rfl, X1.out.trans HE.out⟩
end Go.Proofs.Ytokmlklcjipkiaa

/- Contract of bucket.Starts. -/
namespace Go.Proofs.Ytokmlklcjipkiaa
set_option linter.unusedVariables false
set_option linter.unusedSimpArgs false
open Go.RowKit

set_option maxHeartbeats 400000 in
theorem starts_any (v : Value) (cs : List Int) (w : World) (hv : Sl .i64 w v cs) (hlen : cs.length ≤ 4000000) (hb : ∀ i, i ≤ cs.length → -4611686018427387904 ≤ sumI cs i ∧ sumI cs i ≤ 4611686018427387904) :
    Calls Try.prog 40 #[v] w fun e w' => ∃ s, e = .returned s ∧ Own .i64 3 w.heap.size w' s (startsI cs) ∧ Ext w w' := by
  have HV := hide' hv
  obtain ⟨a, c, rfl, _⟩ := hv
  obtain ⟨_, _, _, hcv⟩ := HV.out.int
  have CV := hide' hcv
  have HBD := hide' hb
  obtain ⟨n, HN⟩ : ∃ n, Hid (cs.length = n) := ⟨_, rfl⟩
  rw [HN.out] at CV hlen HBD ⊢
  clear hcv hb HV
  obtain ⟨w1, hmk, ho, he⟩ := make_intsB w n hlen
  have HO := hide' ho
  have HE := hide' he
  clear ho he
  go_enter Try.func40, Try.ntmps40
  go_wp2
  clear hmk
  go_loopw [4, 12] (fun vs vi wr => ∃ (i : Nat) (t : Int) (bs : List Int), i ≤ n ∧ vs = .int .i64 t ∧ vi = .int .i64 i ∧ Hid (sumI cs i = t) ∧ Hid (bs.length = n) ∧ Hid (∀ j, j < i → bs.getD j 0 = sumI cs j) ∧
    Hid (Own .i64 3 w.heap.size wr (.slice (some ⟨w.heap.size, 0, none⟩) n n) bs) ∧ Hid (Ext w wr)) (fun _ vi _ => n - (intOf vi).toNat)
  case atStart => exact ⟨0, 0, List.replicate n 0, Nat.zero_le _, rfl, rfl, (show _ = _ from rfl), List.length_replicate, (fun j hj => by omega), HO, HE⟩
  case round =>
    clear HO HE
    obtain ⟨i, t, bs, hi, rfl, rfl, HT, HL, HB, HO, HE⟩ := hrel
    by_cases hlt : i < n
    · have hlt' : (i : Int) < n := by omega
      obtain ⟨g1, o1, rfl, k1⟩ := CV.out (by omega)
      have c1 := HE.out.cellOf (k1 i hlt)
      clear k1
      have b1 := HBD.out i (by omega)
      have b2 := HBD.out (i + 1) (by omega)
      have HS : Hid (sumI cs (i + 1) = t + cs.getD i 0) := by show _ = _; rw [← HT.out]; rfl
      rw [HS.out] at b2
      rw [HT.out] at b1
      obtain ⟨z, HZ⟩ : ∃ z, Hid (cs.getD i 0 = z) := ⟨_, rfl⟩
      rw [HZ.out] at c1 b2 HS
      have hfz := HO.out.frozen HL.out i
      have hci := HO.out.cell HL.out i hlt
      have HO2 := hide' (HO.out.store HL.out i t)
      have hsum : IntKind.i64.wrap (t + z) = t + z := by rw [IntKind.wrap_i64]; omega
      go_wp2
      go_roundw
      case rel =>
        refine ⟨i + 1, t + z, bs.set i t, by omega, by first | rfl | go_num, by go_num, HS, (show _ = _ by rw [List.length_set]; exact HL.out), fun j hj => ?_, HO2, Ext.but HE.out (Nat.le_refl _) (but_set _ _ _ _)⟩
        by_cases hji : j = i
        · subst hji; rw [setI_same (by rw [HL.out]; exact hlt), HT.out]
        · rw [setI_other (by omega), HB.out j (by omega)]
      case measure => simp [intOf]; omega
    · have hlt' : decide ((i : Int) < n) = false := by simp; omega
      have hin : i = n := by omega
      subst hin
      have HQ : Hid (bs = startsI cs) := getD_ext (by rw [HL.out, startsI_len, HN.out]) fun j hj => by
        rw [HL.out] at hj
        rw [HB.out j hj, startsI_at cs (by rw [HN.out]; exact hj)]
      go_wp2
      go_ret
      exact ⟨_, rfl, by rw [← HQ.out]; exact HO.out, HE.out⟩
end Go.Proofs.Ytokmlklcjipkiaa

/- Contract of bucket.fit. -/
namespace Go.Proofs.Ytokmlklcjipkiaa
set_option linter.unusedVariables false
set_option linter.unusedSimpArgs false
open Go.RowKit

set_option maxHeartbeats 400000 in
theorem fit_any (v : Value) (zs : List Int) (k : Int) (w : World) (hv : Sl .i64 w v zs) (hlen : zs.length ≤ 1000000) :
    Calls Try.prog 31 #[v, .int .i64 k] w fun e w' => e = .returned (.bool (fitB zs k)) ∧ w' = w := by
  have HV := hide' hv
  obtain ⟨a, c, rfl, _⟩ := hv
  obtain ⟨_, _, _, hcv⟩ := HV.out.int
  have CV := hide' hcv
  obtain ⟨n, HN⟩ : ∃ n, Hid (zs.length = n) := ⟨_, rfl⟩
  rw [HN.out] at CV hlen ⊢
  clear hcv HV
  by_cases h0 : k < 0
  · have HF : Hid (fitB zs k = false) := fitB_neg h0
    go_enter Try.func31, Try.ntmps31
    go_wp2
    go_ret
    rw [HF.out]
    exact ⟨rfl, rfl⟩
  · by_cases h1 : 1048576 < k
    · have HF : Hid (fitB zs k = false) := fitB_big h1
      have d0 : decide (k < 0) = false := by simp; omega
      go_enter Try.func31, Try.ntmps31
      go_wp2
      go_ret
      rw [HF.out]
      exact ⟨rfl, rfl⟩
    · have HF : Hid (fitB zs k = goodI k zs) := fitB_eq (by omega) (by omega)
      have d0 : decide (k < 0) = false := by simp; omega
      have d1 : decide (1048576 < k) = false := by simp; omega
      rw [HF.out]
      go_enter Try.func31, Try.ntmps31
      go_wp2
      go_loopw [15] (fun vi wr => ∃ (i : Nat), i ≤ n ∧ vi = .int .i64 i ∧ Hid (∀ j, j < i → 0 ≤ zs.getD j 0 ∧ zs.getD j 0 < k) ∧ wr = w) (fun vi _ => n - (intOf vi).toNat)
      case atStart => exact ⟨0, Nat.zero_le _, rfl, (fun j hj => by omega), rfl⟩
      case round =>
        obtain ⟨i, hi, rfl, HG, rfl⟩ := hrel
        by_cases hlt : i < n
        · have hlt' : (i : Int) < n := by omega
          obtain ⟨g1, o1, rfl, k1⟩ := CV.out (by omega)
          have c1 := k1 i hlt
          clear k1
          obtain ⟨z, HZ⟩ : ∃ z, Hid (zs.getD i 0 = z) := ⟨_, rfl⟩
          rw [HZ.out] at c1
          by_cases hz : z < 0
          · have HB : Hid (goodI k zs = false) := goodI_bad (j := i) (by rw [HN.out]; exact hlt) (by rw [HZ.out]; exact .inl hz)
            go_wp2
            go_ret
            rw [HB.out]
            exact ⟨rfl, rfl⟩
          · have dz : decide (z < 0) = false := by simp; omega
            by_cases hzk : k ≤ z
            · have HB : Hid (goodI k zs = false) := goodI_bad (j := i) (by rw [HN.out]; exact hlt) (by rw [HZ.out]; exact .inr hzk)
              go_wp2
              go_ret
              rw [HB.out]
              exact ⟨rfl, rfl⟩
            · have dk : decide (k ≤ z) = false := by simp; omega
              go_wp2
              go_roundw
              case rel =>
                refine ⟨i + 1, by omega, by go_num, (fun j hj => ?_), by first | trivial | rfl⟩
                by_cases e : j = i
                · subst e; rw [HZ.out]; omega
                · exact HG.out j (by omega)
              case measure => simp [intOf]; omega
        · have hlt' : decide ((i : Int) < n) = false := by simp; omega
          have HB : Hid (goodI k zs = true) := goodI_of fun j hj => HG.out j (by rw [HN.out] at hj; omega)
          go_wp2
          go_ret
          rw [HB.out]
          exact ⟨rfl, rfl⟩
end Go.Proofs.Ytokmlklcjipkiaa

/- Contract of bucket.Counts. -/
namespace Go.Proofs.Ytokmlklcjipkiaa
set_option linter.unusedVariables false
set_option linter.unusedSimpArgs false
open Go.RowKit

/-- How often each key is there, if all may be. -/
def countsI (zs : List Int) (k : Int) : List Int := if fitB zs k = true then natL (cntsI zs k.toNat) else []
theorem countsI_yes {zs : List Int} {k : Int} (h : fitB zs k = true) : countsI zs k = natL (cntsI zs k.toNat) := if_pos h
theorem countsI_no {zs : List Int} {k : Int} (h : fitB zs k = false) : countsI zs k = [] := by unfold countsI; rw [h]; rfl

set_option maxHeartbeats 400000 in
theorem counts_any (v : Value) (zs : List Int) (k : Int) (w : World) (hv : Sl .i64 w v zs) (hlen : zs.length ≤ 1000000) :
    Calls Try.prog 28 #[v, .int .i64 k] w fun e w' => ∃ s, e = .returned (.tuple #[s, .bool (fitB zs k)]) ∧ Own .i64 3 w.heap.size w' s (countsI zs k) ∧ Ext w w' := by
  have HV := hide' hv
  have HLEN := hide' hlen
  obtain ⟨a, c, rfl, _⟩ := hv
  obtain ⟨_, _, _, hcv⟩ := HV.out.int
  have CV := hide' hcv
  obtain ⟨n, HN⟩ : ∃ n, Hid (zs.length = n) := ⟨_, rfl⟩
  rw [HN.out] at CV hlen HV ⊢
  clear hcv
  by_cases hf : fitB zs k = true
  · have HF := hide' hf
    obtain ⟨h0, h1, hg⟩ := fitB_iff.1 hf
    have HG := hide' hg
    obtain ⟨K, rfl⟩ := Int.eq_ofNat_of_zero_le h0
    have HC : Hid (countsI zs (K : Int) = natL (cntsI zs K)) := countsI_yes hf
    rw [HC.out, HF.out]
    clear hf hg h0
    go_enter Try.func28, Try.ntmps28
    go_wp2_with fail
    refine (fit_any _ zs _ _ HV.out HLEN.out).mono ?_
    rw [HF.out]
    rintro e _ ⟨rfl, hw⟩
    rw [hw]
    clear hw
    obtain ⟨w1, hmk, ho, he⟩ := make_natsB w K (by omega)
    have HO := hide' ho
    have HE := hide' he
    clear ho he
    go_wp2
    clear hmk
    go_loopw [17] (fun vi wr => ∃ (i : Nat) (bs : List Nat), i ≤ n ∧ vi = .int .i64 i ∧ Hid (bs.length = K) ∧ Hid (∀ q, q < K → bs.getD q 0 = cntI zs q i) ∧
      Hid (Own .i64 3 w.heap.size wr (.slice (some ⟨w.heap.size, 0, none⟩) K K) (natL bs)) ∧ Hid (Ext w wr)) (fun vi _ => n - (intOf vi).toNat)
    case atStart => exact ⟨0, List.replicate K 0, Nat.zero_le _, rfl, List.length_replicate, (fun q hq => by simp [cntI, List.getD, hq]), HO, HE⟩
    case round =>
      clear HO HE
      obtain ⟨i, bs, hi, rfl, HL, HB, HO, HE⟩ := hrel
      by_cases hlt : i < n
      · have hlt' : (i : Int) < n := by omega
        obtain ⟨g1, o1, rfl, k1⟩ := CV.out (by omega)
        have c1 := HE.out.cellOf (k1 i hlt)
        clear k1
        have hz := goodI_at HG.out (j := i) (by rw [HN.out]; exact hlt)
        obtain ⟨z, HZ⟩ : ∃ z, Hid (zs.getD i 0 = z) := ⟨_, rfl⟩
        rw [HZ.out] at c1 hz
        obtain ⟨q, rfl⟩ := Int.eq_ofNat_of_zero_le hz.1
        have hq : (q : Int) < K := hz.2
        have hq2 : q < K := by omega
        clear hz
        have hfz := HO.out.frozen (by rw [natL_len]; exact HL.out) q
        have hci := HO.out.intCell HL.out q hq2
        rw [HB.out q hq2] at hci
        have hcn := cntI_le zs q i
        obtain ⟨t, HT⟩ : ∃ t, Hid (cntI zs q i = t) := ⟨_, rfl⟩
        rw [HT.out] at hci hcn
        have HO2 := hide' (HO.out.storeN HL.out q (t + 1))
        go_wp2
        go_roundw
        case rel =>
          refine ⟨i + 1, bs.set q (t + 1), by omega, by go_num, (show _ = _ by rw [List.length_set]; exact HL.out), fun r hr => ?_, HO2, Ext.but HE.out (Nat.le_refl _) (but_set _ _ _ _)⟩
          by_cases hrq : r = q
          · subst hrq; rw [set_same (by rw [HL.out]; exact hq2), cntI_same HZ.out, HT.out]
          · rw [set_other (by omega), HB.out r hr, cntI_other (by rw [HZ.out]; omega)]
        case measure => simp [intOf]; omega
      · have hlt' : decide ((i : Int) < n) = false := by simp; omega
        have hin : i = n := by omega
        subst hin
        have HQ : Hid (bs = cntsI zs K) := natL_ext (by rw [HL.out, cntsI_len]) fun q hq => by
          rw [HL.out] at hq
          rw [HB.out q hq, cntsI_at zs hq, HN.out]
        go_wp2
        go_ret2
        exact ⟨_, rfl, by rw [← HQ.out]; exact HO.out, HE.out⟩
  · have hf' : fitB zs k = false := by simpa using hf
    have HF := hide' hf'
    have HC : Hid (countsI zs k = []) := countsI_no hf'
    rw [HC.out, HF.out]
    clear hf hf'
    go_enter Try.func28, Try.ntmps28
    go_wp2_with fail
    refine (fit_any _ zs _ _ HV.out HLEN.out).mono ?_
    rw [HF.out]
    rintro e _ ⟨rfl, hw⟩
    rw [hw]
    clear hw
    go_wp2
    go_ret2
    exact ⟨_, rfl, Own.nil _ _ _ _, Ext.refl _⟩
end Go.Proofs.Ytokmlklcjipkiaa

/- Contracts of induce.ends and induce.emptyRow; what the buckets' beginnings and ends are. -/
namespace Go.Proofs.Ytokmlklcjipkiaa
set_option linter.unusedVariables false
set_option linter.unusedSimpArgs false
open Go.RowKit

theorem cntsI_K {s : List Int} {K q : Nat} (f : Fits s K) (h : q < K) : (cntsI s K).getD q 0 = cntK s.length (keyN s) q := by
  rw [cntsI_at s h]
  have := cntI_pick (ps := List.range s.length) (key := keyN s) (zs := s) (fun j hj => by
    rw [List.length_range] at hj
    rw [rangeN_at hj]
    exact f.num j hj) q s.length (by rw [List.length_range]; exact Nat.le_refl _)
  rw [this]
  unfold cntK
  congr 2
  rw [List.take_of_length_le (by rw [List.length_range]; exact Nat.le_refl _)]
theorem sum_offK {s : List Int} {K : Nat} (f : Fits s K) : ∀ q, q ≤ K → sumI (natL (cntsI s K)) q = (offK s.length (keyN s) q : Int) := sum_offs fun q hq => cntsI_K f hq
theorem starts_beg {s : List Int} {K : Nat} (f : Fits s K) : startsI (natL (cntsI s K)) = natL (begN s K) := by
  refine getD_ext (by rw [startsI_len, natL_len, natL_len, cntsI_len]; simp [begN]) fun q hq => ?_
  rw [startsI_len, natL_len, cntsI_len] at hq
  rw [startsI_at _ (by rw [natL_len, cntsI_len]; exact hq), sum_offK f q (by omega), natL_at]
  unfold begN
  rw [mapI_at _ _ hq]
theorem sum_bound {s : List Int} {K : Nat} (f : Fits s K) (hn : s.length ≤ 1000000) : ∀ i, i ≤ (natL (cntsI s K)).length → -4611686018427387904 ≤ sumI (natL (cntsI s K)) i ∧ sumI (natL (cntsI s K)) i ≤ 4611686018427387904 := fun i hi => by
  rw [natL_len, cntsI_len] at hi
  rw [sum_offK f i hi]
  have h3 := offK_mono s.length (keyN s) hi
  rw [offK_all f.lt] at h3
  omega
theorem begN_len (s : List Int) (K : Nat) : (begN s K).length = K := by simp [begN]
theorem endN_len (s : List Int) (K : Nat) : (endN s K).length = K := by simp [endN]
theorem begN_at (s : List Int) {K q : Nat} (h : q < K) : (begN s K).getD q 0 = offK s.length (keyN s) q := mapI_at _ _ h
theorem endN_at (s : List Int) {K q : Nat} (h : q < K) : (endN s K).getD q 0 = offK s.length (keyN s) q + cntK s.length (keyN s) q := by
  rw [← offK_succ]
  exact mapI_at _ _ h
/-- The first q are ends, the others beginnings yet. -/
def mixN (s : List Int) (K q : Nat) : List Nat := (endN s K).take q ++ (begN s K).drop q
theorem mixN_len (s : List Int) {K q : Nat} (h : q ≤ K) : (mixN s K q).length = K := by
  unfold mixN
  rw [List.length_append, List.length_take, List.length_drop, endN_len, begN_len]
  omega
theorem mixN_zero (s : List Int) (K : Nat) : mixN s K 0 = begN s K := by simp [mixN]
theorem mixN_all (s : List Int) (K : Nat) : mixN s K K = endN s K := by
  unfold mixN
  rw [List.take_of_length_le (by rw [endN_len]; exact Nat.le_refl _), List.drop_of_length_le (by rw [begN_len]; exact Nat.le_refl _), List.append_nil]
theorem mixN_at (s : List Int) {K q : Nat} (h : q < K) : (mixN s K q).getD q 0 = (begN s K).getD q 0 := by
  unfold mixN
  simp only [List.getD_eq_getElem?_getD]
  rw [List.getElem?_append_right (by rw [List.length_take, endN_len]; omega), List.length_take, endN_len, List.getElem?_drop, show q + (q - min q K) = q by omega]
theorem mixN_next (s : List Int) {K q : Nat} (h : q < K) : (mixN s K q).set q ((mixN s K q).getD q 0 + cntK s.length (keyN s) q) = mixN s K (q + 1) := by
  rw [mixN_at s h, begN_at s h, ← endN_at s h]
  unfold mixN
  rw [takeN_succ (by rw [endN_len]; exact h), List.set_append_right _ _ (by rw [List.length_take, endN_len]; omega), List.length_take, endN_len, show q - min q K = 0 by omega, dropN_cons (by rw [begN_len]; exact h)]
  simp

set_option maxHeartbeats 1000000 in
theorem ends_any (v : Value) (s : List Int) (K : Nat) (w : World) (f : Fits s K) (hv : Sl .i64 w v (natL (cntsI s K))) (hK : K ≤ 1048576) (hn : s.length ≤ 1000000) :
    Calls Try.prog 38 #[v] w fun e w' => ∃ u, e = .returned u ∧ Own .i64 3 w.heap.size w' u (natL (endN s K)) ∧ Ext w w' := by
  have HV := hide' hv
  have C := hide' (starts_any _ _ w hv (by rw [natL_len, cntsI_len]; omega) (sum_bound f hn))
  rw [starts_beg f] at C
  obtain ⟨a, c, rfl, _⟩ := hv
  obtain ⟨_, _, _, hcv⟩ := HV.out.nat
  have CV := hide' hcv
  have HLC : Hid ((natL (cntsI s K)).length = K) := by show _ = _; rw [natL_len, cntsI_len]
  have HCK : Hid (∀ q, q < K → (cntsI s K).getD q 0 = cntK s.length (keyN s) q ∧ (mixN s K q).getD q 0 + cntK s.length (keyN s) q ≤ 1000000) := fun q hq => by
    refine ⟨cntsI_K f hq, ?_⟩
    rw [mixN_at s hq, begN_at s hq, ← offK_succ]
    have h3 := offK_mono s.length (keyN s) (show q + 1 ≤ K from hq)
    rw [offK_all f.lt] at h3
    omega
  have HNX : Hid (∀ q, q < K → (mixN s K q).set q ((mixN s K q).getD q 0 + cntK s.length (keyN s) q) = mixN s K (q + 1)) := fun q hq => mixN_next s hq
  have HML : Hid (∀ q, q ≤ K → (mixN s K q).length = K) := fun q hq => mixN_len s hq
  have HM0 := hide' (mixN_zero s K)
  have HMA := hide' (mixN_all s K)
  rw [HLC.out] at C CV HV ⊢
  clear hcv HLC hn f
  go_enter Try.func38, Try.ntmps38
  go_wp2_with fail
  refine C.out.mono ?_
  rintro e w1 ⟨s1, rfl, ho, he⟩
  have HO := hide' ho
  have HE := hide' he
  have HSH : Hid (0 < K → ∃ g cap, s1 = .slice (some ⟨g, 0, none⟩) K cap ∧ w.heap.size ≤ g) := fun hK => by
    have hl : (natL (begN s K)).length = K := by rw [natL_len, begN_len]
    obtain ⟨g, cap, h3, h4, _⟩ := HO.out.shape (fun e => by rw [e] at hl; simp at hl; omega)
    rw [hl] at h3
    exact ⟨g, cap, h3, h4⟩
  clear ho he C
  go_wp2
  go_loopw [10] (fun vi wr => ∃ (i : Nat), i ≤ K ∧ vi = .int .i64 i ∧ Hid (Own .i64 3 w.heap.size wr s1 (natL (mixN s K i))) ∧ Hid (Ext w wr)) (fun vi _ => K - (intOf vi).toNat)
  case atStart => exact ⟨0, Nat.zero_le _, rfl, (show Own _ _ _ _ _ _ by rw [HM0.out]; exact HO.out), HE⟩
  case round =>
    clear HO HE
    obtain ⟨i, hi, rfl, HO, HE⟩ := hrel
    by_cases hlt : i < K
    · have hlt' : (i : Int) < K := by omega
      obtain ⟨g1, o1, rfl, k1⟩ := CV.out (by omega)
      have c1 := HE.out.cellOf (k1 i hlt)
      clear k1
      obtain ⟨hc1, hc2⟩ := HCK.out i hlt
      have HN1 := hide' (HNX.out i hlt)
      rw [hc1] at c1
      clear hc1
      obtain ⟨g, cap, rfl, hg⟩ := HSH.out (by omega)
      have c2 := HO.out.intCell (HML.out i hi) i hlt
      have z2 := HO.out.frozen (by rw [natL_len]; exact HML.out i hi) i
      obtain ⟨x, HX⟩ : ∃ x, Hid ((mixN s K i).getD i 0 = x) := ⟨_, rfl⟩
      obtain ⟨y, HY⟩ : ∃ x, Hid (cntK s.length (keyN s) i = x) := ⟨_, rfl⟩
      rw [HX.out] at c2 hc2 HN1
      rw [HY.out] at c1 hc2 HN1
      have HO2 := hide' (HO.out.storeN (HML.out i hi) i (x + y))
      rw [HN1.out] at HO2
      have HE2 : Hid (Ext w (wr.setCell ⟨g, i, none⟩ (.int .i64 ((x + y : Nat) : Int)))) := Ext.but HE.out hg (but_set _ _ _ _)
      go_wp2
      go_roundw
      case rel => exact ⟨i + 1, by omega, by go_num, HO2, HE2⟩
      case measure => simp [intOf]; omega
    · have hlt' : decide ((i : Int) < K) = false := by simp; omega
      have hin : i = K := by omega
      subst hin
      go_wp2
      go_ret
      exact ⟨_, rfl, by rw [← HMA.out]; exact HO.out, HE.out⟩

set_option maxHeartbeats 400000 in
theorem emptyRow_any (n : Nat) (w : World) (hn : n ≤ 1000000) :
    Calls Try.prog 36 #[.int .i64 n] w fun e w' => e = .returned (.slice (some ⟨w.heap.size, 0, none⟩) n n) ∧ Own .i64 3 w.heap.size w' (.slice (some ⟨w.heap.size, 0, none⟩) n n) (List.replicate n (-1)) ∧ Ext w w' := by
  obtain ⟨w1, hmk, ho, he⟩ := make_intsB w n (by omega)
  have HO := hide' ho
  have HE := hide' he
  clear ho he
  go_enter Try.func36, Try.ntmps36
  go_wp2
  clear hmk
  go_loopw [9] (fun vi wr => ∃ (i : Nat) (bs : List Int), i ≤ n ∧ vi = .int .i64 i ∧ Hid (bs.length = n) ∧ Hid (∀ j, j < i → bs.getD j 0 = -1) ∧
    Hid (Own .i64 3 w.heap.size wr (.slice (some ⟨w.heap.size, 0, none⟩) n n) bs) ∧ Hid (Ext w wr)) (fun vi _ => n - (intOf vi).toNat)
  case atStart => exact ⟨0, List.replicate n 0, Nat.zero_le _, rfl, List.length_replicate, (fun j hj => by omega), HO, HE⟩
  case round =>
    clear HO HE
    obtain ⟨i, bs, hi, rfl, HL, HB, HO, HE⟩ := hrel
    by_cases hlt : i < n
    · have hlt' : (i : Int) < n := by omega
      have hfz := HO.out.frozen HL.out i
      have hci := HO.out.cell HL.out i hlt
      have HO2 := hide' (HO.out.store HL.out i (-1))
      go_wp2
      go_roundw
      case rel =>
        refine ⟨i + 1, bs.set i (-1), by omega, by go_num, (show _ = _ by rw [List.length_set]; exact HL.out), fun j hj => ?_, HO2, Ext.but HE.out (Nat.le_refl _) (but_set _ _ _ _)⟩
        by_cases hji : j = i
        · subst hji; rw [setI_same (by rw [HL.out]; exact hlt)]
        · rw [setI_other (by omega), HB.out j (by omega)]
      case measure => simp [intOf]; omega
    · have hlt' : decide ((i : Int) < n) = false := by simp; omega
      have hin : i = n := by omega
      subst hin
      have HQ : Hid (bs = List.replicate i (-1)) := getD_ext (by rw [HL.out, List.length_replicate]) fun j hj => by
        rw [HL.out] at hj
        rw [HB.out j hj]
        simp [List.getD, hj]
      go_wp2
      go_ret
      exact ⟨rfl, by rw [← HQ.out]; exact HO.out, HE.out⟩
end Go.Proofs.Ytokmlklcjipkiaa

/- Contracts of induce.layLast and induce.layNext. -/
namespace Go.Proofs.Ytokmlklcjipkiaa
set_option linter.unusedVariables false
set_option linter.unusedSimpArgs false
open Go.RowKit

/-- What a call that lays one place hands on: both rows as they are told, all that was there ahead of them as it was. -/
def Laid (B1 B2 g h n K c : Nat) (w w' : World) (st : List Int × List Nat) : Prop :=
  Own .i64 3 B1 w' (.slice (some ⟨g, 0, none⟩) n n) st.1 ∧ Own .i64 3 B2 w' (.slice (some ⟨h, 0, none⟩) K c) (natL st.2) ∧
  ∀ w0 : World, Ext w0 w → w0.heap.size ≤ g → w0.heap.size ≤ h → Ext w0 w'

set_option maxHeartbeats 400000 in
theorem layLast_any (B1 B2 g h n K c p : Nat) (sv : Value) (s : List Int) (st : List Int × List Nat) (w : World) (hs : Sl .i64 w sv s) (h1 : Own .i64 3 B1 w (.slice (some ⟨g, 0, none⟩) n n) st.1) (h2 : Own .i64 3 B2 w (.slice (some ⟨h, 0, none⟩) K c) (natL st.2))
    (hne : g ≠ h) (hn : st.1.length = n) (hK : st.2.length = K) (hsn : s.length = n) (hp : p < n) (hk : keyN s p < K) (hnum : s.getD p 0 = (keyN s p : Int)) (ht : 1 ≤ st.2.getD (keyN s p) 0) (ht2 : st.2.getD (keyN s p) 0 ≤ n) (hn9 : n ≤ 1000000) :
    Calls Try.prog 46 #[.slice (some ⟨g, 0, none⟩) n n, sv, .slice (some ⟨h, 0, none⟩) K c, .int .i64 p] w fun e w' => e = .returned (.tuple #[]) ∧ Laid B1 B2 g h n K c w w' (putE s st p) := by
  obtain ⟨row, ptr⟩ := st
  simp only at h1 h2 hn hK ht ht2
  have HPE : Hid (putE s (row, ptr) p = (row.set (ptr.getD (keyN s p) 0 - 1) (p : Int), ptr.set (keyN s p) (ptr.getD (keyN s p) 0 - 1))) := rfl
  have HL1 := hide' hn
  have HL2 := hide' hK
  have O1 := hide' h1
  have O2 := hide' h2
  have HV := hide' hs
  obtain ⟨a, cs, rfl, _⟩ := hs
  obtain ⟨_, _, _, hcv⟩ := HV.out.int
  rw [hsn] at hcv ⊢
  obtain ⟨g1, o1, rfl, k1⟩ := hcv (by omega)
  have c1 := k1 p hp
  rw [hnum] at c1
  clear k1 HV hnum hn hK h1 h2
  obtain ⟨q, HQ⟩ : ∃ q, Hid (keyN s p = q) := ⟨_, rfl⟩
  rw [HQ.out] at c1 hk ht ht2 HPE
  have c2 := O2.out.intCell HL2.out q hk
  have z2 := O2.out.frozen (by rw [natL_len]; exact HL2.out) q
  obtain ⟨t, HT⟩ : ∃ t, Hid (ptr.getD q 0 = t) := ⟨_, rfl⟩
  rw [HT.out] at c2 ht ht2 HPE
  obtain ⟨f, HF⟩ : ∃ f, Hid (t = f + 1) := ⟨t - 1, by show _ = _; omega⟩
  have hf : (t : Int) - 1 = (f : Int) := by have := HF.out; omega
  have hfn : f < n := by have := HF.out; omega
  have hfn' : (f : Int) < n := by omega
  have hpn' : (p : Int) < n := by omega
  have hqk' : (q : Int) < K := by omega
  rw [show t - 1 = f by omega] at HPE
  have hne' : h ≠ g := Ne.symm hne
  have P2 := hide' (O2.out.storeN HL2.out q f)
  have P1 := hide' (O1.out.keep hne (but_set w h q (.int .i64 (f : Int))))
  have c3 := P2.out.intCell (by rw [List.length_set]; exact HL2.out) q hk
  rw [set_same (by rw [HL2.out]; exact hk)] at c3
  have z1 := P1.out.frozen HL1.out f
  have c4 := P1.out.cell HL1.out f hfn
  have R1 := hide' (P1.out.store HL1.out f (p : Int))
  have R2 := hide' (P2.out.keep hne' (but_set (w.setCell ⟨h, q, none⟩ (.int .i64 (f : Int))) g f (.int .i64 (p : Int))))
  rw [HPE.out]
  go_enter Try.func46, Try.ntmps46
  go_wp2
  first | go_end0 | (simp only [Exit.inBlock, Exit.then]; refine bodyPost_ret (results_none rfl _ _ _) rfl ?_) | refine bodyPost_ret (results_none rfl _ _ _) rfl ?_
  exact ⟨rfl, R1.out, R2.out, fun w0 he hg hh => Ext.but (Ext.but he hh (but_set w h q _)) hg (but_set _ g f _)⟩

set_option maxHeartbeats 400000 in
theorem layNext_any (B1 B2 g h n K c p : Nat) (sv : Value) (s : List Int) (st : List Int × List Nat) (w : World) (hs : Sl .i64 w sv s) (h1 : Own .i64 3 B1 w (.slice (some ⟨g, 0, none⟩) n n) st.1) (h2 : Own .i64 3 B2 w (.slice (some ⟨h, 0, none⟩) K c) (natL st.2))
    (hne : g ≠ h) (hn : st.1.length = n) (hK : st.2.length = K) (hsn : s.length = n) (hp : p < n) (hk : keyN s p < K) (hnum : s.getD p 0 = (keyN s p : Int)) (ht2 : st.2.getD (keyN s p) 0 < n) (hn9 : n ≤ 1000000) :
    Calls Try.prog 47 #[.slice (some ⟨g, 0, none⟩) n n, sv, .slice (some ⟨h, 0, none⟩) K c, .int .i64 p] w fun e w' => e = .returned (.tuple #[]) ∧ Laid B1 B2 g h n K c w w' (putB s st p) := by
  obtain ⟨row, ptr⟩ := st
  simp only at h1 h2 hn hK ht2
  have HPE : Hid (putB s (row, ptr) p = (row.set (ptr.getD (keyN s p) 0) (p : Int), ptr.set (keyN s p) (ptr.getD (keyN s p) 0 + 1))) := rfl
  have HL1 := hide' hn
  have HL2 := hide' hK
  have O1 := hide' h1
  have O2 := hide' h2
  have HV := hide' hs
  obtain ⟨a, cs, rfl, _⟩ := hs
  obtain ⟨_, _, _, hcv⟩ := HV.out.int
  rw [hsn] at hcv ⊢
  obtain ⟨g1, o1, rfl, k1⟩ := hcv (by omega)
  have c1 := k1 p hp
  rw [hnum] at c1
  clear k1 HV hnum hn hK h1 h2
  obtain ⟨q, HQ⟩ : ∃ q, Hid (keyN s p = q) := ⟨_, rfl⟩
  rw [HQ.out] at c1 hk ht2 HPE
  have c2 := O2.out.intCell HL2.out q hk
  obtain ⟨f, HT⟩ : ∃ t, Hid (ptr.getD q 0 = t) := ⟨_, rfl⟩
  rw [HT.out] at c2 ht2 HPE
  have hfn' : (f : Int) < n := by omega
  have hpn' : (p : Int) < n := by omega
  have hqk' : (q : Int) < K := by omega
  have hne' : h ≠ g := Ne.symm hne
  have z1 := O1.out.frozen HL1.out f
  have c4 := O1.out.cell HL1.out f ht2
  have P1 := hide' (O1.out.store HL1.out f (p : Int))
  have P2 := hide' (O2.out.keep hne' (but_set w g f (.int .i64 (p : Int))))
  have z2 := P2.out.frozen (by rw [natL_len]; exact HL2.out) q
  have c5 := P2.out.intCell HL2.out q hk
  rw [HT.out] at c5
  have R2 := hide' (P2.out.storeN HL2.out q (f + 1))
  have R1 := hide' (P1.out.keep hne (but_set (w.setCell ⟨g, f, none⟩ (.int .i64 (p : Int))) h q (.int .i64 ((f + 1 : Nat) : Int))))
  rw [HPE.out]
  go_enter Try.func47, Try.ntmps47
  go_wp2
  first | go_end0 | (simp only [Exit.inBlock, Exit.then]; refine bodyPost_ret (results_none rfl _ _ _) rfl ?_) | refine bodyPost_ret (results_none rfl _ _ _) rfl ?_
  exact ⟨rfl, R1.out, R2.out, fun w0 he hg hh => Ext.but (Ext.but he hg (but_set w g f _)) hh (but_set _ h q _)⟩
end Go.Proofs.Ytokmlklcjipkiaa

/- Contracts of induce.layFirst and induce.takeOutSmall. -/
namespace Go.Proofs.Ytokmlklcjipkiaa
set_option linter.unusedVariables false
set_option linter.unusedSimpArgs false
open Go.RowKit

set_option maxHeartbeats 1000000 in
theorem layFirst_any (B1 B2 g K : Nat) (sv fv ev : Value) (s : List Int) (F : List Nat) (w0 w : World) (f : Fits s K) (hF : Firsts s F) (hs : Sl .i64 w0 sv s) (hf : Sl .i64 w0 fv (natL F)) (he : Ext w0 w)
    (h1 : Own .i64 3 B1 w (.slice (some ⟨g, 0, none⟩) s.length s.length) (st1 s K F 0).1) (h2 : Own .i64 3 B2 w ev (natL (st1 s K F 0).2)) (hg0 : w0.heap.size ≤ g) (hgB : g < B2) (hn9 : s.length ≤ 1000000) :
    Calls Try.prog 37 #[.slice (some ⟨g, 0, none⟩) s.length s.length, sv, fv, ev] w fun e w' => e = .returned (.tuple #[]) ∧ Own .i64 3 B1 w' (.slice (some ⟨g, 0, none⟩) s.length s.length) (st1 s K F F.length).1 ∧ Ext w0 w' := by
  have HV := hide' hs
  have HFV := hide' hf
  have HE0 := hide' he
  have O1 := hide' h1
  have O2 := hide' h2
  obtain ⟨a, c, rfl, _⟩ := hf
  obtain ⟨_, _, _, hcv⟩ := HFV.out.nat
  have CV := hide' hcv
  have HOK : Hid (∀ m, m < F.length → (st1 s K F m).1.length = s.length ∧ (st1 s K F m).2.length = K ∧ F.getD (F.length - 1 - m) 0 < s.length ∧ keyN s (F.getD (F.length - 1 - m) 0) < K ∧
    1 ≤ (st1 s K F m).2.getD (keyN s (F.getD (F.length - 1 - m) 0)) 0 ∧ (st1 s K F m).2.getD (keyN s (F.getD (F.length - 1 - m) 0)) 0 ≤ s.length) := fun m hm => st1_ok f hF hm
  have HST : Hid (∀ m, st1 s K F (m + 1) = putE s (st1 s K F m) (F.getD (F.length - 1 - m) 0)) := fun m => rfl
  have HFT := hide' f
  obtain ⟨L, HL⟩ : ∃ n, Hid (F.length = n) := ⟨_, rfl⟩
  have HLL : Hid ((natL F).length = L) := by show _ = _; rw [natL_len, HL.out]
  have hLn : L ≤ s.length := by
    have := hF.perm.length_eq
    rw [HL.out] at this
    rw [this]
    exact firN_len _ _
  rw [HLL.out] at CV HFV ⊢
  rw [HL.out] at HOK HST ⊢
  obtain ⟨n, HN⟩ : ∃ n, Hid (s.length = n) := ⟨_, rfl⟩
  rw [HN.out] at HOK O1 hn9 hLn ⊢
  clear hcv h1 h2 he hs hF f HLL
  have hw1 : IntKind.i64.wrap ((L : Int) - 1) = (L : Int) - 1 := by rw [IntKind.wrap_i64]; omega
  go_enter Try.func37, Try.ntmps37
  go_wp2
  go_loopw [8] (fun vi wr => ∃ (m : Nat) (x : Int), m ≤ L ∧ vi = .int .i64 x ∧ Hid (x = (L : Int) - 1 - m) ∧ Hid (Own .i64 3 B1 wr (.slice (some ⟨g, 0, none⟩) n n) (st1 s K F m).1) ∧
    Hid (Own .i64 3 B2 wr ev (natL (st1 s K F m).2)) ∧ Hid (Ext w0 wr)) (fun vi _ => (intOf vi + 1).toNat)
  case atStart => exact ⟨0, (L : Int) - 1, Nat.zero_le _, by first | rfl | rw [hw1], (show _ = _ by simp), O1, O2, HE0⟩
  case round =>
    clear O1 O2 HE0
    obtain ⟨m, x, hm, rfl, HX, O1, O2, HE⟩ := hrel
    by_cases hlt : m < L
    · obtain ⟨i, HI⟩ : ∃ i, Hid (L - 1 - m = i) := ⟨_, rfl⟩
      have hxi : x = (i : Int) := by have := HX.out; have := HI.out; omega
      subst hxi
      have hiL : i < L := by have := HI.out; omega
      have hiL' : (i : Int) < L := by omega
      have hi0 : (0 : Int) ≤ i := by omega
      obtain ⟨q1, q2, q3, q4, q5, q6⟩ := HOK.out m hlt
      have HS1 := hide' (HST.out m)
      rw [HI.out] at q3 q4 q5 q6 HS1
      obtain ⟨g1, o1, rfl, k1⟩ := CV.out (by omega)
      have c1 := HE.out.cellOf (k1 i hiL)
      clear k1
      obtain ⟨p, HP⟩ : ∃ p, Hid (F.getD i 0 = p) := ⟨_, rfl⟩
      rw [HP.out] at c1 q3 q4 q5 q6 HS1
      obtain ⟨h, cap, hev, hh, hcap⟩ := O2.out.shape (fun e => by
        have : (natL (st1 s K F m).2).length = 0 := by rw [e]; rfl
        rw [natL_len] at this
        omega)
      rw [natL_len, q2] at hev
      subst hev
      have C := hide' (layLast_any B1 B2 g h n K cap p sv s (st1 s K F m) wr (HV.out.ext HE.out) O1.out O2.out (by omega) q1 q2 HN.out q3 q4 (HFT.out.num p (by rw [HN.out]; exact q3)) q5 q6 hn9)
      rw [← HS1.out] at C
      clear q1 q2 q3 q4 q5 q6 hcap
      have hi1 : IntKind.i64.wrap ((i : Int) - 1) = (i : Int) - 1 := by rw [IntKind.wrap_i64]; omega
      go_wp2_with fail
      refine C.out.mono ?_
      rintro e w2 ⟨rfl, ho1, ho2, hex⟩
      have P1 := hide' ho1
      have P2 := hide' ho2
      have PE := hide' (hex w0 HE.out hg0 (by omega))
      clear ho1 ho2 hex C
      go_wp2
      go_roundw
      case rel => exact ⟨m + 1, (i : Int) - 1, by omega, by first | rfl | rw [hi1], (show _ = _ by have := HX.out; omega), P1, P2, PE⟩
      case measure => simp [intOf] <;> omega
    · have hm2 : m = L := by omega
      subst hm2
      have hx : x = -1 := by have := HX.out; omega
      subst hx
      go_wp2
      first | go_end0 | (simp only [Exit.inBlock, Exit.then]; refine bodyPost_ret (results_none rfl _ _ _) rfl ?_) | refine bodyPost_ret (results_none rfl _ _ _) rfl ?_
      exact ⟨rfl, O1.out, HE.out⟩

set_option maxHeartbeats 1000000 in
theorem takeOut_any (B1 g : Nat) (bv : Value) (s row : List Int) (w0 w : World) (hb : SlB w0 bv (smallI s)) (he : Ext w0 w) (hl : row.length = s.length) (hr : ∀ x, x < s.length → -1 ≤ row.getD x 0 ∧ row.getD x 0 < s.length)
    (h1 : Own .i64 3 B1 w (.slice (some ⟨g, 0, none⟩) s.length s.length) row) (hg0 : w0.heap.size ≤ g) (hn9 : s.length ≤ 1000000) :
    Calls Try.prog 41 #[.slice (some ⟨g, 0, none⟩) s.length s.length, bv] w fun e w' => e = .returned (.tuple #[]) ∧ Own .i64 3 B1 w' (.slice (some ⟨g, 0, none⟩) s.length s.length) (outI s row) ∧ Ext w0 w' := by
  have HB := hide' hb
  have HE0 := hide' he
  have O1 := hide' h1
  have HR := hide' hr
  have HLR := hide' hl
  obtain ⟨a, c, rfl, _⟩ := hb
  obtain ⟨_, _, _, hcv⟩ := HB.out.truth
  have CV := hide' hcv
  have HLB : Hid ((smallI s).length = s.length) := smallI_len s
  have HAT : Hid (∀ i, i < s.length → (outI s row).getD i 0 = if 0 ≤ row.getD i 0 ∧ smB s (row.getD i 0).toNat = true then -1 else row.getD i 0) := fun i hi => outI_at s row (by rw [hl]; exact hi)
  have HSM : Hid (∀ i, i < s.length → (smallI s).getD i false = smB s i) := fun i hi => smallI_at hi
  rw [HLB.out] at CV HB ⊢
  obtain ⟨n, HN⟩ : ∃ n, Hid (s.length = n) := ⟨_, rfl⟩
  rw [HN.out] at HR HLR CV O1 hn9 HAT HSM HB ⊢
  clear hcv h1 he hr hl HLB
  go_enter Try.func41, Try.ntmps41
  go_wp2
  go_loopw [8] (fun vi wr => ∃ (i : Nat) (bs : List Int), i ≤ n ∧ vi = .int .i64 i ∧ Hid (bs.length = n) ∧ Hid (∀ j, j < i → bs.getD j 0 = (outI s row).getD j 0) ∧ Hid (∀ j, i ≤ j → bs.getD j 0 = row.getD j 0) ∧
    Hid (Own .i64 3 B1 wr (.slice (some ⟨g, 0, none⟩) n n) bs) ∧ Hid (Ext w0 wr)) (fun vi _ => n - (intOf vi).toNat)
  case atStart => exact ⟨0, row, Nat.zero_le _, rfl, HLR, (fun j hj => by omega), (fun j _ => rfl), O1, HE0⟩
  case round =>
    clear O1 HE0
    obtain ⟨i, bs, hi, rfl, HL, HA, HC, O1, HE⟩ := hrel
    by_cases hlt : i < n
    · have hlt' : (i : Int) < n := by omega
      have hci := O1.out.cell HL.out i hlt
      rw [HC.out i (Nat.le_refl _)] at hci
      obtain ⟨hv1, hv2⟩ := HR.out i hlt
      have HX := hide' (HAT.out i hlt)
      obtain ⟨j, HJ⟩ : ∃ j, Hid (row.getD i 0 = j) := ⟨_, rfl⟩
      rw [HJ.out] at hci hv1 hv2 HX
      by_cases h0 : j = -1
      · subst h0
        have HX2 : Hid ((outI s row).getD i 0 = -1) := by show _ = _; rw [HX.out, if_neg (by omega)]
        clear hv1 hv2
        go_wp2
        go_roundw
        case rel =>
          refine ⟨i + 1, bs, by omega, by go_num, HL, fun j hj => ?_, fun j hj => HC.out j (by omega), O1, HE⟩
          by_cases hji : j = i
          · subst hji; rw [HC.out j (Nat.le_refl _), HJ.out, HX2.out]
          · exact HA.out j (by omega)
        case measure => simp [intOf]; omega
      · obtain ⟨p, rfl⟩ := Int.eq_ofNat_of_zero_le (show 0 ≤ j by omega)
        have d1 : ((p : Int) == -1) = false := by simp <;> omega
        have d2 : ((p : Int) != -1) = true := by simp <;> omega
        have hpn : p < n := by omega
        obtain ⟨g1, o1, rfl, k1⟩ := CV.out (by omega)
        have c1 := HE.out.cellOf (k1 p hpn)
        rw [HSM.out p hpn] at c1
        clear k1
        cases hs : smB s p
        · rw [hs] at c1
          have HX2 : Hid ((outI s row).getD i 0 = (p : Int)) := by show _ = _; rw [HX.out, if_neg (by rw [Int.toNat_natCast, hs]; simp)]
          clear hs h0
          go_wp2
          go_roundw
          case rel =>
            refine ⟨i + 1, bs, by omega, by go_num, HL, fun j hj => ?_, fun j hj => HC.out j (by omega), O1, HE⟩
            by_cases hji : j = i
            · subst hji; rw [HC.out j (Nat.le_refl _), HJ.out, HX2.out]
            · exact HA.out j (by omega)
          case measure => simp [intOf]; omega
        · rw [hs] at c1
          have HX2 : Hid ((outI s row).getD i 0 = -1) := by show _ = _; rw [HX.out, if_pos ⟨by omega, by rw [Int.toNat_natCast, hs]⟩]
          have hfz := O1.out.frozen HL.out i
          have P1 := hide' (O1.out.store HL.out i (-1))
          clear hs h0
          go_wp2
          go_roundw
          case rel =>
            refine ⟨i + 1, bs.set i (-1), by omega, by go_num, (show _ = _ by rw [List.length_set]; exact HL.out), fun j hj => ?_, fun j hj => ?_, P1, Ext.but HE.out hg0 (but_set _ _ _ _)⟩
            · by_cases hji : j = i
              · subst hji; rw [setI_same (by rw [HL.out]; exact hlt), HX2.out]
              · rw [setI_other (by omega)]; exact HA.out j (by omega)
            · rw [setI_other (by omega)]; exact HC.out j (by omega)
          case measure => simp [intOf]; omega
    · have hlt' : decide ((i : Int) < n) = false := by simp; omega
      have hin : i = n := by omega
      subst hin
      have HQ : Hid (bs = outI s row) := getD_ext (by rw [HL.out, outI_len, HLR.out]) fun j hj => by
        rw [HL.out] at hj
        exact HA.out j hj
      go_wp2
      first | go_end0 | (simp only [Exit.inBlock, Exit.then]; refine bodyPost_ret (results_none rfl _ _ _) rfl ?_) | refine bodyPost_ret (results_none rfl _ _ _) rfl ?_
      exact ⟨rfl, by rw [← HQ.out]; exact O1.out, HE.out⟩
end Go.Proofs.Ytokmlklcjipkiaa

/- Contract of induce.layLarge. -/
namespace Go.Proofs.Ytokmlklcjipkiaa
set_option linter.unusedVariables false
set_option linter.unusedSimpArgs false
open Go.RowKit

theorem stepB_no {s : List Int} {st : List Int × List Nat} {j : Int} (h : j ≤ 0) : stepB s st j = st := if_neg (by omega)
theorem stepB_small {s : List Int} {st : List Int × List Nat} {p : Nat} (h : smB s p = true) : stepB s st ((p + 1 : Nat) : Int) = st := by
  unfold stepB
  rw [show (((p + 1 : Nat) : Int) - 1).toNat = p by omega, h, if_neg (by simp)]
theorem stepB_yes {s : List Int} {st : List Int × List Nat} {p : Nat} (h : smB s p = false) : stepB s st ((p + 1 : Nat) : Int) = putB s st p := by
  unfold stepB
  rw [show (((p + 1 : Nat) : Int) - 1).toNat = p by omega, h, if_pos ⟨by omega, rfl⟩]
theorem stepE_no {s : List Int} {st : List Int × List Nat} {j : Int} (h : j ≤ 0) : stepE s st j = st := if_neg (by omega)
theorem stepE_large {s : List Int} {st : List Int × List Nat} {p : Nat} (h : smB s p = false) : stepE s st ((p + 1 : Nat) : Int) = st := by
  unfold stepE
  rw [show (((p + 1 : Nat) : Int) - 1).toNat = p by omega, h, if_neg (by simp)]
theorem stepE_yes {s : List Int} {st : List Int × List Nat} {p : Nat} (h : smB s p = true) : stepE s st ((p + 1 : Nat) : Int) = putE s st p := by
  unfold stepE
  rw [show (((p + 1 : Nat) : Int) - 1).toNat = p by omega, h, if_pos ⟨by omega, rfl⟩]
/-- What the second step reads, and where it lays. -/
theorem st2_ok {s : List Int} {K : Nat} {F : List Nat} (f : Fits s K) (hF : Firsts s F) {i : Nat} (hi : i < s.length) : (st2 s K F (i + 1)).1.length = s.length ∧ (st2 s K F (i + 1)).2.length = K ∧ -1 ≤ (st2 s K F (i + 1)).1.getD i 0 ∧ (st2 s K F (i + 1)).1.getD i 0 < s.length ∧
    ∀ p : Nat, (st2 s K F (i + 1)).1.getD i 0 = ((p + 1 : Nat) : Int) → smB s p = false → keyN s p < K ∧ (st2 s K F (i + 1)).2.getD (keyN s p) 0 < s.length := by
  obtain ⟨P, h⟩ := st2_all f hF (by omega) i (by omega)
  have b := based2 f hF
  obtain ⟨v1, v2⟩ := h.val b hi
  refine ⟨h.beg.rl, h.beg.pl, v1, v2, fun p hp hT => ?_⟩
  obtain ⟨_, g2, g3, _⟩ := h.ok f b hi hp hT
  exact ⟨g2, g3⟩
theorem st2_vals {s : List Int} {K : Nat} {F : List Nat} (f : Fits s K) (hF : Firsts s F) : (st2 s K F (s.length + 1)).1.length = s.length ∧ ∀ x, x < s.length → -1 ≤ (st2 s K F (s.length + 1)).1.getD x 0 ∧ (st2 s K F (s.length + 1)).1.getD x 0 < s.length := by
  by_cases hn : 0 < s.length
  · obtain ⟨P, h⟩ := st2_all f hF hn s.length (Nat.le_refl _)
    exact ⟨h.beg.rl, fun x hx => h.val (based2 f hF) hx⟩
  · refine ⟨?_, fun x hx => by omega⟩
    have h0 : s.length = 0 := by omega
    have hs : s = [] := List.length_eq_zero_iff.1 h0
    have hFe : F = [] := by
      have := hF.perm
      rw [hs] at this
      exact List.perm_nil.1 this
    subst hs
    subst hFe
    rfl

set_option maxHeartbeats 1000000 in
theorem layLarge_any (B1 B2 g K : Nat) (sv bv ev : Value) (s : List Int) (F : List Nat) (w0 w : World) (f : Fits s K) (hF : Firsts s F) (hs : Sl .i64 w0 sv s) (hb : SlB w0 bv (smallI s)) (he : Ext w0 w)
    (h1 : Own .i64 3 B1 w (.slice (some ⟨g, 0, none⟩) s.length s.length) (st2 s K F 0).1) (h2 : Own .i64 3 B2 w ev (natL (st2 s K F 0).2)) (hg0 : w0.heap.size ≤ g) (hgB : g < B2) (hn9 : s.length ≤ 1000000) :
    Calls Try.prog 39 #[.slice (some ⟨g, 0, none⟩) s.length s.length, sv, bv, ev] w fun e w' => e = .returned (.tuple #[]) ∧ Own .i64 3 B1 w' (.slice (some ⟨g, 0, none⟩) s.length s.length) (st2 s K F (s.length + 1)).1 ∧ Ext w0 w' := by
  have HV := hide' hs
  have HB := hide' hb
  have HE0 := hide' he
  have O1 := hide' h1
  have O2 := hide' h2
  obtain ⟨a0, c0, rfl, _⟩ := hs
  obtain ⟨a, c, rfl, _⟩ := hb
  obtain ⟨_, _, _, hcv⟩ := HB.out.truth
  have CV := hide' hcv
  by_cases hn0 : 0 < s.length
  rotate_left
  · have h0 : s.length = 0 := by omega
    have hs : s = [] := List.length_eq_zero_iff.1 h0
    have hFe : F = [] := by
      have := hF.perm
      rw [hs] at this
      exact List.perm_nil.1 this
    have HEQ : Hid ((st2 s K F (s.length + 1)).1 = (st2 s K F 0).1) := by
      subst hs
      subst hFe
      rfl
    rw [HEQ.out, h0]
    rw [h0] at O1
    clear hs hFe HEQ h1 h2 hn0 hcv he
    go_enter Try.func39, Try.ntmps39
    go_wp2
    first | go_end0 | (simp only [Exit.inBlock, Exit.then]; refine bodyPost_ret (results_none rfl _ _ _) rfl ?_) | refine bodyPost_ret (results_none rfl _ _ _) rfl ?_
    exact ⟨rfl, O1.out, HE0.out⟩
  · have HFT := hide' f
    have HOK : Hid (∀ i, i < s.length → (st2 s K F (i + 1)).1.length = s.length ∧ (st2 s K F (i + 1)).2.length = K ∧ -1 ≤ (st2 s K F (i + 1)).1.getD i 0 ∧ (st2 s K F (i + 1)).1.getD i 0 < s.length ∧
      ∀ p : Nat, (st2 s K F (i + 1)).1.getD i 0 = ((p + 1 : Nat) : Int) → smB s p = false → keyN s p < K ∧ (st2 s K F (i + 1)).2.getD (keyN s p) 0 < s.length) := fun i hi => st2_ok f hF hi
    have HST : Hid (∀ i, st2 s K F (i + 2) = stepB s (st2 s K F (i + 1)) ((st2 s K F (i + 1)).1.getD i 0)) := fun i => st2_next i
    have HS1 : Hid (st2 s K F 1 = putB s (st2 s K F 0) (s.length - 1)) := st2_one hn0
    obtain ⟨q1, q2, _⟩ := st2_first f hF hn0
    have qb := st2_begin f hF
    have HLB : Hid ((smallI s).length = s.length) := smallI_len s
    have HSM : Hid (∀ i, i < s.length → (smallI s).getD i false = smB s i) := fun i hi => smallI_at hi
    rw [HLB.out] at CV HB ⊢
    obtain ⟨n, HN⟩ : ∃ n, Hid (s.length = n) := ⟨_, rfl⟩
    have HQ1 := hide' qb.rl
    have HQ2 := hide' qb.pl
    rw [HN.out] at CV HB HOK HS1 q1 q2 HSM O1 hn9 hn0 HQ1 HV ⊢
    obtain ⟨m, HM⟩ : ∃ m, Hid (n - 1 = m) := ⟨_, rfl⟩
    rw [HM.out] at q1 q2 HS1
    have hmn : m < n := by have := HM.out; omega
    have hm1 : (n : Int) - 1 = (m : Int) := by have := HM.out; omega
    have hnz : ((n : Int) == 0) = false := by simp; omega
    obtain ⟨h, cap, hev, hh, hcap⟩ := O2.out.shape (fun e => by
      have : (natL (st2 s K F 0).2).length = 0 := by rw [e]; rfl
      rw [natL_len, HQ2.out] at this
      omega)
    rw [natL_len, HQ2.out] at hev
    subst hev
    have C := hide' (layNext_any B1 B2 g h n K cap m _ s (st2 s K F 0) w (HV.out.ext HE0.out) O1.out O2.out (by omega) HQ1.out HQ2.out HN.out hmn q1 (HFT.out.num m (by rw [HN.out]; exact hmn)) q2 hn9)
    rw [← HS1.out] at C
    clear hcv h1 h2 he hF f HLB qb q1 q2 O1 O2 hcap HS1 HQ1 HQ2
    go_enter Try.func39, Try.ntmps39
    go_wp2_with fail
    refine C.out.mono ?_
    rintro e w2 ⟨rfl, ho1, ho2, hex⟩
    have P1 := hide' ho1
    have P2 := hide' ho2
    have PE := hide' (hex w0 HE0.out hg0 (by omega))
    clear ho1 ho2 hex C HE0
    go_wp2
    go_loopw [22] (fun vi wr => ∃ (i : Nat), i ≤ n ∧ vi = .int .i64 i ∧ Hid (Own .i64 3 B1 wr (.slice (some ⟨g, 0, none⟩) n n) (st2 s K F (i + 1)).1) ∧
      Hid (Own .i64 3 B2 wr (.slice (some ⟨h, 0, none⟩) K cap) (natL (st2 s K F (i + 1)).2)) ∧ Hid (Ext w0 wr)) (fun vi _ => n - (intOf vi).toNat)
    case atStart => exact ⟨0, Nat.zero_le _, rfl, P1, P2, PE⟩
    case round =>
      clear P1 P2 PE
      obtain ⟨i, hi, rfl, O1, O2, HE⟩ := hrel
      by_cases hlt : i < n
      · have hlt' : (i : Int) < n := by omega
        obtain ⟨q1, q2, v1, v2, hok⟩ := HOK.out i hlt
        have HS1 := hide' (HST.out i)
        have HO := hide' hok
        have HQ1 := hide' q1
        have HQ2 := hide' q2
        have c1 := O1.out.cell q1 i hlt
        obtain ⟨j, HJ⟩ : ∃ j, Hid ((st2 s K F (i + 1)).1.getD i 0 = j) := ⟨_, rfl⟩
        rw [HJ.out] at c1 v1 v2 HS1 HO
        clear hok q1 q2
        by_cases h0 : j ≤ 0
        · have d1 : decide (0 < j) = false := by simp; omega
          rw [stepB_no h0] at HS1
          have R1 : Hid (Own .i64 3 B1 wr (.slice (some ⟨g, 0, none⟩) n n) (st2 s K F (i + 2)).1) := by rw [HS1.out]; exact O1.out
          have R2 : Hid (Own .i64 3 B2 wr (.slice (some ⟨h, 0, none⟩) K cap) (natL (st2 s K F (i + 2)).2)) := by rw [HS1.out]; exact O2.out
          clear h0 v1 v2
          go_wp2
          go_roundw
          case rel => exact ⟨i + 1, by omega, by go_num, R1, R2, HE⟩
          case measure => simp [intOf] <;> omega
        · obtain ⟨p, HP⟩ : ∃ p : Nat, Hid (j = ((p + 1 : Nat) : Int)) := ⟨(j - 1).toNat, by show _ = _; omega⟩
          have hj0 : 0 < j := by omega
          have hjp : j - 1 = (p : Int) := by have := HP.out; omega
          have hpn : p < n := by have := HP.out; omega
          have hpn' : (p : Int) < n := by omega
          obtain ⟨g1, o1, rfl, k1⟩ := CV.out (by omega)
          have c2 := HE.out.cellOf (k1 p hpn)
          rw [HSM.out p hpn] at c2
          clear k1 v1 v2 h0
          cases hsp : smB s p
          rotate_left
          · rw [hsp] at c2
            rw [HP.out, stepB_small hsp] at HS1
            have R1 : Hid (Own .i64 3 B1 wr (.slice (some ⟨g, 0, none⟩) n n) (st2 s K F (i + 2)).1) := by rw [HS1.out]; exact O1.out
            have R2 : Hid (Own .i64 3 B2 wr (.slice (some ⟨h, 0, none⟩) K cap) (natL (st2 s K F (i + 2)).2)) := by rw [HS1.out]; exact O2.out
            clear hsp
            go_wp2
            go_roundw
            case rel => exact ⟨i + 1, by omega, by go_num, R1, R2, HE⟩
            case measure => simp [intOf] <;> omega
          · rw [hsp] at c2
            rw [HP.out, stepB_yes hsp] at HS1
            obtain ⟨k1, k2⟩ := HO.out p HP.out hsp
            have C := hide' (layNext_any B1 B2 g h n K cap p _ s (st2 s K F (i + 1)) wr (HV.out.ext HE.out) O1.out O2.out (by omega) HQ1.out HQ2.out HN.out hpn k1 (HFT.out.num p (by rw [HN.out]; exact hpn)) k2 hn9)
            rw [← HS1.out] at C
            clear hsp k1 k2 O1 O2
            go_wp2_with fail
            refine C.out.mono ?_
            rintro e w3 ⟨rfl, ho1, ho2, hex⟩
            have R1 := hide' ho1
            have R2 := hide' ho2
            have RE := hide' (hex w0 HE.out hg0 (by omega))
            clear ho1 ho2 hex C
            go_wp2
            go_roundw
            case rel => exact ⟨i + 1, by omega, by go_num, R1, R2, RE⟩
            case measure => simp [intOf] <;> omega
      · have hlt' : decide ((i : Int) < n) = false := by simp; omega
        have hin : i = n := by omega
        subst hin
        go_wp2
        first | go_end0 | (simp only [Exit.inBlock, Exit.then]; refine bodyPost_ret (results_none rfl _ _ _) rfl ?_) | refine bodyPost_ret (results_none rfl _ _ _) rfl ?_
        exact ⟨rfl, O1.out, HE.out⟩
end Go.Proofs.Ytokmlklcjipkiaa

/- Contract of induce.laySmall. -/
namespace Go.Proofs.Ytokmlklcjipkiaa
set_option linter.unusedVariables false
set_option linter.unusedSimpArgs false
open Go.RowKit

theorem st3_ok {s : List Int} {K : Nat} {F : List Nat} (f : Fits s K) (hF : Firsts s F) {i : Nat} (hi : i < s.length) : (st3 s K F i).1.length = s.length ∧ (st3 s K F i).2.length = K ∧ -1 ≤ (st3 s K F i).1.getD (s.length - 1 - i) 0 ∧ (st3 s K F i).1.getD (s.length - 1 - i) 0 < s.length ∧
    ∀ p : Nat, (st3 s K F i).1.getD (s.length - 1 - i) 0 = ((p + 1 : Nat) : Int) → smB s p = true → keyN s p < K ∧ 1 ≤ (st3 s K F i).2.getD (keyN s p) 0 ∧ (st3 s K F i).2.getD (keyN s p) 0 ≤ s.length := by
  obtain ⟨P, h⟩ := st2_all f hF (by omega) s.length (Nat.le_refl _)
  obtain ⟨Q, h'⟩ := st3_all f hF h i (by omega)
  have b := based3 f h.scan.nodup h.scan.kind
  obtain ⟨v1, v2⟩ := h'.val b (x := s.length - 1 - i) (by omega)
  refine ⟨h'.fin.rl, h'.fin.pl, v1, v2, fun p hp hT => ?_⟩
  obtain ⟨_, g2, g3, g4, _⟩ := h'.ok f b hi hp hT
  exact ⟨g2, g3, g4⟩

set_option maxHeartbeats 1000000 in
theorem laySmall_any (B1 B2 g K : Nat) (sv bv ev : Value) (s : List Int) (F : List Nat) (w0 w : World) (f : Fits s K) (hF : Firsts s F) (hs : Sl .i64 w0 sv s) (hb : SlB w0 bv (smallI s)) (he : Ext w0 w)
    (h1 : Own .i64 3 B1 w (.slice (some ⟨g, 0, none⟩) s.length s.length) (st3 s K F 0).1) (h2 : Own .i64 3 B2 w ev (natL (st3 s K F 0).2)) (hg0 : w0.heap.size ≤ g) (hgB : g < B2) (hn9 : s.length ≤ 1000000) :
    Calls Try.prog 42 #[.slice (some ⟨g, 0, none⟩) s.length s.length, sv, bv, ev] w fun e w' => e = .returned (.tuple #[]) ∧ Own .i64 3 B1 w' (.slice (some ⟨g, 0, none⟩) s.length s.length) (indI s K F) ∧ Ext w0 w' := by
  have HV := hide' hs
  have HB := hide' hb
  have HE0 := hide' he
  have O1 := hide' h1
  have O2 := hide' h2
  obtain ⟨a0, c0, rfl, _⟩ := hs
  obtain ⟨a, c, rfl, _⟩ := hb
  obtain ⟨_, _, _, hcv⟩ := HB.out.truth
  have CV := hide' hcv
  have HFT := hide' f
  have HOK : Hid (∀ i, i < s.length → (st3 s K F i).1.length = s.length ∧ (st3 s K F i).2.length = K ∧ -1 ≤ (st3 s K F i).1.getD (s.length - 1 - i) 0 ∧ (st3 s K F i).1.getD (s.length - 1 - i) 0 < s.length ∧
    ∀ p : Nat, (st3 s K F i).1.getD (s.length - 1 - i) 0 = ((p + 1 : Nat) : Int) → smB s p = true → keyN s p < K ∧ 1 ≤ (st3 s K F i).2.getD (keyN s p) 0 ∧ (st3 s K F i).2.getD (keyN s p) 0 ≤ s.length) := fun i hi => st3_ok f hF hi
  have HST : Hid (∀ i, st3 s K F (i + 1) = stepE s (st3 s K F i) ((st3 s K F i).1.getD (s.length - 1 - i) 0)) := fun i => rfl
  have HLB : Hid ((smallI s).length = s.length) := smallI_len s
  have HSM : Hid (∀ i, i < s.length → (smallI s).getD i false = smB s i) := fun i hi => smallI_at hi
  have HIN : Hid (indI s K F = (st3 s K F s.length).1) := rfl
  rw [HLB.out] at CV HB ⊢
  obtain ⟨n, HN⟩ : ∃ n, Hid (s.length = n) := ⟨_, rfl⟩
  rw [HIN.out]
  rw [HN.out] at CV HB HOK HST HSM O1 hn9 HV ⊢
  clear hcv h1 h2 he hF f HLB HIN
  have hw1 : IntKind.i64.wrap ((n : Int) - 1) = (n : Int) - 1 := by rw [IntKind.wrap_i64]; omega
  go_enter Try.func42, Try.ntmps42
  go_wp2
  go_loopw [8] (fun vi wr => ∃ (m : Nat) (x : Int), m ≤ n ∧ vi = .int .i64 x ∧ Hid (x = (n : Int) - 1 - m) ∧ Hid (Own .i64 3 B1 wr (.slice (some ⟨g, 0, none⟩) n n) (st3 s K F m).1) ∧
    Hid (Own .i64 3 B2 wr ev (natL (st3 s K F m).2)) ∧ Hid (Ext w0 wr)) (fun vi _ => (intOf vi + 1).toNat)
  case atStart => exact ⟨0, (n : Int) - 1, Nat.zero_le _, by first | rfl | rw [hw1], (show _ = _ by simp), O1, O2, HE0⟩
  case round =>
    clear O1 O2 HE0
    obtain ⟨m, x, hm, rfl, HX, O1, O2, HE⟩ := hrel
    by_cases hlt : m < n
    · obtain ⟨i, HI⟩ : ∃ i, Hid (n - 1 - m = i) := ⟨_, rfl⟩
      have hxi : x = (i : Int) := by have := HX.out; have := HI.out; omega
      subst hxi
      have hiL : i < n := by have := HI.out; omega
      have hiL' : (i : Int) < n := by omega
      have hi0 : (0 : Int) ≤ i := by omega
      obtain ⟨q1, q2, v1, v2, hok⟩ := HOK.out m hlt
      have HS1 := hide' (HST.out m)
      have HO := hide' hok
      have HQ1 := hide' q1
      have HQ2 := hide' q2
      have c1 := O1.out.cell q1 i hiL
      rw [HI.out] at v1 v2 HO HS1
      clear hok q1 q2
      obtain ⟨j, HJ⟩ : ∃ j, Hid ((st3 s K F m).1.getD i 0 = j) := ⟨_, rfl⟩
      rw [HJ.out] at c1 v1 v2 HS1 HO
      have hi1 : IntKind.i64.wrap ((i : Int) - 1) = (i : Int) - 1 := by rw [IntKind.wrap_i64]; omega
      by_cases h0 : j ≤ 0
      · have d1 : decide (0 < j) = false := by simp; omega
        rw [stepE_no h0] at HS1
        have R1 : Hid (Own .i64 3 B1 wr (.slice (some ⟨g, 0, none⟩) n n) (st3 s K F (m + 1)).1) := by rw [HS1.out]; exact O1.out
        have R2 : Hid (Own .i64 3 B2 wr ev (natL (st3 s K F (m + 1)).2)) := by rw [HS1.out]; exact O2.out
        clear h0 v1 v2
        go_wp2
        go_roundw
        case rel => exact ⟨m + 1, (i : Int) - 1, by omega, by first | rfl | rw [hi1], (show _ = _ by have := HX.out; omega), R1, R2, HE⟩
        case measure => simp [intOf] <;> omega
      · obtain ⟨p, HP⟩ : ∃ p : Nat, Hid (j = ((p + 1 : Nat) : Int)) := ⟨(j - 1).toNat, by show _ = _; omega⟩
        have hj0 : 0 < j := by omega
        have hjp : j - 1 = (p : Int) := by have := HP.out; omega
        have hpn : p < n := by have := HP.out; omega
        have hpn' : (p : Int) < n := by omega
        obtain ⟨g1, o1, rfl, k1⟩ := CV.out (by omega)
        have c2 := HE.out.cellOf (k1 p hpn)
        rw [HSM.out p hpn] at c2
        clear k1 v1 v2 h0
        cases hsp : smB s p
        · rw [hsp] at c2
          rw [HP.out, stepE_large hsp] at HS1
          have R1 : Hid (Own .i64 3 B1 wr (.slice (some ⟨g, 0, none⟩) n n) (st3 s K F (m + 1)).1) := by rw [HS1.out]; exact O1.out
          have R2 : Hid (Own .i64 3 B2 wr ev (natL (st3 s K F (m + 1)).2)) := by rw [HS1.out]; exact O2.out
          clear hsp
          go_wp2
          go_roundw
          case rel => exact ⟨m + 1, (i : Int) - 1, by omega, by first | rfl | rw [hi1], (show _ = _ by have := HX.out; omega), R1, R2, HE⟩
          case measure => simp [intOf] <;> omega
        · rw [hsp] at c2
          rw [HP.out, stepE_yes hsp] at HS1
          obtain ⟨k1, k2, k3⟩ := HO.out p HP.out hsp
          obtain ⟨h, cap, hev, hh, hcap⟩ := O2.out.shape (fun e => by
            have : (natL (st3 s K F m).2).length = 0 := by rw [e]; rfl
            rw [natL_len, HQ2.out] at this
            omega)
          rw [natL_len, HQ2.out] at hev
          subst hev
          have C := hide' (layLast_any B1 B2 g h n K cap p _ s (st3 s K F m) wr (HV.out.ext HE.out) O1.out O2.out (by omega) HQ1.out HQ2.out HN.out hpn k1 (HFT.out.num p (by rw [HN.out]; exact hpn)) k2 k3 hn9)
          rw [← HS1.out] at C
          clear hsp k1 k2 k3 O1 O2 hcap
          go_wp2_with fail
          refine C.out.mono ?_
          rintro e w3 ⟨rfl, ho1, ho2, hex⟩
          have R1 := hide' ho1
          have R2 := hide' ho2
          have RE := hide' (hex w0 HE.out hg0 (by omega))
          clear ho1 ho2 hex C
          go_wp2
          go_roundw
          case rel => exact ⟨m + 1, (i : Int) - 1, by omega, by first | rfl | rw [hi1], (show _ = _ by have := HX.out; omega), R1, R2, RE⟩
          case measure => simp [intOf] <;> omega
    · have hm2 : m = n := by omega
      subst hm2
      have hx : x = -1 := by have := HX.out; omega
      subst hx
      go_wp2
      first | go_end0 | (simp only [Exit.inBlock, Exit.then]; refine bodyPost_ret (results_none rfl _ _ _) rfl ?_) | refine bodyPost_ret (results_none rfl _ _ _) rfl ?_
      exact ⟨rfl, O1.out, HE.out⟩
end Go.Proofs.Ytokmlklcjipkiaa
