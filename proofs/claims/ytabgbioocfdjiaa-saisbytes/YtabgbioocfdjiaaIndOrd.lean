/- A scan that keeps an order; a scan from the other end. Plain numbers, no conditions. -/
import Derived.Test.YtabgbioocfdjiaaIndMath
namespace Go.Proofs.Ytabgbioocfdjiaa
set_option linter.unusedVariables false
set_option linter.unusedSimpArgs false

/-- An order that a scan keeps. -/
structure Ordered (n : Nat) (key : Nat → Nat) (T : Nat → Bool) (base P0 : List Nat) (lt : Nat → Nat → Prop) : Prop where
  o1 : ∀ a b, a < n → b < n → key a < key b → lt a b
  o2 : ∀ a b, a < n → b < n → key a = key b → T a = true → T b = false → lt a b
  o3 : ∀ a b, a + 1 < n → b + 1 < n → T a = true → T b = true → key a = key b → lt (a + 1) (b + 1) → lt a b
  o4 : ∀ a b, a ∈ P0 → b + 1 < n → T b = true → key a = key b → lt a b
  old : ∀ q, (pick base key q).Pairwise lt

theorem Scan.slots {n K : Nat} {key : Nat → Nat} {T : Nat → Bool} {base P0 P : List Nat} {i : Nat} {r : Nat → Int} {lt : Nat → Nat → Prop} (h : Scan n key T base P0 i P r) (b : Based n K key T base P0) (o : Ordered n key T base P0 lt) (hs : ∀ q, (pick P key q).Pairwise lt)
    {x y a c : Nat} (hxy : x < y) (hy : y < n) (ex : r x = (a : Int)) (ey : r y = (c : Int)) : lt a c := by
  have hrev : ∀ {q u}, u < (pick base key q).length → (pick base key q).reverse.getD u 0 ∈ base ∧ key ((pick base key q).reverse.getD u 0) = q := fun {q u} hu => by
    have := getN_mem (l := (pick base key q).reverse) (i := u) (by rw [List.length_reverse]; exact hu)
    rw [List.mem_reverse] at this
    exact pick_mem.1 this
  obtain ⟨q, t, _, ht, e1, h1⟩ := h.lay.cases b.hK (show x < n by omega)
  obtain ⟨q', t', _, ht', e2, h2⟩ := h.lay.cases b.hK hy
  rw [ex] at h1
  rw [ey] at h2
  have ka : key a = q ∧ a < n := by
    rcases h1 with ⟨a1, a2⟩ | ⟨a1, _, a2⟩ | a1
    · have := pick_get a1
      rw [show (pick P key q).getD t 0 = a by omega] at this
      exact ⟨this.2, (h.kind _ this.1).1⟩
    · have := hrev a1
      rw [show (pick base key q).reverse.getD (cntK n key q - 1 - t) 0 = a by omega] at this
      exact ⟨this.2, (b.kind _ this.1).1⟩
    · omega
  have kc : key c = q' ∧ c < n := by
    rcases h2 with ⟨a1, a2⟩ | ⟨a1, _, a2⟩ | a1
    · have := pick_get a1
      rw [show (pick P key q').getD t' 0 = c by omega] at this
      exact ⟨this.2, (h.kind _ this.1).1⟩
    · have := hrev a1
      rw [show (pick base key q').reverse.getD (cntK n key q' - 1 - t') 0 = c by omega] at this
      exact ⟨this.2, (b.kind _ this.1).1⟩
    · omega
  rcases Nat.lt_trichotomy q q' with hq | hq | hq
  · exact o.o1 a c ka.2 kc.2 (by omega)
  · subst hq
    rcases h1 with ⟨a1, a2⟩ | ⟨a1, a3, a2⟩ | a1
    · have m1 := pick_get a1
      have e3 : (pick P key q).getD t 0 = a := by omega
      rw [e3] at m1
      rcases h2 with ⟨b1, b2⟩ | ⟨b1, _, b2⟩ | b1
      · have := pairN_at (hs q) (show t < t' by omega) b1
        rw [e3, show (pick P key q).getD t' 0 = c by omega] at this
        exact this
      · have m2 := hrev b1
        rw [show (pick base key q).reverse.getD (cntK n key q - 1 - t') 0 = c by omega] at m2
        exact o.o2 a c ka.2 kc.2 (by omega) (h.kind _ m1.1).2 (b.kind _ m2.1).2
      · omega
    · rcases h2 with ⟨b1, b2⟩ | ⟨b1, _, b2⟩ | b1
      · omega
      · rw [rev_get _ a1] at a2
        rw [rev_get _ b1] at b2
        have := pairN_at (o.old q) (i := (pick base key q).length - 1 - (cntK n key q - 1 - t)) (j := (pick base key q).length - 1 - (cntK n key q - 1 - t')) (by omega) (by omega)
        rw [show (pick base key q).getD ((pick base key q).length - 1 - (cntK n key q - 1 - t)) 0 = a by omega, show (pick base key q).getD ((pick base key q).length - 1 - (cntK n key q - 1 - t')) 0 = c by omega] at this
        exact this
      · omega
    · omega
  · have := offK_mono n key (show q' + 1 ≤ q from hq)
    rw [offK_succ] at this
    omega

/-- One more keeps the order. -/
theorem Scan.sorted {n K : Nat} {key : Nat → Nat} {T : Nat → Bool} {base P0 P : List Nat} {i p : Nat} {r : Nat → Int} {lt : Nat → Nat → Prop} (h : Scan n key T base P0 i P r) (b : Based n K key T base P0) (o : Ordered n key T base P0 lt) (hs : ∀ q, (pick P key q).Pairwise lt)
    (hi : i < n) (hr : r i = ((p + 1 : Nat) : Int)) (hT : T p = true) : ∀ q, (pick (P ++ [p]) key q).Pairwise lt := by
  intro q
  obtain ⟨g1, _⟩ := h.room b hi hr hT
  by_cases e : key p = q
  · subst e
    rw [pick_snoc_same rfl, List.pairwise_append]
    refine ⟨hs _, List.pairwise_singleton _ _, fun a ha c hc => ?_⟩
    simp only [List.mem_singleton] at hc
    subst hc
    obtain ⟨h1, h2⟩ := pick_mem.1 ha
    rcases h.src a h1 with h3 | ⟨x, h3, h4⟩
    · exact o.o4 a c h3 g1 hT h2
    · have h5 := h.slots b o hs h3 hi h4 hr
      have h6 : a + 1 < n := by
        rcases h.val b (show x < n by omega) with h7 | ⟨p', h7, h8⟩
        · omega
        · omega
      exact o.o3 a c h6 g1 (h.kind a h1).2 hT h2 h5
  · rw [pick_snoc_other e]
    exact hs q

/-- The keys the other way round. -/
def keyM (K : Nat) (key : Nat → Nat) (p : Nat) : Nat := K - 1 - key p
theorem pick_mirror {K n : Nat} {key : Nat → Nat} (hK : ∀ p, p < n → key p < K) {P : List Nat} (hP : ∀ p ∈ P, p < n) {q : Nat} (hq : q < K) : pick P (keyM K key) (K - 1 - q) = pick P key q := by
  unfold pick keyM
  refine List.filter_congr fun p hp => ?_
  have := hK p (hP p hp)
  rw [Bool.eq_iff_iff]
  simp only [beq_iff_eq]
  omega
theorem pick_mirror_of {K n : Nat} {key : Nat → Nat} (hK : ∀ p, p < n → key p < K) {P : List Nat} (hP : ∀ p ∈ P, p < n) {q : Nat} (h : 0 < (pick P (keyM K key) q).length) : ∃ q', q' < K ∧ q = K - 1 - q' := by
  have := pick_get h
  have h2 := hK _ (hP _ this.1)
  exact ⟨_, h2, this.2.symm⟩
theorem cntK_mirror {K n : Nat} {key : Nat → Nat} (hK : ∀ p, p < n → key p < K) {q : Nat} (hq : q < K) : cntK n (keyM K key) (K - 1 - q) = cntK n key q := by
  unfold cntK
  rw [pick_mirror hK (fun p hp => List.mem_range.1 hp) hq]
theorem offK_count (n : Nat) (key : Nat → Nat) (q : Nat) : offK n key q = ((List.range n).filter fun p => decide (key p < q)).length := (csort_perm_lt (List.range n) key q).length_eq
theorem offK_mirror {K n : Nat} {key : Nat → Nat} (hK : ∀ p, p < n → key p < K) {q : Nat} (hq : q ≤ K) : offK n (keyM K key) (K - q) + offK n key q = n := by
  rw [offK_count, offK_count]
  have h := (List.filter_append_perm (fun p => decide (key p < q)) (List.range n)).length_eq
  rw [List.length_append, List.length_range] at h
  have e : ((List.range n).filter fun p => decide (keyM K key p < K - q)) = (List.range n).filter fun p => !decide (key p < q) := by
    refine List.filter_congr fun p hp => ?_
    have := hK p (List.mem_range.1 hp)
    unfold keyM
    rw [Bool.eq_iff_iff]
    simp only [Bool.not_eq_true', decide_eq_true_eq, decide_eq_false_iff_not]
    omega
  rw [e]
  omega
theorem keyM_lt {K n : Nat} {key : Nat → Nat} (hK : ∀ p, p < n → key p < K) : ∀ p, p < n → keyM K key p < K := fun p hp => by
  have := hK p hp
  unfold keyM
  omega

/-- The same, from the other end. -/
theorem Lay.mirror {n K : Nat} {key : Nat → Nat} {base P : List Nat} {r r' : Nat → Int} (h : Lay n key base P r) (hK : ∀ p, p < n → key p < K) (hPn : ∀ p ∈ P, p < n) (hBn : ∀ p ∈ base, p < n) (hc : ∀ q, (pick P key q).length + (pick base key q).length ≤ cntK n key q)
    (hr : ∀ x, x < n → r' x = r (n - 1 - x)) : Lay n (keyM K key) P.reverse base.reverse r' := by
  have hPr : ∀ p ∈ P.reverse, p < n := fun p hp => hPn p (List.mem_reverse.1 hp)
  have hBr : ∀ p ∈ base.reverse, p < n := fun p hp => hBn p (List.mem_reverse.1 hp)
  refine ⟨fun q' t ht => ?_, fun q' u hu => ?_, fun q' t ht ht1 ht2 => ?_⟩
  · obtain ⟨q, hq, rfl⟩ := pick_mirror_of hK hBr (show 0 < (pick base.reverse (keyM K key) q').length by omega)
    rw [pick_mirror hK hBr hq, pick_rev] at ht ⊢
    rw [List.length_reverse] at ht
    have h1 := offK_mirror hK (show q + 1 ≤ K from hq)
    rw [show K - (q + 1) = K - 1 - q by omega] at h1
    have h2 := hc q
    have h3 := offK_succ n key q
    rw [hr _ (by omega), ← h.old q t ht]
    congr 1
    omega
  · obtain ⟨q, hq, rfl⟩ := pick_mirror_of hK hPr (show 0 < (pick P.reverse (keyM K key) q').length by omega)
    rw [pick_mirror hK hPr hq, pick_rev] at hu ⊢
    rw [List.length_reverse] at hu
    rw [List.reverse_reverse]
    have h1 := offK_mirror hK (show q ≤ K by omega)
    have h2 := hc q
    have h4 := offK_lt hK hq (show u < cntK n key q by omega)
    rw [show K - 1 - q + 1 = K - q by omega, hr _ (by omega), ← h.put q u hu]
    congr 1
    omega
  · obtain ⟨q, hq, rfl⟩ := pick_mirror_of hK (fun p hp => List.mem_range.1 hp) (show 0 < (pick (List.range n) (keyM K key) q').length by unfold cntK at ht; omega)
    rw [cntK_mirror hK hq] at ht ht2
    rw [pick_mirror hK hBr hq, pick_rev, List.length_reverse] at ht1
    rw [pick_mirror hK hPr hq, pick_rev, List.length_reverse] at ht2
    have h1 := offK_mirror hK (show q + 1 ≤ K from hq)
    rw [show K - (q + 1) = K - 1 - q by omega] at h1
    have h3 := offK_succ n key q
    have h4 := offK_lt hK hq ht
    rw [hr _ (by omega), ← h.none q (cntK n key q - 1 - t) (by omega) (by omega) (by omega)]
    congr 1
    omega
/-- All in, key by key. -/
theorem Lay.full {n K : Nat} {key : Nat → Nat} {base P : List Nat} {r : Nat → Int} (h : Lay n key base P r) (hK : ∀ p, p < n → key p < K) (hp : (P ++ base).Perm (List.range n)) {row : List Int} (hl : row.length = n) (hr : ∀ x, x < n → row.getD x 0 = r x) : row = natL (csort K (P ++ base) key) := by
  have hlen : (csort K (P ++ base) key).length = n := by
    have := (csort_perm (K := K) (ps := P ++ base) (key := key) fun p hq => hK p (List.mem_range.1 (hp.mem_iff.1 hq))).length_eq
    rw [this, hp.length_eq, List.length_range]
  have hcnt : ∀ q, cntK n key q = (pick P key q).length + (pick base key q).length := fun q => by
    rw [← List.length_append, ← pick_app]
    exact ((hp.filter _).length_eq).symm
  have hoff : ∀ q, offs (P ++ base) key q = offK n key q := fun q => by
    rw [offK_count]
    unfold offs
    rw [(csort_perm_lt (P ++ base) key q).length_eq]
    exact (hp.filter _).length_eq
  refine getD_ext (by rw [hl, natL_len, hlen]) fun x hx => ?_
  rw [hl] at hx
  obtain ⟨q, t, h1, h2, h3, h4⟩ := h.cases hK hx
  rw [hr x hx, natL_at, h3, ← hoff, csort_at (P ++ base) key h1 (by rw [pick_app, List.length_append]; have := hcnt q; omega), hoff, ← h3, pick_app]
  have hc := hcnt q
  rcases h4 with ⟨a1, a2⟩ | ⟨a1, a3, a2⟩ | a1
  · rw [a2]
    simp only [List.getD_eq_getElem?_getD]
    rw [List.getElem?_append_left a1]
  · rw [a2, rev_get _ a1]
    simp only [List.getD_eq_getElem?_getD]
    rw [List.getElem?_append_right a3]
    congr 3
    omega
  · exfalso
    by_cases hP : t < (pick P key q).length
    · have := h.put q t hP
      rw [← h3, a1] at this
      omega
    · have := h.old q (cntK n key q - 1 - t) (by omega)
      rw [offK_succ, show offK n key q + cntK n key q - 1 - (cntK n key q - 1 - t) = x by omega, a1] at this
      omega
end Go.Proofs.Ytabgbioocfdjiaa
