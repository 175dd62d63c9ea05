/- A scan over rows of one key side by side, which lays places as it goes. Plain numbers, no conditions. -/
import Derived.Test.YtabgbioocfdjiaaKinMath
import Derived.Test.YtabgbioocfdjiaaBktMath
namespace Go.Proofs.Ytabgbioocfdjiaa
set_option linter.unusedVariables false
set_option linter.unusedSimpArgs false

/-- How many of the places have key q; how many have a less one. -/
def cntK (n : Nat) (key : Nat → Nat) (q : Nat) : Nat := (pick (List.range n) key q).length
def offK (n : Nat) (key : Nat → Nat) (q : Nat) : Nat := offs (List.range n) key q
theorem offK_succ (n : Nat) (key : Nat → Nat) (q : Nat) : offK n key (q + 1) = offK n key q + cntK n key q := offs_succ _ _ _
theorem offK_mono (n : Nat) (key : Nat → Nat) {k l : Nat} (h : k ≤ l) : offK n key k ≤ offK n key l := offs_mono _ _ h
theorem offK_all {n K : Nat} {key : Nat → Nat} (hK : ∀ p, p < n → key p < K) : offK n key K = n := by
  have := csort_len (K := K) (ps := List.range n) (key := key) fun p hp => hK p (List.mem_range.1 hp)
  rw [List.length_range] at this
  exact this
theorem offK_lt {n K : Nat} {key : Nat → Nat} (hK : ∀ p, p < n → key p < K) {q t : Nat} (hq : q < K) (ht : t < cntK n key q) : offK n key q + t < n := by
  have h1 := offK_mono n key (show q + 1 ≤ K from hq)
  rw [offK_all hK, offK_succ] at h1
  omega
theorem offK_split {n K : Nat} {key : Nat → Nat} (hK : ∀ p, p < n → key p < K) {x : Nat} (hx : x < n) : ∃ q t, q < K ∧ t < cntK n key q ∧ x = offK n key q + t :=
  csort_split (List.range n) key (K := K) (by have := offK_all hK; unfold offK offs at this; omega)
theorem offK_inj {n : Nat} {key : Nat → Nat} {k l t u : Nat} (ht : t < cntK n key k) (hu : u < cntK n key l) (h : offK n key k + t = offK n key l + u) : k = l ∧ t = u := offs_inj (List.range n) key ht hu h

theorem pick_mem {P : List Nat} {key : Nat → Nat} {q p : Nat} : p ∈ pick P key q ↔ p ∈ P ∧ key p = q := by simp [pick]
theorem pick_get {P : List Nat} {key : Nat → Nat} {q t : Nat} (h : t < (pick P key q).length) : (pick P key q).getD t 0 ∈ P ∧ key ((pick P key q).getD t 0) = q := pick_mem.1 (getN_mem h)
theorem pick_rev (P : List Nat) (key : Nat → Nat) (q : Nat) : pick P.reverse key q = (pick P key q).reverse := by simp [pick]
theorem pick_app (P R : List Nat) (key : Nat → Nat) (q : Nat) : pick (P ++ R) key q = pick P key q ++ pick R key q := by simp [pick]
theorem nodup_getN {l : List Nat} (h : l.Nodup) {i j : Nat} (hi : i < l.length) (hj : j < l.length) (e : l.getD i 0 = l.getD j 0) : i = j := by
  rw [List.getD_eq_getElem?_getD, List.getD_eq_getElem?_getD, List.getElem?_eq_getElem hi, List.getElem?_eq_getElem hj] at e
  exact (List.getElem_inj h).1 e
theorem nodup_sub {l : List Nat} : ∀ {l' : List Nat}, l.Nodup → (∀ x ∈ l, x ∈ l') → l.length ≤ l'.length := by
  induction l with
  | nil => intro l' _ _; exact Nat.zero_le _
  | cons a l ih =>
    intro l' hn hs
    rw [List.nodup_cons] at hn
    have ha := hs a List.mem_cons_self
    have h1 := ih (l' := l'.erase a) hn.2 fun x hx => by
      have hne : x ≠ a := fun e => hn.1 (e ▸ hx)
      exact (List.mem_erase_of_ne hne).2 (hs x (List.mem_cons_of_mem _ hx))
    have h2 := List.length_erase_of_mem ha
    have h3 := List.length_pos_of_mem ha
    simp only [List.length_cons]
    omega
/-- Different places: no more of a key than there are. -/
theorem cnt_sub {n : Nat} {key : Nat → Nat} {P R : List Nat} (hP : P.Nodup) (hR : R.Nodup) (hPn : ∀ p ∈ P, p < n) (hRn : ∀ p ∈ R, p < n) (hd : ∀ p ∈ P, p ∉ R) (q : Nat) : (pick P key q).length + (pick R key q).length ≤ cntK n key q := by
  have h1 : (pick (P ++ R) key q).length ≤ cntK n key q := by
    refine nodup_sub (List.Pairwise.filter _ (List.nodup_append.2 ⟨hP, hR, fun a ha b hb e => hd a ha (e ▸ hb)⟩)) fun x hx => ?_
    obtain ⟨h2, h3⟩ := pick_mem.1 hx
    refine pick_mem.2 ⟨List.mem_range.2 ?_, h3⟩
    rcases List.mem_append.1 h2 with h | h
    · exact hPn x h
    · exact hRn x h
  rw [pick_app, List.length_append] at h1
  exact h1

/-- What stands where: P at the beginnings of the keys' rows, base at their ends, nothing between. -/
structure Lay (n : Nat) (key : Nat → Nat) (base P : List Nat) (r : Nat → Int) : Prop where
  put : ∀ q t, t < (pick P key q).length → r (offK n key q + t) = ((pick P key q).getD t 0 : Nat)
  old : ∀ q u, u < (pick base key q).length → r (offK n key (q + 1) - 1 - u) = ((pick base key q).reverse.getD u 0 : Nat)
  none : ∀ q t, t < cntK n key q → (pick P key q).length ≤ t → t + (pick base key q).length < cntK n key q → r (offK n key q + t) = -1

theorem rev_get (l : List Nat) {u : Nat} (h : u < l.length) : l.reverse.getD u 0 = l.getD (l.length - 1 - u) 0 := by
  simp only [List.getD_eq_getElem?_getD]
  rw [List.getElem?_reverse h]

theorem Lay.cases {n K : Nat} {key : Nat → Nat} {base P : List Nat} {r : Nat → Int} (h : Lay n key base P r) (hK : ∀ p, p < n → key p < K) {x : Nat} (hx : x < n) :
    ∃ q t, q < K ∧ t < cntK n key q ∧ x = offK n key q + t ∧
      ((t < (pick P key q).length ∧ r x = ((pick P key q).getD t 0 : Nat)) ∨
       (cntK n key q - 1 - t < (pick base key q).length ∧ (pick P key q).length ≤ t ∧ r x = ((pick base key q).reverse.getD (cntK n key q - 1 - t) 0 : Nat)) ∨ r x = -1) := by
  obtain ⟨q, t, h1, h2, h3⟩ := offK_split hK hx
  refine ⟨q, t, h1, h2, h3, ?_⟩
  by_cases hP : t < (pick P key q).length
  · exact .inl ⟨hP, by rw [h3]; exact h.put q t hP⟩
  · by_cases hB : cntK n key q - 1 - t < (pick base key q).length
    · refine .inr (.inl ⟨hB, by omega, ?_⟩)
      have := h.old q _ hB
      rw [offK_succ] at this
      rw [← this, h3]
      congr 1
      omega
    · exact .inr (.inr (by rw [h3]; exact h.none q t h2 (by omega) (by omega)))

/-- Where something stands, it is a place of P or of base; no place stands twice. -/
theorem Lay.val {n K : Nat} {key : Nat → Nat} {base P : List Nat} {r : Nat → Int} (h : Lay n key base P r) (hK : ∀ p, p < n → key p < K) {x : Nat} (hx : x < n) : r x = -1 ∨ ∃ p : Nat, r x = (p : Int) ∧ (p ∈ P ∨ p ∈ base) := by
  obtain ⟨q, t, _, _, _, h1 | h1 | h1⟩ := h.cases hK hx
  · exact .inr ⟨_, h1.2, .inl (pick_get h1.1).1⟩
  · refine .inr ⟨_, h1.2.2, .inr ?_⟩
    have := getN_mem (l := (pick base key q).reverse) (by rw [List.length_reverse]; exact h1.1)
    rw [List.mem_reverse] at this
    exact (pick_mem.1 this).1
  · exact .inl h1
theorem Lay.inj {n K : Nat} {key : Nat → Nat} {base P : List Nat} {r : Nat → Int} (h : Lay n key base P r) (hK : ∀ p, p < n → key p < K) (hP : P.Nodup) (hB : base.Nodup) (hd : ∀ p ∈ P, p ∉ base) {x y p : Nat} (hx : x < n) (hy : y < n)
    (ex : r x = (p : Int)) (ey : r y = (p : Int)) : x = y := by
  have hrev : ∀ {q u}, u < (pick base key q).length → (pick base key q).reverse.getD u 0 ∈ base ∧ key ((pick base key q).reverse.getD u 0) = q := fun {q u} hu => by
    have := getN_mem (l := (pick base key q).reverse) (i := u) (by rw [List.length_reverse]; exact hu)
    rw [List.mem_reverse] at this
    exact pick_mem.1 this
  obtain ⟨q, t, _, ht, e1, h1⟩ := h.cases hK hx
  obtain ⟨q', t', _, ht', e2, h2⟩ := h.cases hK hy
  rw [ex] at h1
  rw [ey] at h2
  rcases h1 with ⟨a1, a2⟩ | ⟨a1, _, a2⟩ | a1
  · have m1 := pick_get a1
    rcases h2 with ⟨b1, b2⟩ | ⟨b1, _, b2⟩ | b1
    · have m2 := pick_get b1
      have e : (pick P key q).getD t 0 = (pick P key q').getD t' 0 := by omega
      have eq : q = q' := by rw [← m1.2, ← m2.2, e]
      subst eq
      have := nodup_getN (hP.filter _) a1 b1 e
      omega
    · have m2 := hrev b1
      have e : (pick P key q).getD t 0 = (pick base key q').reverse.getD (cntK n key q' - 1 - t') 0 := by omega
      rw [← e] at m2
      exact absurd m2.1 (hd _ m1.1)
    · omega
  · have m1 := hrev a1
    rcases h2 with ⟨b1, b2⟩ | ⟨b1, _, b2⟩ | b1
    · have m2 := pick_get b1
      have e : (pick P key q').getD t' 0 = (pick base key q).reverse.getD (cntK n key q - 1 - t) 0 := by omega
      rw [← e] at m1
      exact absurd m1.1 (hd _ m2.1)
    · have m2 := hrev b1
      have e : (pick base key q).reverse.getD (cntK n key q - 1 - t) 0 = (pick base key q').reverse.getD (cntK n key q' - 1 - t') 0 := by omega
      have eq : q = q' := by rw [← m1.2, ← m2.2, e]
      subst eq
      have hn : (pick base key q).reverse.Nodup := List.pairwise_reverse.2 ((List.Pairwise.filter _ hB).imp fun h => Ne.symm h)
      have := nodup_getN hn (by rw [List.length_reverse]; exact a1) (by rw [List.length_reverse]; exact b1) e
      omega
    · omega
  · omega

/-- A place of P or of base stands somewhere. -/
theorem Lay.find {n K : Nat} {key : Nat → Nat} {base P : List Nat} {r : Nat → Int} (h : Lay n key base P r) (hK : ∀ p, p < n → key p < K) (hP : P.Nodup) (hB : base.Nodup) (hPn : ∀ p ∈ P, p < n) (hBn : ∀ p ∈ base, p < n) {p : Nat} (hp : p ∈ P ∨ p ∈ base) : ∃ x, x < n ∧ r x = (p : Int) := by
  rcases hp with hp | hp
  · obtain ⟨t, ht, e⟩ := mem_getN (pick_mem.2 ⟨hp, rfl⟩ : p ∈ pick P key (key p))
    have hc := cnt_sub (key := key) hP List.nodup_nil hPn (fun _ h => by cases h) (fun _ _ h => by cases h) (key p)
    have : t < cntK n key (key p) := by omega
    exact ⟨_, offK_lt hK (hK p (hPn p hp)) this, by rw [h.put _ t ht, e]⟩
  · have hm : p ∈ (pick base key (key p)).reverse := List.mem_reverse.2 (pick_mem.2 ⟨hp, rfl⟩)
    obtain ⟨t, ht, e⟩ := mem_getN hm
    rw [List.length_reverse] at ht
    have hc := cnt_sub (key := key) hB List.nodup_nil hBn (fun _ h => by cases h) (fun _ _ h => by cases h) (key p)
    have hlt : cntK n key (key p) - 1 - t < cntK n key (key p) := by omega
    have h1 := offK_lt hK (hK p (hBn p hp)) hlt
    refine ⟨offK n key (key p + 1) - 1 - t, ?_, by rw [h.old _ t ht, e]⟩
    rw [offK_succ]
    omega

/-- One more. -/
theorem Lay.snoc {n K : Nat} {key : Nat → Nat} {base P : List Nat} {r : Nat → Int} (h : Lay n key base P r) {p : Nat} (hc : ∀ q, (pick (P ++ [p]) key q).length + (pick base key q).length ≤ cntK n key q) {r' : Nat → Int}
    (h1 : r' (offK n key (key p) + (pick P key (key p)).length) = (p : Int)) (h2 : ∀ x, x ≠ offK n key (key p) + (pick P key (key p)).length → r' x = r x) : Lay n key base (P ++ [p]) r' := by
  have hp := hc (key p)
  rw [pick_snoc_same rfl, List.length_append, List.length_singleton] at hp
  refine ⟨fun q t ht => ?_, fun q u hu => ?_, fun q t ht ht1 ht2 => ?_⟩
  · by_cases e : key p = q
    · subst e
      rw [pick_snoc_same rfl] at ht ⊢
      rw [List.length_append, List.length_singleton] at ht
      by_cases et : t = (pick P key (key p)).length
      · rw [et, h1]
        simp [List.getD]
      · rw [h2 _ (by omega), h.put _ t (by omega)]
        simp only [List.getD_eq_getElem?_getD]
        rw [List.getElem?_append_left (by omega)]
    · rw [pick_snoc_other e] at ht ⊢
      rw [h2 _ (fun e2 => ?_), h.put q t ht]
      have h3 := hc q
      rw [pick_snoc_other e] at h3
      exact e (offK_inj (by omega) (by omega) e2).1.symm
  · rw [h2 _ (fun e2 => ?_), h.old q u hu]
    have h3 := hc q
    have h4 : (pick P key q).length ≤ (pick (P ++ [p]) key q).length := by rw [pick_app, List.length_append]; omega
    rw [offK_succ] at e2
    have e3 := offK_inj (n := n) (key := key) (k := q) (l := key p) (t := cntK n key q - 1 - u) (u := (pick P key (key p)).length) (by omega) (by omega) (by omega)
    obtain ⟨e4, e5⟩ := e3
    subst e4
    omega
  · have h4 : (pick P key q).length ≤ (pick (P ++ [p]) key q).length := by rw [pick_app, List.length_append]; omega
    rw [h2 _ (fun e2 => ?_), h.none q t ht (by omega) ht2]
    obtain ⟨e4, e5⟩ := offK_inj (n := n) (key := key) ht (by omega) e2
    subst e4
    rw [pick_snoc_same rfl, List.length_append, List.length_singleton] at ht1
    omega

theorem Lay.empty (n : Nat) (key : Nat → Nat) {r : Nat → Int} (h : ∀ x, x < n → r x = -1) (hl : ∀ q t, t < cntK n key q → offK n key q + t < n) : Lay n key [] [] r :=
  ⟨fun q t ht => by simp [pick] at ht, fun q t ht => by simp [pick] at ht, fun q t ht _ _ => h _ (hl q t ht)⟩

/-- What a scan keeps. -/
structure Scan (n : Nat) (key : Nat → Nat) (T : Nat → Bool) (base P0 : List Nat) (i : Nat) (P : List Nat) (r : Nat → Int) : Prop where
  lay : Lay n key base P r
  nodup : P.Nodup
  kind : ∀ p ∈ P, p < n ∧ T p = true
  src : ∀ p ∈ P, p ∈ P0 ∨ ∃ x, x < i ∧ r x = ((p + 1 : Nat) : Int)
  done : ∀ x, x < i → ∀ p : Nat, r x = ((p + 1 : Nat) : Int) → T p = true → p ∈ P
  init : ∀ p ∈ P0, p ∈ P

/-- What a scan stands on. -/
structure Based (n K : Nat) (key : Nat → Nat) (T : Nat → Bool) (base P0 : List Nat) : Prop where
  hK : ∀ p, p < n → key p < K
  nodup : base.Nodup
  kind : ∀ p ∈ base, p < n ∧ T p = false
  last : ∀ p ∈ P0, n ≤ p + 1
  mono : ∀ p, p + 1 < n → T p = true → key (p + 1) ≤ key p ∧ (key (p + 1) = key p → T (p + 1) = true)

theorem Scan.apart {n K : Nat} {key : Nat → Nat} {T : Nat → Bool} {base P0 P : List Nat} {i : Nat} {r : Nat → Int} (h : Scan n key T base P0 i P r) (b : Based n K key T base P0) : ∀ p ∈ P, p ∉ base := fun p h1 h2 => by
  have := (h.kind p h1).2
  rw [(b.kind p h2).2] at this
  cases this

theorem Scan.val {n K : Nat} {key : Nat → Nat} {T : Nat → Bool} {base P0 P : List Nat} {i x : Nat} {r : Nat → Int} (h : Scan n key T base P0 i P r) (b : Based n K key T base P0) (hx : x < n) : r x = -1 ∨ ∃ p : Nat, r x = (p : Int) ∧ p < n := by
  rcases h.lay.val b.hK hx with h1 | ⟨p, h1, h2 | h2⟩
  · exact .inl h1
  · exact .inr ⟨p, h1, (h.kind p h2).1⟩
  · exact .inr ⟨p, h1, (b.kind p h2).1⟩

theorem Scan.skip {n : Nat} {key : Nat → Nat} {T : Nat → Bool} {base P0 P : List Nat} {i : Nat} {r : Nat → Int} (h : Scan n key T base P0 i P r) (hs : ∀ p : Nat, r i = ((p + 1 : Nat) : Int) → T p = false) : Scan n key T base P0 (i + 1) P r := by
  refine ⟨h.lay, h.nodup, h.kind, fun p hp => ?_, fun x hx p hr hT => ?_, h.init⟩
  · rcases h.src p hp with h1 | ⟨x, h1, h2⟩
    · exact .inl h1
    · exact .inr ⟨x, by omega, h2⟩
  · by_cases e : x = i
    · subst e
      rw [hs p hr] at hT
      cases hT
    · exact h.done x (by omega) p hr hT

/-- One that is put: it has room, behind what was read. -/
theorem Scan.room {n K : Nat} {key : Nat → Nat} {T : Nat → Bool} {base P0 P : List Nat} {i p : Nat} {r : Nat → Int} (h : Scan n key T base P0 i P r) (b : Based n K key T base P0) (hi : i < n) (hr : r i = ((p + 1 : Nat) : Int)) (hT : T p = true) :
    p + 1 < n ∧ p ∉ P ∧ (∀ q, (pick (P ++ [p]) key q).length + (pick base key q).length ≤ cntK n key q) ∧ offK n key (key p) + (pick P key (key p)).length < n ∧ i < offK n key (key p) + (pick P key (key p)).length := by
  have hp1 : p + 1 < n := by
    rcases h.val b hi with h1 | ⟨p', h1, h2⟩
    · omega
    · omega
  have hnot : p ∉ P := fun hp => by
    rcases h.src p hp with h1 | ⟨x, h1, h2⟩
    · have := b.last p h1
      omega
    · have := h.lay.inj b.hK h.nodup b.nodup (h.apart b) (show x < n by omega) hi h2 hr
      omega
  have hc : ∀ q, (pick (P ++ [p]) key q).length + (pick base key q).length ≤ cntK n key q := by
    refine fun q => cnt_sub (List.nodup_append.2 ⟨h.nodup, by simp, fun a ha c hc e => ?_⟩) b.nodup (fun a ha => ?_) (fun a ha => (b.kind a ha).1) (fun a ha hb => ?_) q
    · simp only [List.mem_singleton] at hc
      exact hnot (by rw [← hc, ← e]; exact ha)
    · rcases List.mem_append.1 ha with h1 | h1
      · exact (h.kind a h1).1
      · simp only [List.mem_singleton] at h1
        omega
    · rcases List.mem_append.1 ha with h1 | h1
      · exact h.apart b a h1 hb
      · simp only [List.mem_singleton] at h1
        subst h1
        rw [(b.kind a hb).2] at hT
        cases hT
  have hp := hc (key p)
  rw [pick_snoc_same rfl, List.length_append, List.length_singleton] at hp
  refine ⟨hp1, hnot, hc, offK_lt b.hK (b.hK p (by omega)) (by omega), ?_⟩
  obtain ⟨m1, m2⟩ := b.mono p hp1 hT
  obtain ⟨q, t, _, ht, e1, h1⟩ := h.lay.cases b.hK hi
  rw [hr] at h1
  rcases h1 with ⟨a1, a2⟩ | ⟨a1, _, a2⟩ | a1
  · have m3 := (pick_get a1).2
    rw [show (pick P key q).getD t 0 = p + 1 by omega] at m3
    by_cases e : q = key p
    · subst e
      omega
    · have := offK_mono n key (show q + 1 ≤ key p by omega)
      rw [offK_succ] at this
      omega
  · have := getN_mem (l := (pick base key q).reverse) (by rw [List.length_reverse]; exact a1)
    rw [List.mem_reverse, show (pick base key q).reverse.getD (cntK n key q - 1 - t) 0 = p + 1 by omega] at this
    obtain ⟨m3, m4⟩ := pick_mem.1 this
    have e : q ≠ key p := fun e => by
      have := m2 (by omega)
      rw [(b.kind _ m3).2] at this
      cases this
    have := offK_mono n key (show q + 1 ≤ key p by omega)
    rw [offK_succ] at this
    omega
  · omega

theorem Scan.next {n K : Nat} {key : Nat → Nat} {T : Nat → Bool} {base P0 P : List Nat} {i p : Nat} {r r' : Nat → Int} (h : Scan n key T base P0 i P r) (b : Based n K key T base P0) (hi : i < n) (hr : r i = ((p + 1 : Nat) : Int)) (hT : T p = true)
    (h1 : r' (offK n key (key p) + (pick P key (key p)).length) = (p : Int)) (h2 : ∀ x, x ≠ offK n key (key p) + (pick P key (key p)).length → r' x = r x) : Scan n key T base P0 (i + 1) (P ++ [p]) r' := by
  obtain ⟨g1, g2, g3, g4, g5⟩ := h.room b hi hr hT
  refine ⟨h.lay.snoc (K := K) g3 h1 h2, List.nodup_append.2 ⟨h.nodup, by simp, fun a ha c hc e => ?_⟩, fun a ha => ?_, fun a ha => ?_, fun x hx a ha hTa => ?_, fun a ha => List.mem_append_left _ (h.init a ha)⟩
  · simp only [List.mem_singleton] at hc
    exact g2 (by rw [← hc, ← e]; exact ha)
  · rcases List.mem_append.1 ha with h3 | h3
    · exact h.kind a h3
    · simp only [List.mem_singleton] at h3
      subst h3
      exact ⟨by omega, hT⟩
  · rcases List.mem_append.1 ha with h3 | h3
    · rcases h.src a h3 with h4 | ⟨x, h4, h5⟩
      · exact .inl h4
      · exact .inr ⟨x, by omega, by rw [h2 x (by omega)]; exact h5⟩
    · simp only [List.mem_singleton] at h3
      subst h3
      exact .inr ⟨i, by omega, by rw [h2 i (by omega)]; exact hr⟩
  · rw [h2 x (by omega)] at ha
    by_cases e : x = i
    · subst e
      have : a = p := by omega
      subst this
      exact List.mem_append_right _ (List.mem_singleton.2 rfl)
    · exact List.mem_append_left _ (h.done x (by omega) a ha hTa)

/-- At its end it has put all of its kind. -/
theorem Scan.all {n K : Nat} {key : Nat → Nat} {T : Nat → Bool} {base P0 P : List Nat} {r : Nat → Int} (h : Scan n key T base P0 n P r) (b : Based n K key T base P0) (h0 : ∀ p, p < n → T p = true → n ≤ p + 1 → p ∈ P0) (h1 : ∀ p, p + 1 < n → T p = true → T (p + 1) = false → p + 1 ∈ base) :
    ∀ p, p < n → T p = true → p ∈ P := by
  have key1 : ∀ d p, n - p = d → p < n → T p = true → p ∈ P := by
    intro d
    induction d with
    | zero => intro p h2 h3; omega
    | succ d ih =>
      intro p h2 h3 hT
      by_cases hl : n ≤ p + 1
      · exact h.init p (h0 p h3 hT hl)
      · have hin : p + 1 ∈ P ∨ p + 1 ∈ base := by
          cases hT1 : T (p + 1)
          · exact .inr (h1 p (by omega) hT hT1)
          · exact .inl (ih (p + 1) (by omega) (by omega) hT1)
        obtain ⟨x, hx, hr⟩ := h.lay.find b.hK h.nodup b.nodup (fun p hp => (h.kind p hp).1) (fun p hp => (b.kind p hp).1) hin
        exact h.done x hx p hr hT
  exact fun p => key1 _ p rfl
end Go.Proofs.Ytabgbioocfdjiaa
