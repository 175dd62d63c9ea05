/- The three steps of induced sorting, as rows. Plain numbers, no conditions. -/
import Derived.Test.YtabgbioocfdjiaaIndOrd
namespace Go.Proofs.Ytabgbioocfdjiaa
set_option linter.unusedVariables false
set_option linter.unusedSimpArgs false

/-- A place goes to the beginning, or to the end, of what its key's row has left. -/
def putB (s : List Int) (st : List Int × List Nat) (p : Nat) : List Int × List Nat := (st.1.set (st.2.getD (keyN s p) 0) (p : Int), st.2.set (keyN s p) (st.2.getD (keyN s p) 0 + 1))
def putE (s : List Int) (st : List Int × List Nat) (p : Nat) : List Int × List Nat := (st.1.set (st.2.getD (keyN s p) 0 - 1) (p : Int), st.2.set (keyN s p) (st.2.getD (keyN s p) 0 - 1))
def begN (s : List Int) (K : Nat) : List Nat := (List.range K).map (offK s.length (keyN s))
def endN (s : List Int) (K : Nat) : List Nat := (List.range K).map fun q => offK s.length (keyN s) (q + 1)
def stepB (s : List Int) (st : List Int × List Nat) (j : Int) : List Int × List Nat := if 0 < j ∧ smB s (j - 1).toNat = false then putB s st (j - 1).toNat else st
def stepE (s : List Int) (st : List Int × List Nat) (j : Int) : List Int × List Nat := if 0 < j ∧ smB s (j - 1).toNat = true then putE s st (j - 1).toNat else st
/-- The first step, m of first. -/
def st1 (s : List Int) (K : Nat) (F : List Nat) : Nat → List Int × List Nat
  | 0 => (List.replicate s.length (-1), endN s K)
  | m + 1 => putE s (st1 s K F m) (F.getD (F.length - 1 - m) 0)
/-- The second step: n first, then i of the row. -/
def st2 (s : List Int) (K : Nat) (F : List Nat) : Nat → List Int × List Nat
  | 0 => ((st1 s K F F.length).1, begN s K)
  | i + 1 => stepB s (st2 s K F i) (if i = 0 then (s.length : Int) else (st2 s K F i).1.getD (i - 1) 0)
def outI (s : List Int) (row : List Int) : List Int := row.map fun j => if 0 ≤ j ∧ smB s j.toNat = true then -1 else j
/-- The third step, m of the row from its end. -/
def st3 (s : List Int) (K : Nat) (F : List Nat) : Nat → List Int × List Nat
  | 0 => (outI s (st2 s K F (s.length + 1)).1, endN s K)
  | m + 1 => stepE s (st3 s K F m) ((st3 s K F m).1.getD (s.length - 1 - m) 0)
def indI (s : List Int) (K : Nat) (F : List Nat) : List Int := (st3 s K F s.length).1

theorem outI_len (s row : List Int) : (outI s row).length = row.length := List.length_map _
theorem outI_at (s row : List Int) {i : Nat} (h : i < row.length) : (outI s row).getD i 0 = if 0 ≤ row.getD i 0 ∧ smB s (row.getD i 0).toNat = true then -1 else row.getD i 0 := by simp [outI, List.getD, h]

/-- The numbers fit their keys. -/
structure Fits (s : List Int) (K : Nat) : Prop where
  lt : ∀ p, p < s.length → keyN s p < K
  num : ∀ p, p < s.length → s.getD p 0 = (keyN s p : Int)
theorem Fits.of {s : List Int} {k : Int} (h : fitB s k = true) : Fits s k.toNat :=
  ⟨fun p hp => keyN_lt h hp, fun p hp => by have := goodI_at (fitB_iff.1 h).2.2 hp; unfold keyN; omega⟩
/-- The first places, in some order. -/
structure Firsts (s : List Int) (F : List Nat) : Prop where
  perm : F.Perm (firstN s)
theorem Firsts.kind {s : List Int} {F : List Nat} (h : Firsts s F) : ∀ p ∈ F, p < s.length ∧ fsB s p = true := fun p hp => firN_mem.1 (h.perm.mem_iff.1 hp)
theorem Firsts.nodup {s : List Int} {F : List Nat} (h : Firsts s F) : F.Nodup := h.perm.nodup_iff.2 ((firN_sorted s s.length).imp fun h => Nat.ne_of_lt h)
theorem fsB_iff {s : List Int} {p : Nat} : fsB s p = true ↔ 1 ≤ p ∧ smB s p = true ∧ smB s (p - 1) = false := by simp [fsB]

theorem revI_at (l : List Int) {x : Nat} (h : x < l.length) : l.reverse.getD x 0 = l.getD (l.length - 1 - x) 0 := by
  simp only [List.getD_eq_getElem?_getD]
  rw [List.getElem?_reverse h]
theorem revI_out (l : List Int) {x : Nat} (h : l.length ≤ x) : l.reverse.getD x 0 = 0 := by
  simp only [List.getD_eq_getElem?_getD]
  rw [List.getElem?_eq_none (by rw [List.length_reverse]; exact h)]
  rfl

/-- A state whose rows are laid from their ends. -/
structure EndS (s : List Int) (K : Nat) (P : List Nat) (st : List Int × List Nat) : Prop where
  rl : st.1.length = s.length
  pl : st.2.length = K
  ptr : ∀ c, c < K → st.2.getD c 0 + (pick P (keyN s) c).length = offK s.length (keyN s) (c + 1)
structure BegS (s : List Int) (K : Nat) (P : List Nat) (st : List Int × List Nat) : Prop where
  rl : st.1.length = s.length
  pl : st.2.length = K
  ptr : ∀ c, c < K → st.2.getD c 0 = offK s.length (keyN s) c + (pick P (keyN s) c).length

theorem EndS.put {s : List Int} {K p : Nat} {P : List Nat} {st : List Int × List Nat} (h : EndS s K P st) (f : Fits s K) (hP : ∀ p ∈ P, p < s.length) (hp : p < s.length) (hc : (pick P (keyN s) (keyN s p)).length < cntK s.length (keyN s) (keyN s p)) :
    EndS s K (P ++ [p]) (putE s st p) ∧ 1 ≤ st.2.getD (keyN s p) 0 ∧ st.2.getD (keyN s p) 0 ≤ s.length ∧
    (putE s st p).1.reverse.getD (offK s.length (keyM K (keyN s)) (keyM K (keyN s) p) + (pick P (keyM K (keyN s)) (keyM K (keyN s) p)).length) 0 = (p : Int) ∧
    ∀ x, x ≠ offK s.length (keyM K (keyN s)) (keyM K (keyN s) p) + (pick P (keyM K (keyN s)) (keyM K (keyN s) p)).length → (putE s st p).1.reverse.getD x 0 = st.1.reverse.getD x 0 := by
  have hk := f.lt p hp
  have h1 := h.ptr _ hk
  have h2 := offK_succ s.length (keyN s) (keyN s p)
  have h3 := offK_mirror f.lt (show keyN s p + 1 ≤ K from hk)
  have e1 : pick P (keyM K (keyN s)) (keyM K (keyN s) p) = pick P (keyN s) (keyN s p) := pick_mirror f.lt hP hk
  have e2 : keyM K (keyN s) p = K - (keyN s p + 1) := by unfold keyM; omega
  rw [e1, e2]
  have hl : (putE s st p).1.length = s.length := by unfold putE; simp only [List.length_set]; exact h.rl
  refine ⟨⟨hl, by unfold putE; simp only [List.length_set]; exact h.pl, fun c hc2 => ?_⟩, by omega, by omega, ?_, fun x hx => ?_⟩
  · unfold putE
    simp only
    by_cases e : keyN s p = c
    · subst e
      rw [set_same (by rw [h.pl]; exact hk), pick_snoc_same rfl, List.length_append, List.length_singleton]
      omega
    · rw [set_other e, pick_snoc_other e]
      exact h.ptr c hc2
  · rw [revI_at _ (by rw [hl]; omega), hl]
    unfold putE
    simp only
    rw [show s.length - 1 - (offK s.length (keyM K (keyN s)) (K - (keyN s p + 1)) + (pick P (keyN s) (keyN s p)).length) = st.2.getD (keyN s p) 0 - 1 by omega, setI_same (by rw [h.rl]; omega)]
  · by_cases hxn : x < s.length
    · rw [revI_at _ (by rw [hl]; exact hxn), revI_at _ (by rw [h.rl]; exact hxn), hl, h.rl]
      unfold putE
      simp only
      rw [setI_other (by omega)]
    · rw [revI_out _ (by rw [hl]; omega), revI_out _ (by rw [h.rl]; omega)]

theorem BegS.put {s : List Int} {K p : Nat} {P : List Nat} {st : List Int × List Nat} (h : BegS s K P st) (f : Fits s K) (hp : p < s.length) (hc : (pick P (keyN s) (keyN s p)).length < cntK s.length (keyN s) (keyN s p)) :
    BegS s K (P ++ [p]) (putB s st p) ∧ st.2.getD (keyN s p) 0 < s.length ∧ (putB s st p).1.getD (offK s.length (keyN s) (keyN s p) + (pick P (keyN s) (keyN s p)).length) 0 = (p : Int) ∧
    ∀ x, x ≠ offK s.length (keyN s) (keyN s p) + (pick P (keyN s) (keyN s p)).length → (putB s st p).1.getD x 0 = st.1.getD x 0 := by
  have hk := f.lt p hp
  have h1 := h.ptr _ hk
  have h2 := offK_lt f.lt hk hc
  refine ⟨⟨by unfold putB; simp only [List.length_set]; exact h.rl, by unfold putB; simp only [List.length_set]; exact h.pl, fun c hc2 => ?_⟩, by omega, ?_, fun x hx => ?_⟩
  · unfold putB
    simp only
    by_cases e : keyN s p = c
    · subst e
      rw [set_same (by rw [h.pl]; exact hk), pick_snoc_same rfl, List.length_append, List.length_singleton]
      omega
    · rw [set_other e, pick_snoc_other e]
      exact h.ptr c hc2
  · unfold putB
    simp only
    rw [← h1, setI_same (by rw [h.rl]; omega)]
  · unfold putB
    simp only
    rw [setI_other (by omega)]

/-- The first step. -/
theorem st1_all {s : List Int} {K : Nat} {F : List Nat} (f : Fits s K) (hF : F.Nodup) (hFn : ∀ p ∈ F, p < s.length) : ∀ m, m ≤ F.length → EndS s K (F.reverse.take m) (st1 s K F m) ∧ Lay s.length (keyM K (keyN s)) [] (F.reverse.take m) (fun x => (st1 s K F m).1.reverse.getD x 0) := by
  have hRn : ∀ m, ∀ p ∈ F.reverse.take m, p < s.length := fun m p hp => hFn p (List.mem_reverse.1 (List.mem_of_mem_take hp))
  have hRd : ∀ m, (F.reverse.take m).Nodup := fun m => List.Pairwise.sublist (List.take_sublist _ _) (List.pairwise_reverse.2 (hF.imp fun h => Ne.symm h))
  intro m
  induction m with
  | zero =>
    intro _
    have hl : (st1 s K F 0).1.length = s.length := by simp [st1]
    refine ⟨⟨hl, by simp [st1, endN], fun c hc => ?_⟩, Lay.empty _ _ (fun x hx => ?_) fun q t ht => ?_⟩
    · simp only [st1, endN, List.take_zero]
      rw [mapI_at _ _ hc]
      simp [pick]
    · rw [revI_at _ (by rw [hl]; exact hx), hl]
      simp only [st1, List.getD_eq_getElem?_getD]
      rw [List.getElem?_replicate, if_pos (by omega)]
      rfl
    · obtain ⟨q', hq', rfl⟩ := pick_mirror_of f.lt (fun p hp => List.mem_range.1 hp) (show 0 < (pick (List.range s.length) (keyM K (keyN s)) q).length by unfold cntK at ht; omega)
      exact offK_lt (K := K) (keyM_lt f.lt) (by omega) ht
  | succ m ih =>
    intro hm
    obtain ⟨h1, h2⟩ := ih (by omega)
    have hlr : m < F.reverse.length := by rw [List.length_reverse]; omega
    have e : F.reverse.take (m + 1) = F.reverse.take m ++ [F.getD (F.length - 1 - m) 0] := by rw [takeN_succ hlr, rev_get _ (by omega)]
    have hp : F.getD (F.length - 1 - m) 0 < s.length := hFn _ (getN_mem (by omega))
    have hc : ∀ q, (pick (F.reverse.take (m + 1)) (keyN s) q).length ≤ cntK s.length (keyN s) q := fun q => by
      have := cnt_sub (key := keyN s) (hRd (m + 1)) List.nodup_nil (hRn (m + 1)) (fun _ h => by cases h) (fun _ _ h => by cases h) q
      omega
    have hcM : ∀ q, (pick (F.reverse.take (m + 1)) (keyM K (keyN s)) q).length ≤ cntK s.length (keyM K (keyN s)) q := fun q => by
      have := cnt_sub (key := keyM K (keyN s)) (hRd (m + 1)) List.nodup_nil (hRn (m + 1)) (fun _ h => by cases h) (fun _ _ h => by cases h) q
      omega
    rw [e] at hc hcM ⊢
    have hcp := hc (keyN s (F.getD (F.length - 1 - m) 0))
    rw [pick_snoc_same rfl, List.length_append, List.length_singleton] at hcp
    obtain ⟨g1, g2, g3, g4, g5⟩ := h1.put f (hRn m) hp (by omega)
    exact ⟨g1, h2.snoc (K := K) (fun q => by simpa [pick] using hcM q) g4 g5⟩

theorem st1_ok {s : List Int} {K : Nat} {F : List Nat} (f : Fits s K) (hF : Firsts s F) {m : Nat} (hm : m < F.length) : (st1 s K F m).1.length = s.length ∧ (st1 s K F m).2.length = K ∧ F.getD (F.length - 1 - m) 0 < s.length ∧ keyN s (F.getD (F.length - 1 - m) 0) < K ∧
    1 ≤ (st1 s K F m).2.getD (keyN s (F.getD (F.length - 1 - m) 0)) 0 ∧ (st1 s K F m).2.getD (keyN s (F.getD (F.length - 1 - m) 0)) 0 ≤ s.length := by
  have hn := hF.nodup
  have hFn : ∀ p ∈ F, p < s.length := fun p hp => (hF.kind p hp).1
  obtain ⟨h1, _⟩ := st1_all f hn hFn m (by omega)
  have hp : F.getD (F.length - 1 - m) 0 < s.length := hFn _ (getN_mem (by omega))
  have hlr : m < F.reverse.length := by rw [List.length_reverse]; omega
  have hc := cnt_sub (key := keyN s) (P := F.reverse.take (m + 1)) (List.Pairwise.sublist (List.take_sublist _ _) (List.pairwise_reverse.2 (hn.imp fun h => Ne.symm h))) List.nodup_nil (fun p hp => hFn p (List.mem_reverse.1 (List.mem_of_mem_take hp))) (fun _ h => by cases h) (fun _ _ h => by cases h) (keyN s (F.getD (F.length - 1 - m) 0))
  rw [takeN_succ hlr, rev_get _ (by omega), pick_snoc_same rfl, List.length_append, List.length_singleton] at hc
  obtain ⟨g1, g2, g3, _⟩ := h1.put f (fun p hp => hFn p (List.mem_reverse.1 (List.mem_of_mem_take hp))) hp (by omega)
  exact ⟨h1.rl, h1.pl, hp, f.lt _ hp, g2, g3⟩

/-- What the second step stands on. -/
def lgB (s : List Int) (p : Nat) : Bool := !smB s p
theorem based2 {s : List Int} {K : Nat} {F : List Nat} (f : Fits s K) (hF : Firsts s F) : Based s.length K (keyN s) (lgB s) F [s.length - 1] := by
  refine ⟨f.lt, hF.nodup, fun p hp => ?_, fun p hp => ?_, fun p hp hT => ?_⟩
  · obtain ⟨h1, h2⟩ := hF.kind p hp
    exact ⟨h1, by unfold lgB; rw [(fsB_iff.1 h2).2.1]; rfl⟩
  · simp only [List.mem_singleton] at hp
    omega
  · unfold lgB at *
    have h1 := f.num p (by omega)
    have h2 := f.num (p + 1) hp
    have hT' : smB s p = false := by simpa using hT
    constructor
    · apply Nat.le_of_not_lt
      intro hlt
      rw [smB_lt hp (by omega)] at hT'
      cases hT'
    · intro e
      rw [← smB_eq hp (by omega), hT']
      rfl
theorem based3 {s : List Int} {K : Nat} {P : List Nat} (f : Fits s K) (hn : P.Nodup) (hk : ∀ p ∈ P, p < s.length ∧ lgB s p = true) : Based s.length K (keyM K (keyN s)) (smB s) P.reverse [] := by
  refine ⟨keyM_lt f.lt, List.pairwise_reverse.2 (hn.imp fun h => Ne.symm h), fun p hp => ?_, (fun p hp => by cases hp), fun p hp hT => ?_⟩
  · obtain ⟨h1, h2⟩ := hk p (List.mem_reverse.1 hp)
    exact ⟨h1, by simpa [lgB] using h2⟩
  · have h1 := f.num p (by omega)
    have h2 := f.num (p + 1) hp
    have h3 := f.lt p (by omega)
    have h4 := f.lt (p + 1) hp
    unfold keyM
    constructor
    · have : keyN s p ≤ keyN s (p + 1) := by
        apply Nat.le_of_not_lt
        intro hlt
        rw [smB_gt hp (by omega)] at hT
        cases hT
      omega
    · intro e
      rw [← smB_eq hp (by omega), hT]

/-- A state of the second step, of the third one. -/
structure Two (s : List Int) (K : Nat) (F : List Nat) (i : Nat) (P : List Nat) (st : List Int × List Nat) : Prop where
  beg : BegS s K P st
  scan : Scan s.length (keyN s) (lgB s) F [s.length - 1] i P (fun x => st.1.getD x 0)
  ord : ∀ lt, Ordered s.length (keyN s) (lgB s) F [s.length - 1] lt → ∀ q, (pick P (keyN s) q).Pairwise lt
structure Three (s : List Int) (K : Nat) (B : List Nat) (i : Nat) (P : List Nat) (st : List Int × List Nat) : Prop where
  fin : EndS s K P st
  scan : Scan s.length (keyM K (keyN s)) (smB s) B [] i P (fun x => st.1.reverse.getD x 0)
  ord : ∀ lt, Ordered s.length (keyM K (keyN s)) (smB s) B [] lt → ∀ q, (pick P (keyM K (keyN s)) q).Pairwise lt

theorem Two.val {s : List Int} {K : Nat} {F P : List Nat} {i x : Nat} {st : List Int × List Nat} (h : Two s K F i P st) (b : Based s.length K (keyN s) (lgB s) F [s.length - 1]) (hx : x < s.length) : -1 ≤ st.1.getD x 0 ∧ st.1.getD x 0 < s.length := by
  rcases h.scan.val b hx with h1 | ⟨p, h1, h2⟩
  · omega
  · omega
theorem Two.ok {s : List Int} {K : Nat} {F P : List Nat} {i : Nat} {st : List Int × List Nat} (h : Two s K F i P st) (f : Fits s K) (b : Based s.length K (keyN s) (lgB s) F [s.length - 1]) (hi : i < s.length) {p : Nat} (hp : st.1.getD i 0 = ((p + 1 : Nat) : Int)) (hT : smB s p = false) :
    p < s.length ∧ keyN s p < K ∧ st.2.getD (keyN s p) 0 < s.length ∧ Two s K F (i + 1) (P ++ [p]) (putB s st p) := by
  have hT' : lgB s p = true := by unfold lgB; rw [hT]; rfl
  obtain ⟨g1, g2, g3, g4, g5⟩ := h.scan.room b hi hp hT'
  have hc := g3 (keyN s p)
  rw [pick_snoc_same rfl, List.length_append, List.length_singleton] at hc
  obtain ⟨k1, k2, k3, k4⟩ := h.beg.put f (show p < s.length by omega) (by omega)
  exact ⟨by omega, f.lt p (by omega), k2, k1, h.scan.next b hi hp hT' k3 k4, fun lt o => h.scan.sorted b o (h.ord lt o) hi hp hT'⟩
theorem Two.next {s : List Int} {K : Nat} {F P : List Nat} {i : Nat} {st : List Int × List Nat} (h : Two s K F i P st) (f : Fits s K) (b : Based s.length K (keyN s) (lgB s) F [s.length - 1]) (hi : i < s.length) : ∃ P', Two s K F (i + 1) P' (stepB s st (st.1.getD i 0)) := by
  unfold stepB
  by_cases hc : 0 < st.1.getD i 0 ∧ smB s (st.1.getD i 0 - 1).toNat = false
  · rw [if_pos hc]
    obtain ⟨p, hp⟩ : ∃ p : Nat, st.1.getD i 0 = ((p + 1 : Nat) : Int) := ⟨(st.1.getD i 0 - 1).toNat, by omega⟩
    have e : (st.1.getD i 0 - 1).toNat = p := by omega
    rw [e] at hc ⊢
    exact ⟨_, (h.ok f b hi hp hc.2).2.2.2⟩
  · rw [if_neg hc]
    refine ⟨P, h.beg, h.scan.skip fun p hp => ?_, h.ord⟩
    cases hs : smB s p
    · exfalso
      apply hc
      rw [hp]
      exact ⟨by omega, by rw [show (((p + 1 : Nat) : Int) - 1).toNat = p by omega]; exact hs⟩
    · unfold lgB; rw [hs]; rfl

theorem Three.val {s : List Int} {K : Nat} {B P : List Nat} {i x : Nat} {st : List Int × List Nat} (h : Three s K B i P st) (b : Based s.length K (keyM K (keyN s)) (smB s) B []) (hx : x < s.length) : -1 ≤ st.1.getD x 0 ∧ st.1.getD x 0 < s.length := by
  have hl := h.fin.rl
  have e : st.1.reverse.getD (s.length - 1 - x) 0 = st.1.getD x 0 := by
    rw [revI_at _ (by omega), hl]
    congr 1
    omega
  rcases h.scan.val b (show s.length - 1 - x < s.length by omega) with h1 | ⟨p, h1, h2⟩
  · omega
  · omega
theorem Three.ok {s : List Int} {K : Nat} {B P : List Nat} {i : Nat} {st : List Int × List Nat} (h : Three s K B i P st) (f : Fits s K) (b : Based s.length K (keyM K (keyN s)) (smB s) B []) (hi : i < s.length) {p : Nat} (hp : st.1.getD (s.length - 1 - i) 0 = ((p + 1 : Nat) : Int)) (hT : smB s p = true) :
    p < s.length ∧ keyN s p < K ∧ 1 ≤ st.2.getD (keyN s p) 0 ∧ st.2.getD (keyN s p) 0 ≤ s.length ∧ Three s K B (i + 1) (P ++ [p]) (putE s st p) := by
  have hl := h.fin.rl
  have hp' : st.1.reverse.getD i 0 = ((p + 1 : Nat) : Int) := by rw [revI_at _ (by omega), hl]; exact hp
  obtain ⟨g1, g2, g3, g4, g5⟩ := h.scan.room b hi hp' hT
  have hk := f.lt p (by omega)
  have hPn : ∀ p ∈ P, p < s.length := fun p hp => (h.scan.kind p hp).1
  have hc := g3 (keyM K (keyN s) p)
  have e1 : pick P (keyM K (keyN s)) (keyM K (keyN s) p) = pick P (keyN s) (keyN s p) := pick_mirror f.lt hPn hk
  have e2 : cntK s.length (keyM K (keyN s)) (keyM K (keyN s) p) = cntK s.length (keyN s) (keyN s p) := cntK_mirror f.lt hk
  rw [pick_snoc_same rfl, List.length_append, List.length_singleton, e1, e2] at hc
  obtain ⟨k1, k2, k3, k4, k5⟩ := h.fin.put f hPn (show p < s.length by omega) (by omega)
  exact ⟨by omega, hk, k2, k3, k1, h.scan.next b hi hp' hT k4 k5, fun lt o => h.scan.sorted b o (h.ord lt o) hi hp' hT⟩
theorem Three.next {s : List Int} {K : Nat} {B P : List Nat} {i : Nat} {st : List Int × List Nat} (h : Three s K B i P st) (f : Fits s K) (b : Based s.length K (keyM K (keyN s)) (smB s) B []) (hi : i < s.length) : ∃ P', Three s K B (i + 1) P' (stepE s st (st.1.getD (s.length - 1 - i) 0)) := by
  have hl := h.fin.rl
  unfold stepE
  by_cases hc : 0 < st.1.getD (s.length - 1 - i) 0 ∧ smB s (st.1.getD (s.length - 1 - i) 0 - 1).toNat = true
  · rw [if_pos hc]
    obtain ⟨p, hp⟩ : ∃ p : Nat, st.1.getD (s.length - 1 - i) 0 = ((p + 1 : Nat) : Int) := ⟨(st.1.getD (s.length - 1 - i) 0 - 1).toNat, by omega⟩
    have e : (st.1.getD (s.length - 1 - i) 0 - 1).toNat = p := by omega
    rw [e] at hc ⊢
    exact ⟨_, (h.ok f b hi hp hc.2).2.2.2.2⟩
  · rw [if_neg hc]
    refine ⟨P, h.fin, h.scan.skip fun p hp => ?_, h.ord⟩
    rw [revI_at _ (by omega), hl] at hp
    cases hs : smB s p
    · rfl
    · exfalso
      apply hc
      rw [hp]
      exact ⟨by omega, by rw [show (((p + 1 : Nat) : Int) - 1).toNat = p by omega]; exact hs⟩
end Go.Proofs.Ytabgbioocfdjiaa
