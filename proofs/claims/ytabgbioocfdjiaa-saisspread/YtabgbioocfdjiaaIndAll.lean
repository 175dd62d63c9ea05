/- Induced sorting as a whole: each place once; in order if the first places are. Plain numbers, no conditions. -/
import Derived.Test.YtabgbioocfdjiaaIndFold
import Derived.Test.YtabgbioocfdjiaaOrdMath
namespace Go.Proofs.Ytabgbioocfdjiaa
set_option linter.unusedVariables false
set_option linter.unusedSimpArgs false

theorem Lay.congr {n : Nat} {k1 k2 : Nat → Nat} {base P : List Nat} {r : Nat → Int} (h : Lay n k1 base P r) (hk : ∀ p, p < n → k1 p = k2 p) (hP : ∀ p ∈ P, p < n) (hB : ∀ p ∈ base, p < n) : Lay n k2 base P r := by
  have e : ∀ {L : List Nat}, (∀ p ∈ L, p < n) → ∀ q, pick L k1 q = pick L k2 q := fun hL q => List.filter_congr fun p hp => by rw [hk p (hL p hp)]
  have eo : ∀ q, offK n k1 q = offK n k2 q := fun q => by
    rw [offK_count, offK_count]
    congr 1
    exact List.filter_congr fun p hp => by rw [hk p (List.mem_range.1 hp)]
  have ec : ∀ q, cntK n k1 q = cntK n k2 q := fun q => by unfold cntK; rw [e fun p hp => List.mem_range.1 hp]
  refine ⟨fun q t ht => ?_, fun q u hu => ?_, fun q t h1 h2 h3 => ?_⟩
  · rw [← eo, ← e hP q]
    rw [← e hP q] at ht
    exact h.put q t ht
  · rw [← eo, ← e hB q]
    rw [← e hB q] at hu
    exact h.old q u hu
  · rw [← eo]
    rw [← ec] at h1 h3
    rw [← e hP q] at h2
    rw [← e hB q] at h3
    exact h.none q t h1 h2 h3
theorem keyM_two {K n : Nat} {key : Nat → Nat} (hK : ∀ p, p < n → key p < K) : ∀ p, p < n → keyM K (keyM K key) p = key p := fun p hp => by
  have := hK p hp
  unfold keyM
  omega

theorem lay1 {s : List Int} {K : Nat} {F : List Nat} (f : Fits s K) (hF : Firsts s F) : (st1 s K F F.length).1.length = s.length ∧ Lay s.length (keyN s) F [] (fun x => (st1 s K F F.length).1.getD x 0) := by
  have hFn : ∀ p ∈ F, p < s.length := fun p hp => (hF.kind p hp).1
  obtain ⟨h1, h2⟩ := st1_all f hF.nodup hFn F.length (Nat.le_refl _)
  have hl := h1.rl
  rw [show F.reverse.take F.length = F.reverse by rw [← List.length_reverse, List.take_length]] at h2
  refine ⟨hl, ?_⟩
  have hc := cnt_sub (key := keyM K (keyN s)) (P := F.reverse) (R := []) (List.pairwise_reverse.2 (hF.nodup.imp fun h => Ne.symm h)) List.nodup_nil (fun p hp => hFn p (List.mem_reverse.1 hp)) (fun _ h => by cases h) (fun _ _ h => by cases h)
  have h3 := h2.mirror (K := K) (r' := fun x => (st1 s K F F.length).1.getD x 0) (keyM_lt f.lt) (fun p hp => hFn p (List.mem_reverse.1 hp)) (fun _ h => by cases h) hc (fun x hx => by
    rw [revI_at _ (by omega), hl]
    congr 1
    omega)
  rw [List.reverse_reverse, List.reverse_nil] at h3
  exact h3.congr (keyM_two f.lt) (fun _ h => by cases h) hFn

theorem st2_one {s : List Int} {K : Nat} {F : List Nat} (hn : 0 < s.length) : st2 s K F 1 = putB s (st2 s K F 0) (s.length - 1) := by
  show stepB s _ (if 0 = 0 then (s.length : Int) else _) = _
  rw [if_pos rfl]
  unfold stepB
  rw [show ((s.length : Int) - 1).toNat = s.length - 1 by omega, if_pos ⟨by omega, smB_last (by omega)⟩]
theorem st2_next {s : List Int} {K : Nat} {F : List Nat} (i : Nat) : st2 s K F (i + 2) = stepB s (st2 s K F (i + 1)) ((st2 s K F (i + 1)).1.getD i 0) := by
  show stepB s _ (if i + 1 = 0 then (s.length : Int) else _) = _
  rw [if_neg (by omega)]
  rfl
theorem st2_begin {s : List Int} {K : Nat} {F : List Nat} (f : Fits s K) (hF : Firsts s F) : BegS s K [] (st2 s K F 0) := by
  refine ⟨(lay1 f hF).1, by simp [st2, begN], fun c hc => ?_⟩
  simp only [st2, begN]
  rw [mapI_at _ _ hc]
  simp [pick]
theorem st2_first {s : List Int} {K : Nat} {F : List Nat} (f : Fits s K) (hF : Firsts s F) (hn : 0 < s.length) : keyN s (s.length - 1) < K ∧ (st2 s K F 0).2.getD (keyN s (s.length - 1)) 0 < s.length ∧ Two s K F 0 [s.length - 1] (st2 s K F 1) := by
  have b := based2 f hF
  have hT : lgB s (s.length - 1) = true := by unfold lgB; rw [smB_last (by omega)]; rfl
  have hc := cnt_sub (key := keyN s) (P := [s.length - 1]) (R := F) (by simp) hF.nodup (fun p hp => by simp only [List.mem_singleton] at hp; omega) (fun p hp => (hF.kind p hp).1) (fun p hp h2 => by
    simp only [List.mem_singleton] at hp
    subst hp
    have := (b.kind _ h2).2
    rw [hT] at this
    cases this)
  have hcp := hc (keyN s (s.length - 1))
  rw [show pick [s.length - 1] (keyN s) (keyN s (s.length - 1)) = pick ([] ++ [s.length - 1]) (keyN s) (keyN s (s.length - 1)) from rfl, pick_snoc_same rfl, List.length_append, List.length_singleton] at hcp
  obtain ⟨k1, k2, k3, k4⟩ := (st2_begin f hF).put f (show s.length - 1 < s.length by omega) (by omega)
  rw [st2_one hn]
  refine ⟨f.lt _ (by omega), k2, k1, ⟨?_, by simp, fun p hp => ?_, fun p hp => .inl hp, (fun x hx => by omega), fun p hp => hp⟩, fun lt o q => ?_⟩
  · exact (lay1 f hF).2.snoc (K := K) hc k3 k4
  · simp only [List.mem_singleton] at hp
    subst hp
    exact ⟨by omega, hT⟩
  · refine List.Pairwise.filter _ (List.pairwise_singleton _ _)
theorem st2_all {s : List Int} {K : Nat} {F : List Nat} (f : Fits s K) (hF : Firsts s F) (hn : 0 < s.length) : ∀ i, i ≤ s.length → ∃ P, Two s K F i P (st2 s K F (i + 1)) := by
  intro i
  induction i with
  | zero => intro _; exact ⟨_, (st2_first f hF hn).2.2⟩
  | succ i ih =>
    intro hi
    obtain ⟨P, h⟩ := ih (by omega)
    rw [st2_next]
    exact h.next f (based2 f hF) (by omega)

theorem perm_of {n : Nat} {P : List Nat} {T : Nat → Bool} (hn : P.Nodup) (hk : ∀ p ∈ P, p < n ∧ T p = true) (ha : ∀ p, p < n → T p = true → p ∈ P) : P.Perm ((List.range n).filter T) :=
  (List.perm_ext_iff_of_nodup hn (List.Pairwise.filter _ List.nodup_range)).2 fun p => by
    rw [List.mem_filter, List.mem_range]
    exact ⟨hk p, fun h => ha p h.1 h.2⟩

/-- Behind the second step all large places stand. -/
theorem two_all {s : List Int} {K : Nat} {F P : List Nat} {st : List Int × List Nat} (f : Fits s K) (hF : Firsts s F) (h : Two s K F s.length P st) : ∀ p, p < s.length → lgB s p = true → p ∈ P :=
  h.scan.all (based2 f hF) (fun p hp _ hl => List.mem_singleton.2 (by omega)) fun p hp hT hT1 => by
    refine hF.perm.mem_iff.2 (firN_mem.2 ⟨hp, fsB_iff.2 ⟨by omega, ?_, ?_⟩⟩)
    · simpa [lgB] using hT1
    · rw [Nat.add_sub_cancel]; simpa [lgB] using hT

/-- The small ones taken out. -/
theorem lay3 {s : List Int} {K : Nat} {F P : List Nat} {st : List Int × List Nat} (f : Fits s K) (hF : Firsts s F) {i : Nat} (h : Two s K F i P st) : Lay s.length (keyN s) [] P (fun x => (outI s st.1).getD x 0) := by
  have b := based2 f hF
  have hl := h.beg.rl
  have hcs := cnt_sub (key := keyN s) h.scan.nodup b.nodup (fun p hp => (h.scan.kind p hp).1) (fun p hp => (b.kind p hp).1) (h.scan.apart b)
  refine ⟨fun q t ht => ?_, (fun q u hu => by simp [pick] at hu), fun q t h1 h2 h3 => ?_⟩
  · have h4 := h.scan.lay.put q t ht
    have hm := pick_get ht
    have hc := hcs q
    have hk := h.scan.kind _ hm.1
    have hx := offK_lt f.lt (show q < K by have := f.lt _ hk.1; omega) (show t < cntK s.length (keyN s) q by omega)
    rw [outI_at _ _ (by omega)]
    rw [h4]
    rw [if_neg]
    intro ⟨_, h5⟩
    rw [Int.toNat_natCast] at h5
    have := hk.2
    unfold lgB at this
    rw [h5] at this
    cases this
  · have hq : q < K := by
      have : 0 < (pick (List.range s.length) (keyN s) q).length := by unfold cntK at h1; omega
      have h4 := pick_get this
      have := f.lt _ (List.mem_range.1 h4.1)
      omega
    have hx := offK_lt f.lt hq h1
    rw [outI_at _ _ (by omega)]
    rcases h.scan.lay.cases b.hK hx with ⟨q', t', g1, g2, g3, g4⟩
    obtain ⟨rfl, rfl⟩ := offK_inj h1 g2 g3
    rcases g4 with ⟨a1, a2⟩ | ⟨a1, a3, a2⟩ | a1
    · omega
    · rw [a2, if_pos]
      refine ⟨by omega, ?_⟩
      have := getN_mem (l := (pick F (keyN s) q).reverse) (by rw [List.length_reverse]; exact a1)
      rw [List.mem_reverse] at this
      have := (b.kind _ (pick_mem.1 this).1).2
      rw [Int.toNat_natCast]
      simpa [lgB] using this
    · rw [a1, if_neg (by omega)]

theorem st3_begin {s : List Int} {K : Nat} {F P : List Nat} (f : Fits s K) (hF : Firsts s F) (h : Two s K F s.length P (st2 s K F (s.length + 1))) : Three s K P.reverse 0 [] (st3 s K F 0) := by
  have hl := h.beg.rl
  have hPn : ∀ p ∈ P, p < s.length := fun p hp => (h.scan.kind p hp).1
  have hol : (st3 s K F 0).1.length = s.length := by simp only [st3]; rw [outI_len, hl]
  have hc := cnt_sub (key := keyN s) (P := P) (R := []) h.scan.nodup List.nodup_nil hPn (fun _ h => by cases h) (fun _ _ h => by cases h)
  have h3 := (lay3 f hF h).mirror (K := K) (r' := fun x => (st3 s K F 0).1.reverse.getD x 0) f.lt hPn (fun _ h => by cases h) hc (fun x hx => by
    rw [revI_at _ (by omega), hol]
    rfl)
  refine ⟨⟨hol, by simp [st3, endN], fun c hc2 => ?_⟩, ⟨h3, List.nodup_nil, (fun p hp => by cases hp), (fun p hp => by cases hp), (fun x hx => by omega), (fun p hp => by cases hp)⟩, fun lt o q => by simp [pick]⟩
  simp only [st3, endN]
  rw [mapI_at _ _ hc2]
  simp [pick]
theorem st3_all {s : List Int} {K : Nat} {F P : List Nat} (f : Fits s K) (hF : Firsts s F) (h : Two s K F s.length P (st2 s K F (s.length + 1))) : ∀ i, i ≤ s.length → ∃ P', Three s K P.reverse i P' (st3 s K F i) := by
  intro i
  induction i with
  | zero => intro _; exact ⟨_, st3_begin f hF h⟩
  | succ i ih =>
    intro hi
    obtain ⟨P', h'⟩ := ih (by omega)
    exact h'.next f (based3 f h.scan.nodup h.scan.kind) (by omega)

/-- Of one number the large endings are less than the small ones. -/
theorem ltE_kinds {s : List Int} : ∀ (d a b : Nat), s.length - a = d → a < s.length → b < s.length → s.getD a 0 = s.getD b 0 → smB s a = false → smB s b = true → ltE s a b := by
  intro d
  induction d with
  | zero => intro a b h1 h2; omega
  | succ d ih =>
    intro a b h1 ha hb he h3 h4
    rw [ltE_same ha hb he]
    have hb1 : b + 1 < s.length := by
      apply Nat.lt_of_not_le
      intro hle
      rw [smB_last hle] at h4
      cases h4
    by_cases ha1 : a + 1 < s.length
    · rw [smB_next ha1] at h3
      rw [smB_next hb1] at h4
      simp only [Bool.or_eq_false_iff, decide_eq_false_iff_not, Bool.and_eq_false_iff] at h3
      simp only [Bool.or_eq_true, decide_eq_true_eq, Bool.and_eq_true] at h4
      by_cases h5 : s.getD (a + 1) 0 < s.getD (b + 1) 0
      · exact ltE_less ha1 hb1 h5
      · have e1 : s.getD a 0 = s.getD (a + 1) 0 := by omega
        have e2 : s.getD b 0 = s.getD (b + 1) 0 := by omega
        refine ih (a + 1) (b + 1) (by omega) ha1 hb1 (by omega) ?_ ?_
        · rcases h3.2 with h6 | h6
          · exact absurd e1 h6
          · exact h6
        · rcases h4 with h6 | h6
          · omega
          · exact h6.2
    · exact ltE_end (by omega) hb1

theorem ord2 {s : List Int} {K : Nat} {F : List Nat} (f : Fits s K) (ho : F.Pairwise (ltE s)) : Ordered s.length (keyN s) (lgB s) F [s.length - 1] (ltE s) := by
  refine ⟨fun a b ha hb h => ?_, fun a b ha hb h h1 h2 => ?_, fun a b ha hb _ _ h h3 => ?_, fun a b ha hb hT h => ?_, fun q => ho.filter _⟩
  · exact ltE_less ha hb (by rw [f.num a ha, f.num b hb]; omega)
  · exact ltE_kinds _ a b rfl ha hb (by rw [f.num a ha, f.num b hb, h]) (by simpa [lgB] using h1) (by simpa [lgB] using h2)
  · exact (ltE_same (by omega) (by omega) (by rw [f.num a (by omega), f.num b (by omega), h])).2 h3
  · simp only [List.mem_singleton] at ha
    subst ha
    exact (ltE_same (by omega) (by omega) (by rw [f.num _ (by omega), f.num b (by omega), h])).2 (ltE_end (by omega) hb)
theorem ord3 {s : List Int} {K : Nat} {P : List Nat} (f : Fits s K) (hP : ∀ p ∈ P, p < s.length) (ho : ∀ q, (pick P (keyN s) q).Pairwise (ltE s)) : Ordered s.length (keyM K (keyN s)) (smB s) P.reverse [] (fun a b => ltE s b a) := by
  refine ⟨fun a b ha hb h => ?_, fun a b ha hb h h1 h2 => ?_, fun a b ha hb _ _ h h3 => ?_, (fun a b ha => by cases ha), fun q => ?_⟩
  · have h1 := f.lt a ha
    have h2 := f.lt b hb
    unfold keyM at h
    exact ltE_less hb ha (by rw [f.num a ha, f.num b hb]; omega)
  · have h3 := f.lt a ha
    have h4 := f.lt b hb
    unfold keyM at h
    exact ltE_kinds _ b a rfl hb ha (by rw [f.num a ha, f.num b hb]; omega) h2 h1
  · have h4 := f.lt a (by omega)
    have h5 := f.lt b (by omega)
    unfold keyM at h
    exact (ltE_same (by omega) (by omega) (by rw [f.num a (by omega), f.num b (by omega)]; omega)).2 h3
  · rw [pick_rev, List.pairwise_reverse]
    by_cases h0 : 0 < (pick P (keyM K (keyN s)) q).length
    · obtain ⟨q', hq, rfl⟩ := pick_mirror_of f.lt hP h0
      rw [pick_mirror f.lt hP hq]
      exact ho q'
    · rw [List.length_eq_zero_iff.1 (show (pick P (keyM K (keyN s)) q).length = 0 by omega)]
      exact List.Pairwise.nil

/-- Induced sorting: each place comes once, number by number, and by whatever relation both steps keep. -/
theorem indI_rel {s : List Int} {K : Nat} {F : List Nat} (f : Fits s K) (hF : Firsts s F) : ∃ R : List Nat, indI s K F = natL R ∧ R.Perm (List.range s.length) ∧ R.Pairwise (fun a b => keyN s a ≤ keyN s b) ∧
    ∀ (r2 r : Nat → Nat → Prop), Ordered s.length (keyN s) (lgB s) F [s.length - 1] r2 → (∀ a b, lgB s a = true → lgB s b = true → r2 a b → r a b) →
      (∀ P : List Nat, (∀ p ∈ P, p < s.length ∧ lgB s p = true) → (∀ q, (pick P (keyN s) q).Pairwise r) → Ordered s.length (keyM K (keyN s)) (smB s) P.reverse [] (fun a b => r b a)) →
      (∀ a b, a < s.length → b < s.length → keyN s a < keyN s b → r a b) → (∀ a b, a < s.length → b < s.length → keyN s a = keyN s b → smB s a = false → smB s b = true → r a b) → R.Pairwise r := by
  by_cases hn : 0 < s.length
  · obtain ⟨P, h⟩ := st2_all f hF hn s.length (Nat.le_refl _)
    obtain ⟨Q, h'⟩ := st3_all f hF h s.length (Nat.le_refl _)
    have hPn : ∀ p ∈ P, p < s.length := fun p hp => (h.scan.kind p hp).1
    have hQn : ∀ p ∈ Q, p < s.length := fun p hp => (h'.scan.kind p hp).1
    have b := based2 f hF
    have b' := based3 f h.scan.nodup h.scan.kind
    have hPa := two_all f hF h
    have hQa : ∀ p, p < s.length → smB s p = true → p ∈ Q := h'.scan.all b' (fun p hp hT hl => by
      rw [smB_last hl] at hT
      cases hT) fun p hp hT hT1 => List.mem_reverse.2 (hPa _ hp (by unfold lgB; rw [hT1]; rfl))
    have hperm : (P ++ Q.reverse).Perm (List.range s.length) := by
      refine (List.perm_ext_iff_of_nodup (List.nodup_append.2 ⟨h.scan.nodup, List.pairwise_reverse.2 (h'.scan.nodup.imp fun h => Ne.symm h), fun a ha c hc e => ?_⟩) List.nodup_range).2 fun p => ?_
      · have h1 := (h.scan.kind a ha).2
        have h2 := (h'.scan.kind c (List.mem_reverse.1 hc)).2
        rw [← e] at h2
        unfold lgB at h1
        rw [h2] at h1
        cases h1
      · rw [List.mem_append, List.mem_reverse, List.mem_range]
        constructor
        · rintro (h1 | h1)
          · exact hPn p h1
          · exact hQn p h1
        · intro hp
          cases hs : smB s p
          · exact .inl (hPa p hp (by unfold lgB; rw [hs]; rfl))
          · exact .inr (hQa p hp hs)
    have hl := h'.fin.rl
    have hc := cnt_sub (key := keyM K (keyN s)) h'.scan.nodup b'.nodup hQn (fun p hp => (b'.kind p hp).1) (h'.scan.apart b')
    have hlay : Lay s.length (keyN s) Q.reverse P (fun x => (indI s K F).getD x 0) := by
      have := h'.scan.lay.mirror (K := K) (r' := fun x => (indI s K F).getD x 0) (keyM_lt f.lt) hQn (fun p hp => (b'.kind p hp).1) hc (fun x hx => by
        rw [revI_at _ (by omega), hl]
        unfold indI
        congr 1
        omega)
      rw [List.reverse_reverse] at this
      exact this.congr (keyM_two f.lt) hPn (fun p hp => hQn p (List.mem_reverse.1 hp))
    have hrow := hlay.full f.lt hperm (row := indI s K F) hl (fun x _ => rfl)
    have hkey : ∀ p ∈ P ++ Q.reverse, keyN s p < K := fun p hp => f.lt p (List.mem_range.1 (hperm.mem_iff.1 hp))
    refine ⟨_, hrow, (csort_perm hkey).trans hperm, ?_, fun r2 r ho2 h23 ho3 x1 x2 => ?_⟩
    · refine (csort_sorted K (keyN s) (Q := fun _ _ => True) (List.pairwise_of_forall fun _ _ => trivial)).imp fun h => ?_
      rcases h with h | h
      · omega
      · omega
    · have o2 : ∀ q, (pick P (keyN s) q).Pairwise r := fun q => (h.ord _ ho2 q).imp_of_mem fun ha hb hr => h23 _ _ (h.scan.kind _ (pick_mem.1 ha).1).2 (h.scan.kind _ (pick_mem.1 hb).1).2 hr
      have o3 := h'.ord _ (ho3 P h.scan.kind o2)
      unfold csort
      rw [List.pairwise_flatMap]
      constructor
      · intro q hq
        have hq := List.mem_range.1 hq
        rw [pick_app, pick_rev, List.pairwise_append]
        refine ⟨o2 q, List.pairwise_reverse.2 ?_, fun a ha c hc => ?_⟩
        · have := o3 (K - 1 - q)
          rw [pick_mirror f.lt hQn hq] at this
          exact this
        · obtain ⟨h1, h2⟩ := pick_mem.1 ha
          obtain ⟨h3, h4⟩ := pick_mem.1 (List.mem_reverse.1 hc)
          have k1 := h.scan.kind a h1
          have k2 := h'.scan.kind c h3
          exact x2 a c k1.1 k2.1 (by rw [h2, h4]) (by simpa [lgB] using k1.2) k2.2
      · refine List.pairwise_lt_range.imp ?_
        intro q q' hqq x hx y hy
        obtain ⟨h1, h2⟩ := pick_mem.1 hx
        obtain ⟨h3, h4⟩ := pick_mem.1 hy
        have k1 := List.mem_range.1 (hperm.mem_iff.1 h1)
        have k2 := List.mem_range.1 (hperm.mem_iff.1 h3)
        exact x1 x y k1 k2 (by omega)
  · have h0 : s.length = 0 := by omega
    have hs : s = [] := List.length_eq_zero_iff.1 h0
    have hFe : F = [] := by
      have := hF.perm
      rw [hs] at this
      exact List.perm_nil.1 this
    subst hs
    subst hFe
    exact ⟨[], rfl, List.Perm.refl _, List.Pairwise.nil, fun _ _ _ _ _ _ _ => List.Pairwise.nil⟩
/-- Induced sorting: each place comes once, number by number; in order, if the first places are. -/
theorem indI_all {s : List Int} {K : Nat} {F : List Nat} (f : Fits s K) (hF : Firsts s F) : ∃ R : List Nat, indI s K F = natL R ∧ R.Perm (List.range s.length) ∧ R.Pairwise (fun a b => keyN s a ≤ keyN s b) ∧ (F.Pairwise (ltE s) → R.Pairwise (ltE s)) := by
  obtain ⟨R, h1, h2, h3, h4⟩ := indI_rel f hF
  exact ⟨R, h1, h2, h3, fun ho => h4 _ _ (ord2 f ho) (fun _ _ _ _ h => h) (fun P hP hp => ord3 f (fun p h => (hP p h).1) hp)
    (fun a b ha hb h => ltE_less ha hb (by rw [f.num a ha, f.num b hb]; omega))
    (fun a b ha hb h k1 k2 => ltE_kinds _ a b rfl ha hb (by rw [f.num a ha, f.num b hb, h]) k1 k2)⟩
end Go.Proofs.Ytabgbioocfdjiaa
