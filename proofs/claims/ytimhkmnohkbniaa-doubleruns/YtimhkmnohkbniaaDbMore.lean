/- More on ranks by first numbers: how they are made, widened and told in order. Plain numbers, no conditions. -/
import Derived.Test.YtimhkmnohkbniaaDbMath
import Derived.Test.YtimhkmnohkbniaaPermMath
namespace Go.Proofs.Ytimhkmnohkbniaa
set_option linter.unusedVariables false
set_option linter.unusedSimpArgs false

/-- How many of the first t numbers are below x. -/
def lsN (s : List Int) (x : Int) : Nat → Nat
  | 0 => 0
  | t + 1 => lsN s x t + if s.getD t 0 < x then 1 else 0
theorem cutI_one {s : List Int} {i : Nat} (hi : i < s.length) : cutI s 1 i = [s.getD i 0] := by
  unfold cutI
  rw [drop_getD hi]
  rfl
theorem cutB_one {s : List Int} {i k : Nat} (hi : i < s.length) (hk : k < s.length) : cutB s 1 i k = decide (s.getD i 0 < s.getD k 0) := by
  unfold cutB
  rw [cutI_one hi, cutI_one hk]
  generalize s.getD i 0 = x
  generalize s.getD k 0 = y
  congr 1
  simp only [cmpI]
  rcases Int.lt_trichotomy x y with g | g | g
  · rw [if_pos g]
    simp [g]
  · rw [if_neg (by omega), if_neg (by omega)]
    simp
    omega
  · rw [if_neg (by omega), if_pos g]
    simp
    omega
theorem hrI_one {s : List Int} {i : Nat} (hi : i < s.length) : hrI s 1 i = lsN s (s.getD i 0) s.length := by
  have key : ∀ t, t ≤ s.length → hrN s 1 i t = lsN s (s.getD i 0) t := by
    intro t
    induction t with
    | zero => intro _; rfl
    | succ t ih =>
      intro ht
      show hrN s 1 i t + _ = lsN s (s.getD i 0) t + _
      rw [ih (by omega), cutB_one (by omega) hi]
      by_cases g : s.getD t 0 < s.getD i 0
      · simp [g]
      · simp [g]
  exact key _ (Nat.le_refl _)
theorem lsN_next (s : List Int) (q : Nat) : ∀ t, lsN s ((q + 1 : Nat) : Int) t = lsN s (q : Int) t + cntI s q t := by
  intro t
  induction t with
  | zero => rfl
  | succ t ih =>
    show lsN s ((q + 1 : Nat) : Int) t + _ = lsN s (q : Int) t + _ + cntI s q (t + 1)
    rw [ih, cntI_succ]
    by_cases g : s.getD t 0 = (q : Int)
    · rw [if_pos g, if_pos (by omega), if_neg (by omega)]
      omega
    · rw [if_neg g]
      by_cases g2 : s.getD t 0 < (q : Int)
      · rw [if_pos g2, if_pos (by omega)]
        omega
      · rw [if_neg g2, if_neg (by omega)]
        omega
theorem lsN_zero {s : List Int} {k : Int} (hg : goodI k s = true) : ∀ t, t ≤ s.length → lsN s 0 t = 0 := by
  intro t
  induction t with
  | zero => intro _; rfl
  | succ t ih =>
    intro ht
    have := goodI_at hg (j := t) (by omega)
    show lsN s 0 t + _ = 0
    rw [ih (by omega), if_neg (by omega)]
/-- What the counts ahead come to. -/
theorem sum_counts {s : List Int} {K : Nat} (hg : goodI (K : Int) s = true) : ∀ q, q ≤ K → sumI (natL (cntsI s K)) q = (lsN s (q : Int) s.length : Int) := by
  intro q
  induction q with
  | zero =>
    intro _
    show (0 : Int) = _
    rw [show ((0 : Nat) : Int) = 0 from rfl, lsN_zero hg _ (Nat.le_refl _)]
    rfl
  | succ q ih =>
    intro hq
    show sumI (natL (cntsI s K)) q + _ = _
    rw [ih (by omega), natL_at, cntsI_at s (by omega), lsN_next]
    omega
theorem lsN_le (s : List Int) (x : Int) : ∀ t, lsN s x t ≤ t := by
  intro t
  induction t with
  | zero => exact Nat.le_refl _
  | succ t ih =>
    show lsN s x t + _ ≤ _
    split <;> omega
theorem lsN_count {s : List Int} {x : Int} : s.countP (fun z => decide (z < x)) = lsN s x s.length := by
  have key : ∀ t, t ≤ s.length → (s.take t).countP (fun z => decide (z < x)) = lsN s x t := by
    intro t
    induction t with
    | zero => intro _; simp [lsN]
    | succ t ih =>
      intro ht
      rw [takeI_succ (by omega), List.countP_append, ih (by omega)]
      show _ = lsN s x t + _
      by_cases g : s.getD t 0 < x
      · rw [if_pos g]
        simp only [List.countP_cons, List.countP_nil, decide_eq_true g, if_true]
      · rw [if_neg g]
        simp only [List.countP_cons, List.countP_nil, decide_eq_false g]
        rfl
  have := key s.length (Nat.le_refl _)
  rwa [List.take_of_length_le (Nat.le_refl _)] at this

/-- By a numbers, and by as many that begin b places on, b no more than a: as by a + b. -/
theorem cut_short {s : List Int} {a b i k : Nat} (hb : b ≤ a) (e : cutI s a i = cutI s a k) : cutI s b i = cutI s b k := by
  have h1 : ∀ j, cutI s b j = (cutI s a j).take b := fun j => by
    unfold cutI
    rw [List.take_take, Nat.min_eq_left hb]
  rw [h1, h1, e]
theorem cutB_more {s : List Int} {a b i k : Nat} (hab : a ≤ b) (h : cutB s a i k = true) : cutB s b i k = true := by
  have := (cut_two s a (b - a) i k).2 (.inl (cutB_iff.1 h))
  rw [show a + (b - a) = b by omega] at this
  exact cutB_iff.2 this
theorem hr_over {s : List Int} {a b i k : Nat} (ha : 0 < a) (hb : b ≤ a) (hi : i < s.length) (hk : k < s.length) : hrI s (a + b) i < hrI s (a + b) k ↔ hrI s a i < hrI s a k ∨ (hrI s a i = hrI s a k ∧ onI s a b i < onI s a b k) := by
  rw [hrI_lt hi hk, hrI_lt hi hk, hrI_eq hi hk, onI_lt ha]
  have h2 := cut_two s b a i k
  rw [show b + a = a + b by omega] at h2
  constructor
  · intro h
    rcases cut_three s a i k with g | g | g
    · exact .inl g
    · have := cutB_trans h (cutB_more (b := a + b) (by omega) g)
      rw [cutB_irrefl] at this
      cases this
    · refine .inr ⟨g, ?_⟩
      rcases h2.1 (cutB_iff.1 h) with h3 | h3
      · rw [cut_short hb g, cmpI_self] at h3
        omega
      · exact h3.2
  · rintro (g | ⟨g, h3⟩)
    · exact cutB_more (by omega) g
    · exact cutB_iff.2 (h2.2 (.inr ⟨cut_short hb g, h3⟩))
theorem onI_in {s : List Int} {h a i : Nat} (hi : i + a < s.length) : onI s h a i = (hrI s h (i + a) : Int) := if_pos hi
theorem onI_out {s : List Int} {h a i : Nat} (hi : s.length ≤ i + a) : onI s h a i = -1 := if_neg (by omega)
/-- Two places are alike by a + b just if they are by a, and b places on. -/
theorem hr_alike {s : List Int} {a b i k : Nat} (ha : 0 < a) (hb : b ≤ a) (hi : i < s.length) (hk : k < s.length) (hne : i ≠ k) : hrI s (a + b) i = hrI s (a + b) k ↔ hrI s a i = hrI s a k ∧ i + b < s.length ∧ k + b < s.length ∧ hrI s a (i + b) = hrI s a (k + b) := by
  have h1 := hr_over ha hb hi hk
  have h2 := hr_over ha hb hk hi
  constructor
  · intro h
    have n1 : ¬ (hrI s a i < hrI s a k ∨ (hrI s a i = hrI s a k ∧ onI s a b i < onI s a b k)) := fun g => by have := h1.2 g; omega
    have n2 : ¬ (hrI s a k < hrI s a i ∨ (hrI s a k = hrI s a i ∧ onI s a b k < onI s a b i)) := fun g => by have := h2.2 g; omega
    have e1 : hrI s a i = hrI s a k := by omega
    have e2 : onI s a b i = onI s a b k := by omega
    refine ⟨e1, ?_⟩
    by_cases gi : i + b < s.length
    · by_cases gk : k + b < s.length
      · rw [onI_in gi, onI_in gk] at e2
        exact ⟨gi, gk, by omega⟩
      · rw [onI_in gi, onI_out (by omega)] at e2
        omega
    · by_cases gk : k + b < s.length
      · rw [onI_in gk, onI_out (by omega)] at e2
        omega
      · have e3 := congrArg List.length ((hrI_eq hi hk).1 e1)
        unfold cutI at e3
        simp only [List.length_take, List.length_drop] at e3
        omega
  · rintro ⟨e1, gi, gk, e2⟩
    rw [onI_in gi, onI_in gk] at h1 h2
    by_cases g1 : hrI s (a + b) i < hrI s (a + b) k
    · have := h1.1 g1; omega
    · by_cases g2 : hrI s (a + b) k < hrI s (a + b) i
      · have := h2.1 g2; omega
      · omega

/-- All places, those of less rank first. -/
def InRk (s : List Int) (h : Nat) (R : List Nat) : Prop := R.Perm (List.range s.length) ∧ R.Pairwise fun a b => hrI s h a ≤ hrI s h b
theorem InRk.len {s : List Int} {h : Nat} {R : List Nat} (k : InRk s h R) : R.length = s.length := by rw [k.1.length_eq, List.length_range]
theorem InRk.mem {s : List Int} {h : Nat} {R : List Nat} (k : InRk s h R) {i : Nat} (hi : i < s.length) : R.getD i 0 < s.length := List.mem_range.1 (k.1.mem_iff.1 (getN_mem (by rw [k.len]; exact hi)))
theorem InRk.nodup {s : List Int} {h : Nat} {R : List Nat} (k : InRk s h R) : R.Nodup := k.1.nodup_iff.2 List.nodup_range
theorem hrN_count (s : List Int) (h p : Nat) : ∀ t, hrN s h p t = (List.range t).countP fun q => cutB s h q p := by
  intro t
  induction t with
  | zero => rfl
  | succ t ih =>
    rw [List.range_succ, List.countP_append, ← ih]
    show hrN s h p t + _ = _
    cases e : cutB s h t p
    · simp [e]
    · simp [e]
/-- Where a class begins, its rank is the place in the order. -/
theorem InRk.first {s : List Int} {h : Nat} {R : List Nat} (k : InRk s h R) {i : Nat} (hi : i < s.length) (hf : i = 0 ∨ hrI s h (R.getD (i - 1) 0) < hrI s h (R.getD i 0)) : hrI s h (R.getD i 0) = i := by
  have hl := k.len
  have hc : hrI s h (R.getD i 0) = R.countP fun q => cutB s h q (R.getD i 0) := by
    unfold hrI
    rw [hrN_count]
    exact (k.1.countP_eq _).symm
  have h1 : (R.take i).countP (fun q => cutB s h q (R.getD i 0)) = (R.take i).length := by
    rw [List.countP_eq_length]
    intro q hq
    obtain ⟨j, hj, rfl⟩ := mem_getN hq
    rw [List.length_take] at hj
    have e : (R.take i).getD j 0 = R.getD j 0 := by simp [List.getD, List.getElem?_take, show j < i by omega]
    rw [e]
    refine (hrI_lt (k.mem (by omega)) (k.mem hi)).1 ?_
    rcases hf with h0 | hf
    · omega
    · by_cases hji : j = i - 1
      · subst hji
        exact hf
      · have := pairN_at k.2 (show j < i - 1 by omega) (by omega)
        omega
  have h2 : (R.drop i).countP (fun q => cutB s h q (R.getD i 0)) = 0 := by
    rw [List.countP_eq_zero]
    intro q hq
    obtain ⟨j, hj, rfl⟩ := mem_getN hq
    rw [List.length_drop] at hj
    have e : (R.drop i).getD j 0 = R.getD (i + j) 0 := by simp [List.getD]
    rw [e]
    intro hlt
    have h3 := (hrI_lt (k.mem (by omega)) (k.mem hi)).2 hlt
    by_cases h0 : j = 0
    · subst h0
      simp at h3
    · have := pairN_at k.2 (show i < i + j by omega) (by omega)
      omega
  rw [hc]
  have h3 := congrArg (fun l : List Nat => l.countP fun q => cutB s h q (R.getD i 0)) (List.take_append_drop i R)
  simp only [List.countP_append] at h3
  rw [h1, h2, List.length_take] at h3
  omega
/-- The places in the order that are a step ahead of others. -/
def folN (R : List Nat) (b : Nat) : List Nat := (R.filter fun p => decide (b ≤ p)).map fun p => p - b
theorem folN_yes {R : List Nat} {b i : Nat} (hi : i < R.length) (h : b ≤ R.getD i 0) : folN (R.take (i + 1)) b = folN (R.take i) b ++ [R.getD i 0 - b] := by
  unfold folN
  rw [takeN_succ hi, List.filter_append, List.map_append]
  generalize R.getD i 0 = x at h ⊢
  congr 1
  rw [List.filter_cons_of_pos (by simpa using h)]
  rfl
theorem folN_no {R : List Nat} {b i : Nat} (hi : i < R.length) (h : ¬ b ≤ R.getD i 0) : folN (R.take (i + 1)) b = folN (R.take i) b := by
  unfold folN
  rw [takeN_succ hi, List.filter_append, List.map_append]
  generalize R.getD i 0 = x at h ⊢
  rw [List.filter_cons_of_neg (by simpa using h)]
  simp
theorem folN_le (R : List Nat) (b : Nat) : (folN R b).length ≤ R.length := by
  unfold folN
  rw [List.length_map]
  exact List.length_filter_le _ _
def lastN (n b i : Nat) : List Nat := (List.range i).map fun j => n - b + j
theorem lastN_next (n b i : Nat) : lastN n b (i + 1) = lastN n b i ++ [n - b + i] := by
  unfold lastN
  rw [List.range_succ, List.map_append]
  rfl
theorem lastN_len (n b i : Nat) : (lastN n b i).length = i := by simp [lastN]
theorem fol_perm {n b : Nat} {R : List Nat} (hR : R.Perm (List.range n)) (hb : b ≤ n) : (lastN n b b ++ folN R b).Perm (List.range n) := by
  have h1 : (folN R b).Perm (List.range (n - b)) := by
    have h2 : (folN R b).Perm (folN (List.range n) b) := (hR.filter _).map _
    refine h2.trans ?_
    have h3 : folN (List.range n) b = List.range (n - b) := by
      have key : ∀ m, folN (List.range (b + m)) b = List.range m := by
        intro m
        induction m with
        | zero =>
          unfold folN
          rw [List.filter_eq_nil_iff.2]
          · rfl
          · intro a ha
            have := List.mem_range.1 ha
            simp
            omega
        | succ m ih =>
          have ih' := ih
          unfold folN at ih'
          rw [show b + (m + 1) = (b + m) + 1 by omega, List.range_succ]
          unfold folN
          rw [List.filter_append, List.map_append, ih', List.range_succ]
          congr 1
          simp
      have := key (n - b)
      rwa [show b + (n - b) = n by omega] at this
    rw [h3]
  have h4 : List.range n = List.range (n - b) ++ lastN n b b := by
    have := List.range_add (n := n - b) (m := b)
    rw [show n - b + b = n by omega] at this
    rw [this]
    rfl
  rw [h4]
  exact List.perm_append_comm.trans (h1.append_right _)
theorem fol_on {s : List Int} {a b : Nat} {R : List Nat} (k : InRk s a R) (hb : b ≤ s.length) : (lastN s.length b b ++ folN R b).Pairwise fun x y => onI s a b x ≤ onI s a b y := by
  have ho : ∀ x ∈ lastN s.length b b, onI s a b x = -1 := fun x hx => by
    obtain ⟨j, hj, rfl⟩ := List.mem_map.1 hx
    have := List.mem_range.1 hj
    exact onI_out (by omega)
  have hge : ∀ x, -1 ≤ onI s a b x := fun x => by
    unfold onI
    split <;> omega
  rw [List.pairwise_append]
  refine ⟨?_, ?_, fun x hx y hy => by rw [ho x hx]; exact hge y⟩
  · refine (List.pairwise_of_forall_mem_list fun x hx y hy => ?_)
    rw [ho x hx]
    exact hge y
  · unfold folN
    rw [List.pairwise_map]
    refine (k.2.filter _).imp_of_mem fun {x y} hx hy hxy => ?_
    have hx2 := List.mem_filter.1 hx
    have hy2 := List.mem_filter.1 hy
    have ex := List.mem_range.1 (k.1.mem_iff.1 hx2.1)
    have ey := List.mem_range.1 (k.1.mem_iff.1 hy2.1)
    have gx := of_decide_eq_true hx2.2
    have gy := of_decide_eq_true hy2.2
    rw [onI_in (by omega), onI_in (by omega), show x - b + b = x by omega, show y - b + b = y by omega]
    omega
/-- One step on. -/
theorem InRk.next {s : List Int} {a b : Nat} {R : List Nat} {key : Nat → Nat} (k : InRk s a R) (ha : 0 < a) (hb : b ≤ a) (hbn : b ≤ s.length) (hk : ∀ p, p < s.length → key p = hrI s a p) : InRk s (a + b) (csort s.length (lastN s.length b b ++ folN R b) key) := by
  have hp := fol_perm k.1 hbn
  have hm : ∀ p ∈ lastN s.length b b ++ folN R b, p < s.length := fun p h => List.mem_range.1 (hp.mem_iff.1 h)
  have hq : (csort s.length (lastN s.length b b ++ folN R b) key).Perm (lastN s.length b b ++ folN R b) := csort_perm fun p h => by rw [hk p (hm p h)]; exact hrI_in (hm p h)
  refine ⟨hq.trans hp, (csort_sorted s.length key (fol_on k hbn)).imp_of_mem fun {x y} hx hy hxy => ?_⟩
  have ex := hm x (hq.mem_iff.1 hx)
  have ey := hm y (hq.mem_iff.1 hy)
  rw [hk x ex, hk y ey] at hxy
  have h1 := hr_over ha hb ey ex
  by_cases g : hrI s (a + b) y < hrI s (a + b) x
  · have := h1.1 g
    omega
  · omega
theorem InRk.start {s : List Int} {key : Nat → Nat} (hk : ∀ p, p < s.length → key p = hrI s 1 p) : InRk s 1 (csort s.length (List.range s.length) key) := by
  have hq : (csort s.length (List.range s.length) key).Perm (List.range s.length) := csort_perm fun p h => by rw [hk p (List.mem_range.1 h)]; exact hrI_in (List.mem_range.1 h)
  refine ⟨hq, (csort_sorted s.length key (List.pairwise_lt_range)).imp_of_mem fun {x y} hx hy hxy => ?_⟩
  rw [hk x (List.mem_range.1 (hq.mem_iff.1 hx)), hk y (List.mem_range.1 (hq.mem_iff.1 hy))] at hxy
  omega
/-- Ranks laid in order, as far as i places. -/
structure LaidR (s : List Int) (h : Nat) (R : List Nat) (i : Nat) (r : List Nat) : Prop where
  len : r.length = s.length
  at' : ∀ j, j < i → r.getD (R.getD j 0) 0 = hrI s h (R.getD j 0)
theorem LaidR.start (s : List Int) (h : Nat) (R : List Nat) : LaidR s h R 0 (List.replicate s.length 0) := ⟨List.length_replicate, fun j hj => by omega⟩
theorem LaidR.next {s : List Int} {h : Nat} {R : List Nat} {i : Nat} {r : List Nat} (l : LaidR s h R i r) (k : InRk s h R) (hi : i < s.length) {x : Nat} (hx : x = hrI s h (R.getD i 0)) : LaidR s h R (i + 1) (r.set (R.getD i 0) x) := by
  refine ⟨by rw [List.length_set, l.len], fun j hj => ?_⟩
  by_cases e : j = i
  · subst e
    rw [set_same (by rw [l.len]; exact k.mem hi), hx]
  · rw [set_other, l.at' j (by omega)]
    intro e2
    exact e (nodup_getN k.nodup (by rw [k.len]; omega) (by rw [k.len]; omega) e2).symm
theorem LaidR.done {s : List Int} {h : Nat} {R r : List Nat} (l : LaidR s h R s.length r) (k : InRk s h R) : r = hrL s h := by
  refine natL_ext (by rw [l.len, hrL_len]) fun p hp => ?_
  rw [l.len] at hp
  obtain ⟨j, hj, e⟩ := mem_getN (k.1.mem_iff.2 (List.mem_range.2 hp))
  rw [k.len] at hj
  have := l.at' j hj
  rw [e] at this
  rw [this, hrL_at hp]
/-- No two places alike: more numbers change nothing. -/
theorem settled_all {s : List Int} {h : Nat} {R : List Nat} (k : InRk s h R) (hs : ∀ i, i < s.length → hrI s h (R.getD i 0) = i) {b : Nat} (hb : h ≤ b) {p : Nat} (hp : p < s.length) : hrI s b p = hrI s h p := by
  have inj : ∀ p q, p < s.length → q < s.length → hrI s h p = hrI s h q → p = q := by
    intro p q hp hq e
    obtain ⟨i, hi, rfl⟩ := mem_getN (k.1.mem_iff.2 (List.mem_range.2 hp))
    obtain ⟨j, hj, rfl⟩ := mem_getN (k.1.mem_iff.2 (List.mem_range.2 hq))
    rw [k.len] at hi hj
    rw [hs i hi, hs j hj] at e
    rw [e]
  have key : ∀ t, t ≤ s.length → hrN s b p t = hrN s h p t := by
    intro t
    induction t with
    | zero => intro _; rfl
    | succ t ih =>
      intro ht
      show hrN s b p t + _ = hrN s h p t + _
      rw [ih (by omega)]
      have e : cutB s b t p = cutB s h t p := by
        rcases cut_three s h t p with g | g | g
        · rw [g, cutB_more hb g]
        · have g2 := cutB_more hb g
          have n1 : cutB s b t p = false := by
            cases e : cutB s b t p
            · rfl
            · have := cutB_trans g2 e
              rw [cutB_irrefl] at this
              cases this
          have n2 : cutB s h t p = false := by
            cases e : cutB s h t p
            · rfl
            · have := cutB_trans g e
              rw [cutB_irrefl] at this
              cases this
          rw [n1, n2]
        · have := inj t p (by omega) hp ((hrI_eq (by omega) hp).2 g)
          subst this
          rw [cutB_irrefl, cutB_irrefl]
      rw [e]
  exact key _ (Nat.le_refl _)
theorem hrI_whole {s : List Int} {a b : Nat} (ha : s.length ≤ a) (hb : s.length ≤ b) (p : Nat) : hrI s a p = hrI s b p := by
  have key : ∀ t, hrN s a p t = hrN s b p t := by
    intro t
    induction t with
    | zero => rfl
    | succ t ih =>
      have : cutB s a t p = cutB s b t p := by
        unfold cutB
        rw [cutI_whole ha, cutI_whole ha, cutI_whole hb, cutI_whole hb]
      show hrN s a p t + _ = hrN s b p t + _
      rw [ih, this]
  exact key _
theorem hrL_eq {s : List Int} {a b : Nat} (h : ∀ p, p < s.length → hrI s a p = hrI s b p) : hrL s a = hrL s b := by
  unfold hrL
  exact List.map_congr_left fun p hp => h p (List.mem_range.1 hp)
theorem InRk.same {s : List Int} {a b : Nat} {R : List Nat} (k : InRk s a R) (h : ∀ p, p < s.length → hrI s a p = hrI s b p) : InRk s b R := by
  refine ⟨k.1, k.2.imp_of_mem fun {x y} hx hy hxy => ?_⟩
  rwa [h x (List.mem_range.1 (k.1.mem_iff.1 hx)), h y (List.mem_range.1 (k.1.mem_iff.1 hy))] at hxy
/-- By the length, or more: the order of the endings. -/
theorem InRk.ord {s : List Int} {h : Nat} {R : List Nat} (k : InRk s h R) (hh : s.length ≤ h) : InOrd s R := by
  refine hr_order k.1 (h := h) ?_
  have h1 := List.pairwise_iff_getElem.1 k.2
  have h2 := k.nodup
  refine (k.2.and h2).imp_of_mem fun {x y} hx hy hxy => ?_
  have ex := List.mem_range.1 (k.1.mem_iff.1 hx)
  have ey := List.mem_range.1 (k.1.mem_iff.1 hy)
  have hne : hrI s h x ≠ hrI s h y := fun e => by
    have e2 := congrArg List.length ((hrI_eq ex ey).1 e)
    rw [cutI_whole hh, cutI_whole hh, List.length_drop, List.length_drop] at e2
    exact hxy.2 (by omega)
  have := hxy.1
  omega
theorem InRk.one {s : List Int} {h : Nat} {R : List Nat} (k : InRk s h R) {r : List Nat} (hr : r = hrL s h) {i : Nat} (hi : i < s.length) : r.getD (R.getD i 0) 0 = hrI s h (R.getD i 0) := by
  rw [hr, hrL_at (k.mem hi)]
theorem hrL_key {s : List Int} {h : Nat} : ∀ p, p < s.length → keyN (natL (hrL s h)) p = hrI s h p := fun p hp => by
  unfold keyN
  rw [natL_at, hrL_at hp]
  rfl
theorem hrL_lt {s : List Int} {h : Nat} : ∀ x ∈ hrL s h, x < s.length := fun x hx => by
  obtain ⟨p, hp, rfl⟩ := List.mem_map.1 hx
  exact hrI_in (List.mem_range.1 hp)
/-- What a pass by ranks makes. -/
theorem pass_hr {s : List Int} {h : Nat} {F : List Nat} (hF : F.Perm (List.range s.length)) (hn : s.length ≤ 1000000) : passI (natL F) (natL (hrL s h)) (s.length : Int) = natL (csort s.length F (keyN (natL (hrL s h)))) := by
  have hb : passB (natL F) (natL (hrL s h)) (s.length : Int) = true := by
    refine passB_iff.2 ⟨fitB_iff.2 ⟨by omega, by omega, good_nat hrL_lt⟩, ?_⟩
    rw [natL_len, hrL_len]
    exact good_nat fun x hx => List.mem_range.1 (hF.mem_iff.1 hx)
  rw [passI_yes hb, Int.toNat_natCast, toN_nat]
end Go.Proofs.Ytimhkmnohkbniaa
