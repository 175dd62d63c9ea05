/- Texts laid together: DbMore, DbSmall, DbFol, DbRks, DbWiden, DbAns, InvMath, KasMath, PhiMath, RkInv, RkIs, LexIsE, LexCom, PhiOp, RankMath, BwtMath, ChMath, ChAgain, ChAhead, KasOp, ChOp, Foot. -/
import Derived.Test.YtlmbdafilboblaaGreatPart3
import Derived.Test.YtlmbdafilboblaaGreatPart1
import Derived.Lib.MinMax
import Derived.Test.YtlmbdafilboblaaGreatPart2
/- More on ranks by first numbers: how they are made, widened and told in order. Plain numbers, no conditions. -/
namespace Go.Proofs.YtlmbdafilboblaaGreat
set_option linter.unusedVariables false
set_option linter.unusedSimpArgs false

/-- How many of the first t numbers are below x. -/
def lsN (s : List Int) (x : Int) : Nat → Nat
  | 0 => 0
  | t + 1 => lsN s x t + if s.getD t 0 < x then 1 else 0
theorem cutI_one {s : List Int} {i : Nat} (hi : i < s.length) : cutI s 1 i = [s.getD i 0] := by
  unfold cutI
  rw [drop_getD hi]
  rfl
theorem cutB_one {s : List Int} {i k : Nat} (hi : i < s.length) (hk : k < s.length) : cutB s 1 i k = decide (s.getD i 0 < s.getD k 0) := by
  unfold cutB
  rw [cutI_one hi, cutI_one hk]
  generalize s.getD i 0 = x
  generalize s.getD k 0 = y
  congr 1
  simp only [cmpI]
  rcases Int.lt_trichotomy x y with g | g | g
  · rw [if_pos g]
    simp [g]
  · rw [if_neg (by omega), if_neg (by omega)]
    simp
    omega
  · rw [if_neg (by omega), if_pos g]
    simp
    omega
theorem hrI_one {s : List Int} {i : Nat} (hi : i < s.length) : hrI s 1 i = lsN s (s.getD i 0) s.length := by
  have key : ∀ t, t ≤ s.length → hrN s 1 i t = lsN s (s.getD i 0) t := by
    intro t
    induction t with
    | zero => intro _; rfl
    | succ t ih =>
      intro ht
      show hrN s 1 i t + _ = lsN s (s.getD i 0) t + _
      rw [ih (by omega), cutB_one (by omega) hi]
      by_cases g : s.getD t 0 < s.getD i 0
      · simp [g]
      · simp [g]
  exact key _ (Nat.le_refl _)
theorem lsN_next (s : List Int) (q : Nat) : ∀ t, lsN s ((q + 1 : Nat) : Int) t = lsN s (q : Int) t + cntI s q t := by
  intro t
  induction t with
  | zero => rfl
  | succ t ih =>
    show lsN s ((q + 1 : Nat) : Int) t + _ = lsN s (q : Int) t + _ + cntI s q (t + 1)
    rw [ih, cntI_succ]
    by_cases g : s.getD t 0 = (q : Int)
    · rw [if_pos g, if_pos (by omega), if_neg (by omega)]
      omega
    · rw [if_neg g]
      by_cases g2 : s.getD t 0 < (q : Int)
      · rw [if_pos g2, if_pos (by omega)]
        omega
      · rw [if_neg g2, if_neg (by omega)]
        omega
theorem lsN_zero {s : List Int} {k : Int} (hg : goodI k s = true) : ∀ t, t ≤ s.length → lsN s 0 t = 0 := by
  intro t
  induction t with
  | zero => intro _; rfl
  | succ t ih =>
    intro ht
    have := goodI_at hg (j := t) (by omega)
    show lsN s 0 t + _ = 0
    rw [ih (by omega), if_neg (by omega)]
/-- What the counts ahead come to. -/
theorem sum_counts {s : List Int} {K : Nat} (hg : goodI (K : Int) s = true) : ∀ q, q ≤ K → sumI (natL (cntsI s K)) q = (lsN s (q : Int) s.length : Int) := by
  intro q
  induction q with
  | zero =>
    intro _
    show (0 : Int) = _
    rw [show ((0 : Nat) : Int) = 0 from rfl, lsN_zero hg _ (Nat.le_refl _)]
    rfl
  | succ q ih =>
    intro hq
    show sumI (natL (cntsI s K)) q + _ = _
    rw [ih (by omega), natL_at, cntsI_at s (by omega), lsN_next]
    omega
theorem lsN_le (s : List Int) (x : Int) : ∀ t, lsN s x t ≤ t := by
  intro t
  induction t with
  | zero => exact Nat.le_refl _
  | succ t ih =>
    show lsN s x t + _ ≤ _
    split <;> omega
theorem lsN_count {s : List Int} {x : Int} : s.countP (fun z => decide (z < x)) = lsN s x s.length := by
  have key : ∀ t, t ≤ s.length → (s.take t).countP (fun z => decide (z < x)) = lsN s x t := by
    intro t
    induction t with
    | zero => intro _; simp [lsN]
    | succ t ih =>
      intro ht
      rw [takeI_succ (by omega), List.countP_append, ih (by omega)]
      show _ = lsN s x t + _
      by_cases g : s.getD t 0 < x
      · rw [if_pos g]
        simp only [List.countP_cons, List.countP_nil, decide_eq_true g, if_true]
      · rw [if_neg g]
        simp only [List.countP_cons, List.countP_nil, decide_eq_false g]
        rfl
  have := key s.length (Nat.le_refl _)
  rwa [List.take_of_length_le (Nat.le_refl _)] at this

/-- By a numbers, and by as many that begin b places on, b no more than a: as by a + b. -/
theorem cut_short {s : List Int} {a b i k : Nat} (hb : b ≤ a) (e : cutI s a i = cutI s a k) : cutI s b i = cutI s b k := by
  have h1 : ∀ j, cutI s b j = (cutI s a j).take b := fun j => by
    unfold cutI
    rw [List.take_take, Nat.min_eq_left hb]
  rw [h1, h1, e]
theorem cutB_more {s : List Int} {a b i k : Nat} (hab : a ≤ b) (h : cutB s a i k = true) : cutB s b i k = true := by
  have := (cut_two s a (b - a) i k).2 (.inl (cutB_iff.1 h))
  rw [show a + (b - a) = b by omega] at this
  exact cutB_iff.2 this
theorem hr_over {s : List Int} {a b i k : Nat} (ha : 0 < a) (hb : b ≤ a) (hi : i < s.length) (hk : k < s.length) : hrI s (a + b) i < hrI s (a + b) k ↔ hrI s a i < hrI s a k ∨ (hrI s a i = hrI s a k ∧ onI s a b i < onI s a b k) := by
  rw [hrI_lt hi hk, hrI_lt hi hk, hrI_eq hi hk, onI_lt ha]
  have h2 := cut_two s b a i k
  rw [show b + a = a + b by omega] at h2
  constructor
  · intro h
    rcases cut_three s a i k with g | g | g
    · exact .inl g
    · have := cutB_trans h (cutB_more (b := a + b) (by omega) g)
      rw [cutB_irrefl] at this
      cases this
    · refine .inr ⟨g, ?_⟩
      rcases h2.1 (cutB_iff.1 h) with h3 | h3
      · rw [cut_short hb g, cmpI_self] at h3
        omega
      · exact h3.2
  · rintro (g | ⟨g, h3⟩)
    · exact cutB_more (by omega) g
    · exact cutB_iff.2 (h2.2 (.inr ⟨cut_short hb g, h3⟩))
theorem onI_in {s : List Int} {h a i : Nat} (hi : i + a < s.length) : onI s h a i = (hrI s h (i + a) : Int) := if_pos hi
theorem onI_out {s : List Int} {h a i : Nat} (hi : s.length ≤ i + a) : onI s h a i = -1 := if_neg (by omega)
/-- Two places are alike by a + b just if they are by a, and b places on. -/
theorem hr_alike {s : List Int} {a b i k : Nat} (ha : 0 < a) (hb : b ≤ a) (hi : i < s.length) (hk : k < s.length) (hne : i ≠ k) : hrI s (a + b) i = hrI s (a + b) k ↔ hrI s a i = hrI s a k ∧ i + b < s.length ∧ k + b < s.length ∧ hrI s a (i + b) = hrI s a (k + b) := by
  have h1 := hr_over ha hb hi hk
  have h2 := hr_over ha hb hk hi
  constructor
  · intro h
    have n1 : ¬ (hrI s a i < hrI s a k ∨ (hrI s a i = hrI s a k ∧ onI s a b i < onI s a b k)) := fun g => by have := h1.2 g; omega
    have n2 : ¬ (hrI s a k < hrI s a i ∨ (hrI s a k = hrI s a i ∧ onI s a b k < onI s a b i)) := fun g => by have := h2.2 g; omega
    have e1 : hrI s a i = hrI s a k := by omega
    have e2 : onI s a b i = onI s a b k := by omega
    refine ⟨e1, ?_⟩
    by_cases gi : i + b < s.length
    · by_cases gk : k + b < s.length
      · rw [onI_in gi, onI_in gk] at e2
        exact ⟨gi, gk, by omega⟩
      · rw [onI_in gi, onI_out (by omega)] at e2
        omega
    · by_cases gk : k + b < s.length
      · rw [onI_in gk, onI_out (by omega)] at e2
        omega
      · have e3 := congrArg List.length ((hrI_eq hi hk).1 e1)
        unfold cutI at e3
        simp only [List.length_take, List.length_drop] at e3
        omega
  · rintro ⟨e1, gi, gk, e2⟩
    rw [onI_in gi, onI_in gk] at h1 h2
    by_cases g1 : hrI s (a + b) i < hrI s (a + b) k
    · have := h1.1 g1; omega
    · by_cases g2 : hrI s (a + b) k < hrI s (a + b) i
      · have := h2.1 g2; omega
      · omega

/-- All places, those of less rank first. -/
def InRk (s : List Int) (h : Nat) (R : List Nat) : Prop := R.Perm (List.range s.length) ∧ R.Pairwise fun a b => hrI s h a ≤ hrI s h b
theorem InRk.len {s : List Int} {h : Nat} {R : List Nat} (k : InRk s h R) : R.length = s.length := by rw [k.1.length_eq, List.length_range]
theorem InRk.mem {s : List Int} {h : Nat} {R : List Nat} (k : InRk s h R) {i : Nat} (hi : i < s.length) : R.getD i 0 < s.length := List.mem_range.1 (k.1.mem_iff.1 (getN_mem (by rw [k.len]; exact hi)))
theorem InRk.nodup {s : List Int} {h : Nat} {R : List Nat} (k : InRk s h R) : R.Nodup := k.1.nodup_iff.2 List.nodup_range
theorem hrN_count (s : List Int) (h p : Nat) : ∀ t, hrN s h p t = (List.range t).countP fun q => cutB s h q p := by
  intro t
  induction t with
  | zero => rfl
  | succ t ih =>
    rw [List.range_succ, List.countP_append, ← ih]
    show hrN s h p t + _ = _
    cases e : cutB s h t p
    · simp [e]
    · simp [e]
/-- Where a class begins, its rank is the place in the order. -/
theorem InRk.first {s : List Int} {h : Nat} {R : List Nat} (k : InRk s h R) {i : Nat} (hi : i < s.length) (hf : i = 0 ∨ hrI s h (R.getD (i - 1) 0) < hrI s h (R.getD i 0)) : hrI s h (R.getD i 0) = i := by
  have hl := k.len
  have hc : hrI s h (R.getD i 0) = R.countP fun q => cutB s h q (R.getD i 0) := by
    unfold hrI
    rw [hrN_count]
    exact (k.1.countP_eq _).symm
  have h1 : (R.take i).countP (fun q => cutB s h q (R.getD i 0)) = (R.take i).length := by
    rw [List.countP_eq_length]
    intro q hq
    obtain ⟨j, hj, rfl⟩ := mem_getN hq
    rw [List.length_take] at hj
    have e : (R.take i).getD j 0 = R.getD j 0 := by simp [List.getD, List.getElem?_take, show j < i by omega]
    rw [e]
    refine (hrI_lt (k.mem (by omega)) (k.mem hi)).1 ?_
    rcases hf with h0 | hf
    · omega
    · by_cases hji : j = i - 1
      · subst hji
        exact hf
      · have := pairN_at k.2 (show j < i - 1 by omega) (by omega)
        omega
  have h2 : (R.drop i).countP (fun q => cutB s h q (R.getD i 0)) = 0 := by
    rw [List.countP_eq_zero]
    intro q hq
    obtain ⟨j, hj, rfl⟩ := mem_getN hq
    rw [List.length_drop] at hj
    have e : (R.drop i).getD j 0 = R.getD (i + j) 0 := by simp [List.getD]
    rw [e]
    intro hlt
    have h3 := (hrI_lt (k.mem (by omega)) (k.mem hi)).2 hlt
    by_cases h0 : j = 0
    · subst h0
      simp at h3
    · have := pairN_at k.2 (show i < i + j by omega) (by omega)
      omega
  rw [hc]
  have h3 := congrArg (fun l : List Nat => l.countP fun q => cutB s h q (R.getD i 0)) (List.take_append_drop i R)
  simp only [List.countP_append] at h3
  rw [h1, h2, List.length_take] at h3
  omega
/-- The places in the order that are a step ahead of others. -/
def folN (R : List Nat) (b : Nat) : List Nat := (R.filter fun p => decide (b ≤ p)).map fun p => p - b
theorem folN_yes {R : List Nat} {b i : Nat} (hi : i < R.length) (h : b ≤ R.getD i 0) : folN (R.take (i + 1)) b = folN (R.take i) b ++ [R.getD i 0 - b] := by
  unfold folN
  rw [takeN_succ hi, List.filter_append, List.map_append]
  generalize R.getD i 0 = x at h ⊢
  congr 1
  rw [List.filter_cons_of_pos (by simpa using h)]
  rfl
theorem folN_no {R : List Nat} {b i : Nat} (hi : i < R.length) (h : ¬ b ≤ R.getD i 0) : folN (R.take (i + 1)) b = folN (R.take i) b := by
  unfold folN
  rw [takeN_succ hi, List.filter_append, List.map_append]
  generalize R.getD i 0 = x at h ⊢
  rw [List.filter_cons_of_neg (by simpa using h)]
  simp
theorem folN_le (R : List Nat) (b : Nat) : (folN R b).length ≤ R.length := by
  unfold folN
  rw [List.length_map]
  exact List.length_filter_le _ _
def lastN (n b i : Nat) : List Nat := (List.range i).map fun j => n - b + j
theorem lastN_next (n b i : Nat) : lastN n b (i + 1) = lastN n b i ++ [n - b + i] := by
  unfold lastN
  rw [List.range_succ, List.map_append]
  rfl
theorem lastN_len (n b i : Nat) : (lastN n b i).length = i := by simp [lastN]
theorem fol_perm {n b : Nat} {R : List Nat} (hR : R.Perm (List.range n)) (hb : b ≤ n) : (lastN n b b ++ folN R b).Perm (List.range n) := by
  have h1 : (folN R b).Perm (List.range (n - b)) := by
    have h2 : (folN R b).Perm (folN (List.range n) b) := (hR.filter _).map _
    refine h2.trans ?_
    have h3 : folN (List.range n) b = List.range (n - b) := by
      have key : ∀ m, folN (List.range (b + m)) b = List.range m := by
        intro m
        induction m with
        | zero =>
          unfold folN
          rw [List.filter_eq_nil_iff.2]
          · rfl
          · intro a ha
            have := List.mem_range.1 ha
            simp
            omega
        | succ m ih =>
          have ih' := ih
          unfold folN at ih'
          rw [show b + (m + 1) = (b + m) + 1 by omega, List.range_succ]
          unfold folN
          rw [List.filter_append, List.map_append, ih', List.range_succ]
          congr 1
          simp
      have := key (n - b)
      rwa [show b + (n - b) = n by omega] at this
    rw [h3]
  have h4 : List.range n = List.range (n - b) ++ lastN n b b := by
    have := List.range_add (n := n - b) (m := b)
    rw [show n - b + b = n by omega] at this
    rw [this]
    rfl
  rw [h4]
  exact List.perm_append_comm.trans (h1.append_right _)
theorem fol_on {s : List Int} {a b : Nat} {R : List Nat} (k : InRk s a R) (hb : b ≤ s.length) : (lastN s.length b b ++ folN R b).Pairwise fun x y => onI s a b x ≤ onI s a b y := by
  have ho : ∀ x ∈ lastN s.length b b, onI s a b x = -1 := fun x hx => by
    obtain ⟨j, hj, rfl⟩ := List.mem_map.1 hx
    have := List.mem_range.1 hj
    exact onI_out (by omega)
  have hge : ∀ x, -1 ≤ onI s a b x := fun x => by
    unfold onI
    split <;> omega
  rw [List.pairwise_append]
  refine ⟨?_, ?_, fun x hx y hy => by rw [ho x hx]; exact hge y⟩
  · refine (List.pairwise_of_forall_mem_list fun x hx y hy => ?_)
    rw [ho x hx]
    exact hge y
  · unfold folN
    rw [List.pairwise_map]
    refine (k.2.filter _).imp_of_mem fun {x y} hx hy hxy => ?_
    have hx2 := List.mem_filter.1 hx
    have hy2 := List.mem_filter.1 hy
    have ex := List.mem_range.1 (k.1.mem_iff.1 hx2.1)
    have ey := List.mem_range.1 (k.1.mem_iff.1 hy2.1)
    have gx := of_decide_eq_true hx2.2
    have gy := of_decide_eq_true hy2.2
    rw [onI_in (by omega), onI_in (by omega), show x - b + b = x by omega, show y - b + b = y by omega]
    omega
/-- One step on. -/
theorem InRk.next {s : List Int} {a b : Nat} {R : List Nat} {key : Nat → Nat} (k : InRk s a R) (ha : 0 < a) (hb : b ≤ a) (hbn : b ≤ s.length) (hk : ∀ p, p < s.length → key p = hrI s a p) : InRk s (a + b) (csort s.length (lastN s.length b b ++ folN R b) key) := by
  have hp := fol_perm k.1 hbn
  have hm : ∀ p ∈ lastN s.length b b ++ folN R b, p < s.length := fun p h => List.mem_range.1 (hp.mem_iff.1 h)
  have hq : (csort s.length (lastN s.length b b ++ folN R b) key).Perm (lastN s.length b b ++ folN R b) := csort_perm fun p h => by rw [hk p (hm p h)]; exact hrI_in (hm p h)
  refine ⟨hq.trans hp, (csort_sorted s.length key (fol_on k hbn)).imp_of_mem fun {x y} hx hy hxy => ?_⟩
  have ex := hm x (hq.mem_iff.1 hx)
  have ey := hm y (hq.mem_iff.1 hy)
  rw [hk x ex, hk y ey] at hxy
  have h1 := hr_over ha hb ey ex
  by_cases g : hrI s (a + b) y < hrI s (a + b) x
  · have := h1.1 g
    omega
  · omega
theorem InRk.start {s : List Int} {key : Nat → Nat} (hk : ∀ p, p < s.length → key p = hrI s 1 p) : InRk s 1 (csort s.length (List.range s.length) key) := by
  have hq : (csort s.length (List.range s.length) key).Perm (List.range s.length) := csort_perm fun p h => by rw [hk p (List.mem_range.1 h)]; exact hrI_in (List.mem_range.1 h)
  refine ⟨hq, (csort_sorted s.length key (List.pairwise_lt_range)).imp_of_mem fun {x y} hx hy hxy => ?_⟩
  rw [hk x (List.mem_range.1 (hq.mem_iff.1 hx)), hk y (List.mem_range.1 (hq.mem_iff.1 hy))] at hxy
  omega
/-- Ranks laid in order, as far as i places. -/
structure LaidR (s : List Int) (h : Nat) (R : List Nat) (i : Nat) (r : List Nat) : Prop where
  len : r.length = s.length
  at' : ∀ j, j < i → r.getD (R.getD j 0) 0 = hrI s h (R.getD j 0)
theorem LaidR.start (s : List Int) (h : Nat) (R : List Nat) : LaidR s h R 0 (List.replicate s.length 0) := ⟨List.length_replicate, fun j hj => by omega⟩
theorem LaidR.next {s : List Int} {h : Nat} {R : List Nat} {i : Nat} {r : List Nat} (l : LaidR s h R i r) (k : InRk s h R) (hi : i < s.length) {x : Nat} (hx : x = hrI s h (R.getD i 0)) : LaidR s h R (i + 1) (r.set (R.getD i 0) x) := by
  refine ⟨by rw [List.length_set, l.len], fun j hj => ?_⟩
  by_cases e : j = i
  · subst e
    rw [set_same (by rw [l.len]; exact k.mem hi), hx]
  · rw [set_other, l.at' j (by omega)]
    intro e2
    exact e (nodup_getN k.nodup (by rw [k.len]; omega) (by rw [k.len]; omega) e2).symm
theorem LaidR.done {s : List Int} {h : Nat} {R r : List Nat} (l : LaidR s h R s.length r) (k : InRk s h R) : r = hrL s h := by
  refine natL_ext (by rw [l.len, hrL_len]) fun p hp => ?_
  rw [l.len] at hp
  obtain ⟨j, hj, e⟩ := mem_getN (k.1.mem_iff.2 (List.mem_range.2 hp))
  rw [k.len] at hj
  have := l.at' j hj
  rw [e] at this
  rw [this, hrL_at hp]
/-- No two places alike: more numbers change nothing. -/
theorem settled_all {s : List Int} {h : Nat} {R : List Nat} (k : InRk s h R) (hs : ∀ i, i < s.length → hrI s h (R.getD i 0) = i) {b : Nat} (hb : h ≤ b) {p : Nat} (hp : p < s.length) : hrI s b p = hrI s h p := by
  have inj : ∀ p q, p < s.length → q < s.length → hrI s h p = hrI s h q → p = q := by
    intro p q hp hq e
    obtain ⟨i, hi, rfl⟩ := mem_getN (k.1.mem_iff.2 (List.mem_range.2 hp))
    obtain ⟨j, hj, rfl⟩ := mem_getN (k.1.mem_iff.2 (List.mem_range.2 hq))
    rw [k.len] at hi hj
    rw [hs i hi, hs j hj] at e
    rw [e]
  have key : ∀ t, t ≤ s.length → hrN s b p t = hrN s h p t := by
    intro t
    induction t with
    | zero => intro _; rfl
    | succ t ih =>
      intro ht
      show hrN s b p t + _ = hrN s h p t + _
      rw [ih (by omega)]
      have e : cutB s b t p = cutB s h t p := by
        rcases cut_three s h t p with g | g | g
        · rw [g, cutB_more hb g]
        · have g2 := cutB_more hb g
          have n1 : cutB s b t p = false := by
            cases e : cutB s b t p
            · rfl
            · have := cutB_trans g2 e
              rw [cutB_irrefl] at this
              cases this
          have n2 : cutB s h t p = false := by
            cases e : cutB s h t p
            · rfl
            · have := cutB_trans g e
              rw [cutB_irrefl] at this
              cases this
          rw [n1, n2]
        · have := inj t p (by omega) hp ((hrI_eq (by omega) hp).2 g)
          subst this
          rw [cutB_irrefl, cutB_irrefl]
      rw [e]
  exact key _ (Nat.le_refl _)
theorem hrI_whole {s : List Int} {a b : Nat} (ha : s.length ≤ a) (hb : s.length ≤ b) (p : Nat) : hrI s a p = hrI s b p := by
  have key : ∀ t, hrN s a p t = hrN s b p t := by
    intro t
    induction t with
    | zero => rfl
    | succ t ih =>
      have : cutB s a t p = cutB s b t p := by
        unfold cutB
        rw [cutI_whole ha, cutI_whole ha, cutI_whole hb, cutI_whole hb]
      show hrN s a p t + _ = hrN s b p t + _
      rw [ih, this]
  exact key _
theorem hrL_eq {s : List Int} {a b : Nat} (h : ∀ p, p < s.length → hrI s a p = hrI s b p) : hrL s a = hrL s b := by
  unfold hrL
  exact List.map_congr_left fun p hp => h p (List.mem_range.1 hp)
theorem InRk.same {s : List Int} {a b : Nat} {R : List Nat} (k : InRk s a R) (h : ∀ p, p < s.length → hrI s a p = hrI s b p) : InRk s b R := by
  refine ⟨k.1, k.2.imp_of_mem fun {x y} hx hy hxy => ?_⟩
  rwa [h x (List.mem_range.1 (k.1.mem_iff.1 hx)), h y (List.mem_range.1 (k.1.mem_iff.1 hy))] at hxy
/-- By the length, or more: the order of the endings. -/
theorem InRk.ord {s : List Int} {h : Nat} {R : List Nat} (k : InRk s h R) (hh : s.length ≤ h) : InOrd s R := by
  refine hr_order k.1 (h := h) ?_
  have h1 := List.pairwise_iff_getElem.1 k.2
  have h2 := k.nodup
  refine (k.2.and h2).imp_of_mem fun {x y} hx hy hxy => ?_
  have ex := List.mem_range.1 (k.1.mem_iff.1 hx)
  have ey := List.mem_range.1 (k.1.mem_iff.1 hy)
  have hne : hrI s h x ≠ hrI s h y := fun e => by
    have e2 := congrArg List.length ((hrI_eq ex ey).1 e)
    rw [cutI_whole hh, cutI_whole hh, List.length_drop, List.length_drop] at e2
    exact hxy.2 (by omega)
  have := hxy.1
  omega
theorem InRk.one {s : List Int} {h : Nat} {R : List Nat} (k : InRk s h R) {r : List Nat} (hr : r = hrL s h) {i : Nat} (hi : i < s.length) : r.getD (R.getD i 0) 0 = hrI s h (R.getD i 0) := by
  rw [hr, hrL_at (k.mem hi)]
theorem hrL_key {s : List Int} {h : Nat} : ∀ p, p < s.length → keyN (natL (hrL s h)) p = hrI s h p := fun p hp => by
  unfold keyN
  rw [natL_at, hrL_at hp]
  rfl
theorem hrL_lt {s : List Int} {h : Nat} : ∀ x ∈ hrL s h, x < s.length := fun x hx => by
  obtain ⟨p, hp, rfl⟩ := List.mem_map.1 hx
  exact hrI_in (List.mem_range.1 hp)
/-- What a pass by ranks makes. -/
theorem pass_hr {s : List Int} {h : Nat} {F : List Nat} (hF : F.Perm (List.range s.length)) (hn : s.length ≤ 1000000) : passI (natL F) (natL (hrL s h)) (s.length : Int) = natL (csort s.length F (keyN (natL (hrL s h)))) := by
  have hb : passB (natL F) (natL (hrL s h)) (s.length : Int) = true := by
    refine passB_iff.2 ⟨fitB_iff.2 ⟨by omega, by omega, good_nat hrL_lt⟩, ?_⟩
    rw [natL_len, hrL_len]
    exact good_nat fun x hx => List.mem_range.1 (hF.mem_iff.1 hx)
  rw [passI_yes hb, Int.toNat_natCast, toN_nat]
end Go.Proofs.YtlmbdafilboblaaGreat

/- Contracts of double.numbers, places, byRanks, settled and alike. -/
namespace Go.Proofs.YtlmbdafilboblaaGreat
set_option linter.unusedVariables false
set_option linter.unusedSimpArgs false
open Go.RowKit

set_option maxHeartbeats 1000000 in
theorem dbNumbers_any (v : Value) (zs : List Int) (w : World) (hv : Sl .u8 w v zs) (h8 : Bytes8 zs) (hlen : zs.length ≤ 1000000) :
    Calls Tryz.prog 79 #[v] w fun e w' => ∃ u, e = .returned u ∧ Own .i64 3 w.heap.size w' u zs ∧ Ext w w' := by
  have HV := hide' hv
  have H8 := hide' h8
  obtain ⟨a, c, rfl, _⟩ := hv
  obtain ⟨n, HN⟩ : ∃ n, Hid (zs.length = n) := ⟨_, rfl⟩
  rw [HN.out] at HV hlen ⊢
  obtain ⟨w1, hmk, ho, he⟩ := make_ints w n hlen
  obtain ⟨g, HG⟩ : ∃ g, Hid (w.heap.size = g) := ⟨_, rfl⟩
  have hgw : w.heap.size ≤ g := by rw [HG.out]; exact Nat.le_refl _
  rw [HG.out] at ho hmk ⊢
  have O1 := hide' ho
  have X1 := hide' he
  have H0 : Hid (HalfI zs 0 (List.replicate n 0)) := by show HalfI _ _ _; rw [← HN.out]; exact HalfI.start zs
  clear ho he h8
  go_enter Tryz.func79, Tryz.ntmps79
  go_wp2
  go_loopw [11] (fun vi wr => ∃ (i : Nat) (r : List Int), i ≤ n ∧ vi = .int .i64 i ∧ Hid (HalfI zs i r) ∧ Hid (Own .i64 3 g wr (.slice (some ⟨g, 0, none⟩) n n) r) ∧ Hid (Ext w wr)) (fun vi _ => n - (intOf vi).toNat)
  case atStart => exact ⟨0, _, Nat.zero_le _, rfl, H0, O1, X1⟩
  case round =>
    clear O1 X1 H0 hmk
    obtain ⟨i, r, hi, rfl, HH, HO, HE⟩ := hrel
    have HRL : Hid (r.length = n) := by show _ = _; rw [HH.out.len, HN.out]
    by_cases hlt : i < n
    · have hlt' : (i : Int) < n := by omega
      have H1 := hide' (HH.out.next (by rw [HN.out]; exact hlt))
      obtain ⟨_, g1, o1, rfl, k1⟩ := HV.out.at (fun e => by have := HN.out; rw [e] at this; simp at this; omega)
      have c1 := HE.out.cellOf (k1 i hlt)
      have hz := H8.out.get i
      obtain ⟨z, HZ⟩ : ∃ z, Hid (zs.getD i 0 = z) := ⟨_, rfl⟩
      rw [HZ.out] at c1 H1 hz
      have hw : IntKind.i64.wrap z = z := by rw [IntKind.wrap_i64]; omega
      have c3 := HO.out.cell HRL.out i hlt
      have z3 := HO.out.frozen HRL.out i
      have O6 := hide' (HO.out.store HRL.out i z)
      have X6 : Hid (Ext w (wr.setCell ⟨g, i, none⟩ (.int .i64 z))) := Ext.but HE.out hgw (but_set _ _ _ _)
      clear k1 HO HE HH
      go_wp2
      go_roundw
      case rel => exact ⟨i + 1, _, by omega, by go_num, H1, O6, X6⟩
      case measure => simp [intOf] <;> omega
    · have d2 : decide ((i : Int) < n) = false := by simp; omega
      have hin : n = i := by omega
      have HD : Hid (r = zs) := by
        show _ = _
        have := HH.out
        rw [← hin, ← HN.out] at this
        exact this.done
      go_wp2
      go_ret
      refine ⟨_, rfl, ?_, HE.out⟩
      rw [← HD.out]
      exact HO.out

theorem rangeL_at {n i : Nat} (h : i < n) : (natL (List.range n)).getD i 0 = (i : Int) := by
  rw [natL_at]
  simp [List.getD, h]

set_option maxHeartbeats 1000000 in
theorem places_any (n : Nat) (w : World) (hlen : n ≤ 1000000) :
    Calls Tryz.prog 101 #[.int .i64 n] w fun e w' => ∃ u, e = .returned u ∧ Own .i64 3 w.heap.size w' u (natL (List.range n)) ∧ Ext w w' := by
  obtain ⟨zs, HZS⟩ : ∃ zs, Hid (natL (List.range n) = zs) := ⟨_, rfl⟩
  have HN : Hid (zs.length = n) := by show _ = _; rw [← HZS.out, natL_len, List.length_range]
  have HAT : Hid (∀ i, i < n → zs.getD i 0 = (i : Int)) := fun i hi => by rw [← HZS.out]; exact rangeL_at hi
  rw [HZS.out]
  obtain ⟨w1, hmk, ho, he⟩ := make_ints w n hlen
  obtain ⟨g, HG⟩ : ∃ g, Hid (w.heap.size = g) := ⟨_, rfl⟩
  have hgw : w.heap.size ≤ g := by rw [HG.out]; exact Nat.le_refl _
  rw [HG.out] at ho hmk ⊢
  have O1 := hide' ho
  have X1 := hide' he
  have H0 : Hid (HalfI zs 0 (List.replicate n 0)) := by show HalfI _ _ _; rw [← HN.out]; exact HalfI.start zs
  clear ho he
  go_enter Tryz.func101, Tryz.ntmps101
  go_wp2
  go_loopw [9] (fun vi wr => ∃ (i : Nat) (r : List Int), i ≤ n ∧ vi = .int .i64 i ∧ Hid (HalfI zs i r) ∧ Hid (Own .i64 3 g wr (.slice (some ⟨g, 0, none⟩) n n) r) ∧ Hid (Ext w wr)) (fun vi _ => n - (intOf vi).toNat)
  case atStart => exact ⟨0, _, Nat.zero_le _, rfl, H0, O1, X1⟩
  case round =>
    clear O1 X1 H0 hmk
    obtain ⟨i, r, hi, rfl, HH, HO, HE⟩ := hrel
    have HRL : Hid (r.length = n) := by show _ = _; rw [HH.out.len, HN.out]
    by_cases hlt : i < n
    · have hlt' : (i : Int) < n := by omega
      have H1 := hide' (HH.out.next (by rw [HN.out]; exact hlt))
      have HI := hide' (HAT.out i hlt)
      rw [HI.out] at H1
      have c3 := HO.out.cell HRL.out i hlt
      have z3 := HO.out.frozen HRL.out i
      have O6 := hide' (HO.out.store HRL.out i (i : Int))
      have X6 : Hid (Ext w (wr.setCell ⟨g, i, none⟩ (.int .i64 (i : Int)))) := Ext.but HE.out hgw (but_set _ _ _ _)
      clear HO HE HH
      go_wp2
      go_roundw
      case rel => exact ⟨i + 1, _, by omega, by go_num, H1, O6, X6⟩
      case measure => simp [intOf] <;> omega
    · have d2 : decide ((i : Int) < n) = false := by simp; omega
      have hin : n = i := by omega
      have HD : Hid (r = zs) := by
        show _ = _
        have := HH.out
        rw [← hin, ← HN.out] at this
        exact this.done
      go_wp2
      go_ret
      refine ⟨_, rfl, ?_, HE.out⟩
      rw [← HD.out]
      exact HO.out

/-- A pass by ranks. -/
theorem byRanks_any (v u : Value) (s : List Int) (h : Nat) (F : List Nat) (w : World) (hv : Sl .i64 w v (natL F)) (hu : Sl .i64 w u (natL (hrL s h))) (hF : F.Perm (List.range s.length)) (hlen : s.length ≤ 1000000) :
    Calls Tryz.prog 100 #[v, u] w fun e w' => ∃ x, e = .returned x ∧ Own .i64 3 w.heap.size w' x (natL (csort s.length F (keyN (natL (hrL s h))))) ∧ Ext w w' := by
  have HFL : F.length = s.length := by rw [hF.length_eq, List.length_range]
  have HC := hide' (pass_any v u _ _ (s.length : Int) w hv hu (by rw [natL_len, HFL]; exact hlen) (by rw [natL_len, hrL_len]; exact hlen))
  rw [pass_hr hF hlen] at HC
  obtain ⟨a, c, rfl, _⟩ := id hv
  obtain ⟨ua, uc, hue, _⟩ := id hu
  subst hue
  simp only [natL_len, hrL_len, HFL] at HC ⊢
  obtain ⟨Z, HZ⟩ : ∃ Z, Hid (natL (csort s.length F (keyN (natL (hrL s h)))) = Z) := ⟨_, rfl⟩
  rw [HZ.out] at HC ⊢
  obtain ⟨B, HB⟩ : ∃ B, Hid (passB (natL F) (natL (hrL s h)) (s.length : Int) = B) := ⟨_, rfl⟩
  rw [HB.out] at HC
  clear hv hu hF HFL
  go_enter Tryz.func100, Tryz.ntmps100
  go_wp2_with fail
  refine HC.out.mono ?_
  rintro e w1 ⟨x, rfl, ho, he⟩
  have O1 := hide' ho
  have X1 := hide' he
  clear ho he HC
  go_wp2
  go_ret
  exact ⟨_, rfl, O1.out, X1.out⟩

/-- Do no two places have one rank? -/
def setN (s : List Int) (h : Nat) (R : List Nat) : Prop := ∀ i, i < s.length → hrI s h (R.getD i 0) = i
set_option maxHeartbeats 1000000 in
theorem settled_any (v u : Value) (s : List Int) (h : Nat) (R : List Nat) (w : World) (hv : Sl .i64 w v (natL R)) (hu : Sl .i64 w u (natL (hrL s h))) (hR : InRk s h R) (hlen : s.length ≤ 1000000) :
    Calls Tryz.prog 102 #[v, u] w fun e w' => ∃ b, e = .returned (.bool b) ∧ (b = true → setN s h R) ∧ w' = w := by
  have HR := hide' hR
  obtain ⟨a, c, rfl, _⟩ := id hv
  obtain ⟨ua, uc, hue, _⟩ := id hu
  subst hue
  rw [natL_len, hR.len] at hv ⊢
  rw [natL_len, hrL_len] at hu ⊢
  obtain ⟨_, _, _, hcv⟩ := hv.nat
  obtain ⟨_, _, _, hcu⟩ := hu.nat
  have CV := hide' hcv
  have CU := hide' hcu
  have HMM : Hid (∀ i, i < s.length → R.getD i 0 < s.length ∧ (hrL s h).getD (R.getD i 0) 0 = hrI s h (R.getD i 0)) := fun i hi => ⟨hR.mem hi, hR.one rfl hi⟩
  have HST : Hid ((∀ j, j < s.length → hrI s h (R.getD j 0) = j) → setN s h R) := fun h => h
  obtain ⟨n, HN⟩ : ∃ n, Hid (s.length = n) := ⟨_, rfl⟩
  rw [HN.out] at CV CU HMM HST hlen ⊢
  clear hv hu hcv hcu hR
  go_enter Tryz.func102, Tryz.ntmps102
  go_wp2
  go_loopw [9] (fun vi wr => ∃ (i : Nat), i ≤ n ∧ vi = .int .i64 i ∧ Hid (∀ j, j < i → hrI s h (R.getD j 0) = j) ∧ wr = w) (fun vi _ => n - (intOf vi).toNat)
  case atStart => exact ⟨0, Nat.zero_le _, rfl, (fun j hj => by omega), rfl⟩
  case round =>
    obtain ⟨i, hi, rfl, HG, rfl⟩ := hrel
    by_cases hlt : i < n
    · have hlt' : (i : Int) < n := by omega
      obtain ⟨g1, o1, rfl, k1⟩ := CV.out (by omega)
      obtain ⟨g2, o2, rfl, k2⟩ := CU.out (by omega)
      have c1 := k1 i hlt
      obtain ⟨hm1, hm2⟩ := HMM.out i hlt
      have c2 := k2 _ hm1
      rw [hm2] at c2
      have HM2 := hide' hm2
      obtain ⟨x, HX⟩ : ∃ x, Hid (hrI s h (R.getD i 0) = x) := ⟨_, rfl⟩
      rw [HX.out] at c2
      clear hm2 HM2
      obtain ⟨p, HP⟩ : ∃ p, Hid (R.getD i 0 = p) := ⟨_, rfl⟩
      rw [HP.out] at c1 c2 hm1
      have hm1' : (p : Int) < n := by omega
      clear k1 k2
      by_cases hz : x = i
      · have dz : ((x : Int) != (i : Int)) = false := by simp; omega
        go_wp2
        go_roundw
        case rel =>
          refine ⟨i + 1, by omega, by go_num, (fun j hj => ?_), by first | trivial | rfl⟩
          by_cases e : j = i
          · subst e; rw [HX.out]; exact hz
          · exact HG.out j (by omega)
        case measure => simp [intOf]; omega
      · have dz : ((x : Int) != (i : Int)) = true := by simp; omega
        go_wp2
        go_ret
        exact ⟨_, rfl, (fun h => by cases h), rfl⟩
    · have hlt' : decide ((i : Int) < n) = false := by simp; omega
      have hin : n = i := by omega
      have HB := hide' (HST.out fun j hj => HG.out j (by omega))
      go_wp2
      go_ret
      exact ⟨_, rfl, fun _ => HB.out, rfl⟩

set_option maxHeartbeats 1000000 in
/-- Are two places alike, by the rank and the rank b places on? -/
theorem alikeR_any (u : Value) (s : List Int) (h b i j : Nat) (w : World) (hu : Sl .i64 w u (natL (hrL s h))) (hi : i < s.length) (hj : j < s.length) (hij : i ≠ j) (h0 : 0 < h) (hb : b ≤ h) (hbl : b ≤ 1000000) (hlen : s.length ≤ 1000000) :
    Calls Tryz.prog 111 #[u, .int .i64 i, .int .i64 j, .int .i64 b] w fun e w' => e = .returned (.bool (decide (hrI s (h + b) i = hrI s (h + b) j))) ∧ ∃ m, w' = w.drewN m := by
  have HA := hide' (hr_alike h0 hb hi hj hij)
  obtain ⟨D, HD⟩ : ∃ D, Hid (decide (hrI s (h + b) i = hrI s (h + b) j) = D) := ⟨_, rfl⟩
  rw [HD.out]
  obtain ⟨a, c, rfl, _⟩ := id hu
  rw [natL_len, hrL_len] at hu ⊢
  obtain ⟨_, _, _, hcu⟩ := hu.nat
  have CU := hide' hcu
  have HAT : Hid (∀ p, p < s.length → (hrL s h).getD p 0 = hrI s h p) := fun p hp => hrL_at hp
  obtain ⟨n, HN⟩ : ∃ n, Hid (s.length = n) := ⟨_, rfl⟩
  rw [HN.out] at CU HAT HA hi hj hlen ⊢
  obtain ⟨g2, o2, rfl, k2⟩ := CU.out (by omega)
  clear hu hcu CU
  have hi' : (i : Int) < n := by omega
  have hj' : (j : Int) < n := by omega
  have c1 := fun m => (Ext.drewN w m).cellOf (k2 i hi)
  have c2 := fun m => (Ext.drewN w m).cellOf (k2 j hj)
  rw [HAT.out i hi] at c1
  rw [HAT.out j hj] at c2
  obtain ⟨x, HX⟩ : ∃ x, Hid (hrI s h i = x) := ⟨_, rfl⟩
  obtain ⟨y, HY⟩ : ∃ y, Hid (hrI s h j = y) := ⟨_, rfl⟩
  rw [HX.out] at c1 HA
  rw [HY.out] at c2 HA
  have ei : (i : Int) + (b : Int) = ((i + b : Nat) : Int) := by omega
  have ej : (j : Int) + (b : Int) = ((j + b : Nat) : Int) := by omega
  obtain ⟨I, HI⟩ : ∃ I, Hid (i + b = I) := ⟨_, rfl⟩
  obtain ⟨J, HJ⟩ : ∃ J, Hid (j + b = J) := ⟨_, rfl⟩
  have hIl : I ≤ 2000000 := by rw [← HI.out]; omega
  have hJl : J ≤ 2000000 := by rw [← HJ.out]; omega
  rw [HI.out] at ei HA
  rw [HJ.out] at ej HA
  by_cases hxy : x = y
  · have d1 : ((x : Int) != (y : Int)) = false := by simp; omega
    by_cases hI : I < n
    · have dI : decide ((n : Int) ≤ (I : Int)) = false := by simp; omega
      have hI' : (I : Int) < n := by omega
      by_cases hJ : J < n
      · have dJ : decide ((n : Int) ≤ (J : Int)) = false := by simp; omega
        have hJ' : (J : Int) < n := by omega
        have c3 := fun m => (Ext.drewN w m).cellOf (k2 I hI)
        have c4 := fun m => (Ext.drewN w m).cellOf (k2 J hJ)
        rw [HAT.out I hI] at c3
        rw [HAT.out J hJ] at c4
        obtain ⟨z, HZ⟩ : ∃ x, Hid (hrI s h I = x) := ⟨_, rfl⟩
        obtain ⟨t, HT⟩ : ∃ y, Hid (hrI s h J = y) := ⟨_, rfl⟩
        rw [HZ.out] at c3 HA
        rw [HT.out] at c4 HA
        have HDD : Hid (((z : Int) == (t : Int)) = D) := by
          show _ = _
          rw [← HD.out]
          by_cases e : z = t
          · rw [decide_eq_true (HA.out.2 ⟨hxy, hI, hJ, e⟩)]
            simp; omega
          · rw [decide_eq_false (fun g => e (HA.out.1 g).2.2.2)]
            simp; omega
        clear k2
        go_enter Tryz.func111, Tryz.ntmps111
        go_wp2_with fail
        go_quiet (fail)
        go_wp2
        go_quiet (fail)
        go_wp2
        go_ret
        rw [← HDD.out]
        exact ⟨rfl, _, by first | rfl | rw [World.drewN_drewN]⟩
      · have dJ : decide ((n : Int) ≤ (J : Int)) = true := by simp; omega
        have HDD : Hid (D = false) := by
          show _ = _
          rw [← HD.out, decide_eq_false (fun g => hJ (HA.out.1 g).2.2.1)]
        rw [HDD.out]
        clear k2
        go_enter Tryz.func111, Tryz.ntmps111
        go_wp2_with fail
        go_quiet (fail)
        go_wp2
        go_ret
        exact ⟨rfl, _, by first | rfl | rw [World.drewN_drewN]⟩
    · have dI : decide ((n : Int) ≤ (I : Int)) = true := by simp; omega
      have HDD : Hid (D = false) := by
        show _ = _
        rw [← HD.out, decide_eq_false (fun g => hI (HA.out.1 g).2.1)]
      rw [HDD.out]
      clear k2
      go_enter Tryz.func111, Tryz.ntmps111
      go_wp2_with fail
      go_quiet (fail)
      go_wp2
      go_ret
      exact ⟨rfl, _, by first | rfl | rw [World.drewN_drewN]⟩
  · have d1 : ((x : Int) != (y : Int)) = true := by simp; omega
    have HDD : Hid (D = false) := by
      show _ = _
      rw [← HD.out, decide_eq_false (fun g => hxy (HA.out.1 g).1)]
    rw [HDD.out]
    clear k2
    go_enter Tryz.func111, Tryz.ntmps111
    go_wp2_with fail
    go_quiet (fail)
    go_wp2
    go_ret
    exact ⟨rfl, _, by first | rfl | rw [World.drewN_drewN]⟩
end Go.Proofs.YtlmbdafilboblaaGreat

/- Contract of double.byWhatFollows. -/
namespace Go.Proofs.YtlmbdafilboblaaGreat
set_option linter.unusedVariables false
set_option linter.unusedSimpArgs false
open Go.RowKit

set_option maxHeartbeats 1000000 in
theorem byWhat_any (v : Value) (R : List Nat) (b : Nat) (w : World) (hv : Sl .i64 w v (natL R)) (hb : b ≤ R.length) (hlt : ∀ i, i < R.length → R.getD i 0 < R.length) (hlen : R.length ≤ 200000) :
    Calls Tryz.prog 103 #[v, .int .i64 (b : Int)] w fun e w' => ∃ x, e = .returned x ∧ Own .i64 3 w.heap.size w' x (natL (lastN R.length b b ++ folN R b)) ∧ Ext w w' := by
  have HFL := hide' (folN_le R b)
  have HTK : Hid (∀ i, (folN (R.take i) b).length ≤ R.length) := fun i => by
    have := folN_le (R.take i) b
    rw [List.length_take] at this
    omega
  have HY : Hid (∀ i, i < R.length → b ≤ R.getD i 0 → folN (R.take (i + 1)) b = folN (R.take i) b ++ [R.getD i 0 - b]) := fun i h1 h2 => folN_yes h1 h2
  have HNO : Hid (∀ i, i < R.length → ¬ b ≤ R.getD i 0 → folN (R.take (i + 1)) b = folN (R.take i) b) := fun i h1 h2 => folN_no h1 h2
  have HAL : Hid (folN (R.take R.length) b = folN R b) := by show _ = _; rw [List.take_of_length_le (Nat.le_refl _)]
  have HMM := hide' hlt
  obtain ⟨a, c, rfl, _⟩ := id hv
  rw [natL_len] at hv ⊢
  obtain ⟨_, _, _, hcv⟩ := hv.nat
  have CV := hide' hcv
  obtain ⟨n, HN⟩ : ∃ n, Hid (R.length = n) := ⟨_, rfl⟩
  rw [HN.out] at CV HMM HTK HY HNO HAL hlen hb ⊢
  have hsub : (n : Int) - (b : Int) = ((n - b : Nat) : Int) := by omega
  obtain ⟨m, HM⟩ : ∃ m, Hid (n - b = m) := ⟨_, rfl⟩
  have hmb : m + b = n := by rw [← HM.out]; omega
  rw [HM.out] at hsub
  obtain ⟨w1, hmk, ho, he⟩ := make_roomI w n (by omega)
  have O1 := hide' ho
  have X1 := hide' he
  clear ho he hv hcv hlt
  go_enter Tryz.func103, Tryz.ntmps103
  go_wp2
  go_loopw [5, 6] (fun ov vi wr => ∃ (i : Nat), i ≤ b ∧ vi = .int .i64 ((m + i : Nat) : Int) ∧ Hid (Own .i64 3 w.heap.size wr ov (natL (lastN n b i))) ∧ Hid (Ext w wr)) (fun _ vi _ => n - (intOf vi).toNat)
  case atStart => exact ⟨0, Nat.zero_le _, rfl, O1, X1⟩
  case round =>
    clear O1 X1 hmk
    obtain ⟨i, hi, rfl, HO, HE⟩ := hrel
    have hsz := HE.out.size
    obtain ⟨p, HP⟩ : ∃ p, Hid (m + i = p) := ⟨_, rfl⟩
    have hpp : p = m + i := HP.out.symm
    rw [HP.out]
    by_cases hlt : p < n
    · have hlt' : (p : Int) < n := by omega
      have HL : Hid ((natL (lastN n b i)).length ≤ 1000000) := by
        show _ ≤ _
        rw [natL_len, lastN_len]
        omega
      have HZ : Hid (natL (lastN n b (i + 1)) = natL (lastN n b i) ++ [(p : Int)]) := by
        show _ = _
        rw [lastN_next, ← natL_snoc, ← HP.out, ← HM.out]
      have HP1 : Hid (m + (i + 1) = p + 1) := by show _ = _; omega
      have hib : i + 1 ≤ b := by omega
      clear hpp
      go_wp2_with (at_builtin; refine wpList_snoc _ rfl _ _ 32 rfl 3 .i64 8 Tryz.underlying32 infoI64 w.heap.size _ (natL (lastN n b i)) (p : Int) ⟨wr.heap.size, 0, none⟩ rfl rfl ?c4 (HO.out.alloc _) ?c3 ?c5 ?_)
      case c3 => have := HL.out; unfold maxLen; omega
      case c5 => simp; omega
      case c4 => simp only [World.cell?, heap_alloc_top]; simp
      intro v1 w4 ho1 hb1
      have HO1 : Hid (Own .i64 3 w.heap.size w4 v1 (natL (lastN n b (i + 1)))) := by rw [HZ.out]; exact ho1
      have HE1 : Hid (Ext w w4) := Below.trans (HE.out.trans (ext_alloc _ _)) hb1
      clear ho1 hb1
      go_wp2
      go_roundw
      case rel => exact ⟨i + 1, hib, by rw [HP1.out]; go_num, HO1, HE1⟩
      case measure => simp [intOf] <;> omega
    · have d1 : decide ((p : Int) < n) = false := by simp; omega
      have hib : i = b := by omega
      have HO2 : Hid (Own .i64 3 w.heap.size wr u5 (natL (lastN n b b ++ folN (R.take 0) b))) := by
        have := HO.out
        rw [hib] at this
        rw [show lastN n b b ++ folN (R.take 0) b = lastN n b b by simp [folN]]
        exact this
      have HZ : Hid (∀ l : List Nat, (lastN n b b ++ l).length = b + l.length) := fun l => by rw [List.length_append, lastN_len]
      clear hib HO hpp
      go_wp2
      go_loopw [5, 28] (fun ov vi wq => ∃ (j : Nat), j ≤ n ∧ vi = .int .i64 j ∧ Hid (Own .i64 3 w.heap.size wq ov (natL (lastN n b b ++ folN (R.take j) b))) ∧ Hid (Ext w wq)) (fun _ vi _ => n - (intOf vi).toNat)
      case atStart => exact ⟨0, Nat.zero_le _, rfl, HO2, HE⟩
      case round =>
        clear HO2 HE d1 hsub
        obtain ⟨j, hj, rfl, HO, HE⟩ := hrel
        have hsz := HE.out.size
        by_cases hlt : j < n
        · have hlt' : (j : Int) < n := by omega
          obtain ⟨g1, o1, rfl, k1⟩ := CV.out (by omega)
          have c1 := HE.out.cellOf (k1 j hlt)
          have hpn := HMM.out j hlt
          have HYj := hide' (HY.out j hlt)
          have HNj := hide' (HNO.out j hlt)
          have HTj := hide' (HTK.out j)
          obtain ⟨q, HQ⟩ : ∃ q, Hid (R.getD j 0 = q) := ⟨_, rfl⟩
          rw [HQ.out] at c1 hpn HYj HNj
          clear k1
          by_cases hq : b ≤ q
          · have d2 : decide ((b : Int) ≤ (q : Int)) = true := by simp; omega
            have hs2 : (q : Int) - (b : Int) = ((q - b : Nat) : Int) := by omega
            have HZ2 := hide' (HYj.out hq)
            obtain ⟨y, HYY⟩ : ∃ y, Hid (q - b = y) := ⟨_, rfl⟩
            rw [HYY.out] at hs2 HZ2
            have HL : Hid ((natL (lastN n b b ++ folN (R.take j) b)).length ≤ 1000000) := by
              show _ ≤ _
              rw [natL_len, HZ.out]
              have := HTj.out
              omega
            clear hq HYj HNj
            go_wp2_with (at_builtin; refine wpList_snoc _ rfl _ _ 32 rfl 3 .i64 8 Tryz.underlying32 infoI64 w.heap.size _ (natL (lastN n b b ++ folN (R.take j) b)) (y : Int) ⟨wr.heap.size, 0, none⟩ rfl rfl ?c4 (HO.out.alloc _) ?c3 ?c5 ?_)
            case c3 => have := HL.out; unfold maxLen; omega
            case c5 => simp; omega
            case c4 => simp only [World.cell?, heap_alloc_top]; simp
            intro v1 w4 ho1 hb1
            have HO1 : Hid (Own .i64 3 w.heap.size w4 v1 (natL (lastN n b b ++ folN (R.take (j + 1)) b))) := by rw [HZ2.out, ← List.append_assoc, ← natL_snoc]; exact ho1
            have HE1 : Hid (Ext w w4) := Below.trans (HE.out.trans (ext_alloc _ _)) hb1
            clear ho1 hb1
            go_wp2
            go_roundw
            case rel => exact ⟨j + 1, by omega, by go_num, HO1, HE1⟩
            case measure => simp [intOf] <;> omega
          · have d2 : decide ((b : Int) ≤ (q : Int)) = false := by simp; omega
            have d3 : decide (b ≤ q) = false := by simp; omega
            have HZ2 := hide' (HNj.out hq)
            rw [← HZ2.out] at HO
            clear hq HYj HNj
            go_wp2
            go_roundw
            case rel => exact ⟨j + 1, by omega, by go_num, HO, HE⟩
            case measure => simp [intOf] <;> omega
        · have d1 : decide ((j : Int) < n) = false := by simp; omega
          have hjn : j = n := by omega
          have HO3 : Hid (Own .i64 3 w.heap.size wr u5 (natL (lastN n b b ++ folN R b))) := by
            have := HO.out
            rw [hjn, HAL.out] at this
            exact this
          clear HO
          go_wp2
          go_ret
          exact ⟨_, rfl, HO3.out, HE.out⟩
end Go.Proofs.YtlmbdafilboblaaGreat

/- Contracts of double.ranksInOrder and ranksByCounts. -/
namespace Go.Proofs.YtlmbdafilboblaaGreat
set_option linter.unusedVariables false
set_option linter.unusedSimpArgs false
open Go.RowKit

set_option maxHeartbeats 2000000 in
theorem ranksIn_any (v u : Value) (s : List Int) (R : List Nat) (h b : Nat) (w : World) (hv : Sl .i64 w v (natL R)) (hu : Sl .i64 w u (natL (hrL s h))) (hR : InRk s (h + b) R) (h0 : 0 < h) (hb : b ≤ h) (hbl : b ≤ 1000000) (hlen : s.length ≤ 200000) :
    Calls Tryz.prog 104 #[v, u, .int .i64 (b : Int)] w fun e w' => ∃ x, e = .returned x ∧ Own .i64 3 w.heap.size w' x (natL (hrL s (h + b))) ∧ Ext w w' := by
  have HLEN : Hid (s.length ≤ 1000000) := by show _ ≤ _; omega
  have HUV := hide' hu
  have HR := hide' hR
  have HAK : Hid (∀ i j (W : World), i < s.length → j < s.length → i ≠ j → Sl .i64 W u (natL (hrL s h)) → Calls Tryz.prog 111 #[u, .int .i64 i, .int .i64 j, .int .i64 b] W fun e w' => e = .returned (.bool (decide (hrI s (h + b) i = hrI s (h + b) j))) ∧ ∃ m, w' = W.drewN m) :=
    fun i j W hi hj hij hW => alikeR_any u s h b i j W hW hi hj hij h0 hb hbl HLEN.out
  obtain ⟨a, c, rfl, _⟩ := id hv
  obtain ⟨ua, uc, hue, _⟩ := id hu
  subst hue
  rw [natL_len, hR.len] at hv ⊢
  rw [natL_len, hrL_len] at hu HUV HAK ⊢
  obtain ⟨_, _, _, hcv⟩ := hv.nat
  have CV := hide' hcv
  have HMM : Hid (∀ i, i < s.length → R.getD i 0 < s.length) := fun i hi => hR.mem hi
  have HND : Hid (∀ i j, i < s.length → j < s.length → i < j → R.getD i 0 ≠ R.getD j 0) := fun i j hi hj hij e => by
    have := nodup_getN hR.nodup (by rw [hR.len]; exact hi) (by rw [hR.len]; exact hj) e
    omega
  have HFI : Hid (∀ i, i < s.length → (i = 0 ∨ hrI s (h + b) (R.getD (i - 1) 0) ≠ hrI s (h + b) (R.getD i 0)) → i = hrI s (h + b) (R.getD i 0)) := fun i hi hf => by
    refine (hR.first hi ?_).symm
    rcases hf with h1 | h1
    · exact .inl h1
    · by_cases e : i = 0
      · exact .inl e
      · have := pairN_at hR.2 (show i - 1 < i by omega) (by rw [hR.len]; exact hi)
        refine .inr ?_
        omega
  have HNX : Hid (∀ i r x, LaidR s (h + b) R i r → i < s.length → x = hrI s (h + b) (R.getD i 0) → LaidR s (h + b) R (i + 1) (r.set (R.getD i 0) x)) := fun i r x h1 h2 h3 => h1.next hR h2 h3
  have HDN : Hid (∀ r, LaidR s (h + b) R s.length r → r = hrL s (h + b)) := fun r h1 => h1.done hR
  have N0 := hide' (LaidR.start s (h + b) R)
  obtain ⟨Z, HZ⟩ : ∃ Z, Hid (hrL s (h + b) = Z) := ⟨_, rfl⟩
  rw [HZ.out] at HDN ⊢
  obtain ⟨H, HH⟩ : ∃ H, Hid (h + b = H) := ⟨_, rfl⟩
  rw [HH.out] at HFI HNX HDN N0 HAK
  obtain ⟨n, HN⟩ : ∃ n, Hid (s.length = n) := ⟨_, rfl⟩
  rw [HN.out] at CV HMM HND HFI HNX HDN N0 HUV HAK hlen ⊢
  obtain ⟨w1, hmk, ho, he⟩ := make_nats w n (by omega)
  obtain ⟨g, HG⟩ : ∃ g, Hid (w.heap.size = g) := ⟨_, rfl⟩
  have hgw : w.heap.size ≤ g := by rw [HG.out]; exact Nat.le_refl _
  rw [HG.out] at ho hmk ⊢
  have O1 := hide' ho
  have X1 := hide' he
  clear ho he hv hu hcv hR
  go_enter Tryz.func104, Tryz.ntmps104
  go_wp2
  go_loopw [15] (fun vi wr => ∃ (i : Nat) (r : List Nat), i ≤ n ∧ vi = .int .i64 i ∧ Hid (LaidR s H R i r) ∧ Hid (Own .i64 3 g wr (.slice (some ⟨g, 0, none⟩) n n) (natL r)) ∧ Hid (Ext w wr)) (fun vi _ => n - (intOf vi).toNat)
  case atStart => exact ⟨0, _, Nat.zero_le _, rfl, N0, O1, X1⟩
  case round =>
    clear O1 X1 N0 hmk
    obtain ⟨i, r, hi, rfl, HL, HO, HE⟩ := hrel
    have HRL : Hid (r.length = n) := by show _ = _; rw [HL.out.len, HN.out]
    by_cases hlt : i < n
    · have hlt' : (i : Int) < n := by omega
      obtain ⟨g1, o1, rfl, k1⟩ := CV.out (by omega)
      have c1 := HE.out.cellOf (k1 i hlt)
      have hpn := HMM.out i hlt
      have HNXi := hide' (fun x h1 => HNX.out i r x HL.out hlt h1)
      have HFIi := hide' (HFI.out i hlt)
      have HUW := hide' (HUV.out.ext HE.out)
      by_cases hi0 : i = 0
      · have d0 : decide ((0 : Int) < (i : Int)) = false := by simp; omega
        have d0' : decide (0 < i) = false := by simp; omega
        have hiv : (i : Int) = ((i : Nat) : Int) := rfl
        have H1 := hide' (HNXi.out i (HFIi.out (.inl hi0)))
        obtain ⟨p, HP⟩ : ∃ p, Hid (R.getD i 0 = p) := ⟨_, rfl⟩
        rw [HP.out] at c1 hpn H1
        have hpn' : (p : Int) < n := by omega
        have c3 := HO.out.intCell HRL.out p hpn
        have z3 := HO.out.frozen (by rw [natL_len]; exact HRL.out) p
        have O6 := hide' (HO.out.storeN HRL.out p i)
        have X6 : Hid (Ext w (wr.setCell ⟨g, p, none⟩ (.int .i64 (i : Int)))) := Ext.but HE.out hgw (but_set _ _ _ _)
        clear k1 HO HE HL HNXi HFIi HUW hi0
        go_wp2_with fail
        go_roundw
        case rel => exact ⟨i + 1, _, by omega, by go_num, H1, O6, X6⟩
        case measure => simp [intOf] <;> omega
      · have d0 : (0 : Int) < (i : Int) := by omega
        have hm1 : (i : Int) - 1 = ((i - 1 : Nat) : Int) := by omega
        have c2 := HE.out.cellOf (k1 (i - 1) (by omega))
        have hqn := HMM.out (i - 1) (by omega)
        have hne := HND.out (i - 1) i (by omega) hlt (by omega)
        have HLA := hide' (HL.out.at' (i - 1) (by omega))
        obtain ⟨t, HT⟩ : ∃ t, Hid (i - 1 = t) := ⟨_, rfl⟩
        have htn : t < n := by rw [← HT.out]; omega
        have htn' : (t : Int) < n := by omega
        rw [HT.out] at hm1 c2 hqn hne HLA HFIi
        have HA := hide' (fun W hW => HAK.out (R.getD t 0) (R.getD i 0) W hqn hpn hne hW)
        obtain ⟨p, HP⟩ : ∃ p, Hid (R.getD i 0 = p) := ⟨_, rfl⟩
        rw [HP.out] at c1 hpn HNXi HFIi HA
        obtain ⟨q, HQ⟩ : ∃ q, Hid (R.getD t 0 = q) := ⟨_, rfl⟩
        rw [HQ.out] at c2 hqn HFIi HA HLA
        have hpn' : (p : Int) < n := by omega
        have hqn' : (q : Int) < n := by omega
        clear k1 hne
        by_cases hx : hrI s H q = hrI s H p
        · have HA2 : Hid (∀ W, Sl .i64 W (.slice ua n uc) (natL (hrL s h)) → Calls Tryz.prog 111 #[.slice ua n uc, .int .i64 q, .int .i64 p, .int .i64 b] W fun e w' => e = .returned (.bool true) ∧ ∃ m, w' = W.drewN m) := fun W hW => by
            have := HA.out W hW
            rwa [decide_eq_true hx] at this
          have H1 := hide' (HNXi.out (r.getD q 0) (by rw [HLA.out, hx]))
          clear HA HNXi HFIi
          go_wp2_with fail
          refine (HA2.out _ HUW.out).mono ?_
          rintro e w2 ⟨rfl, m, hw2⟩
          have X2 : Hid (Ext wr w2) := by show Ext _ _; rw [hw2]; exact Ext.drewN _ _
          clear hw2
          have HO2 := hide' (HO.out.ext X2.out)
          have HE2 := hide' (HE.out.trans X2.out)
          have c5 := X2.out.cellOf c2
          have c4 := HO2.out.intCell HRL.out q hqn
          have c3 := HO2.out.intCell HRL.out p hpn
          have z3 := HO2.out.frozen (by rw [natL_len]; exact HRL.out) p
          obtain ⟨x, HX⟩ : ∃ x, Hid (r.getD q 0 = x) := ⟨_, rfl⟩
          rw [HX.out] at c4 H1
          have O6 := hide' (HO2.out.storeN HRL.out p x)
          have X6 : Hid (Ext w (w2.setCell ⟨g, p, none⟩ (.int .i64 (x : Int)))) := Ext.but HE2.out hgw (but_set _ _ _ _)
          clear HO HE HL HUW HO2 HE2 c1 c2 X2 hx
          go_wp2_with fail
          go_roundw
          case rel => exact ⟨i + 1, _, by omega, by go_num, H1, O6, X6⟩
          case measure => simp [intOf] <;> omega
        · have HA2 : Hid (∀ W, Sl .i64 W (.slice ua n uc) (natL (hrL s h)) → Calls Tryz.prog 111 #[.slice ua n uc, .int .i64 q, .int .i64 p, .int .i64 b] W fun e w' => e = .returned (.bool false) ∧ ∃ m, w' = W.drewN m) := fun W hW => by
            have := HA.out W hW
            rwa [decide_eq_false hx] at this
          have H1 := hide' (HNXi.out i (HFIi.out (.inr hx)))
          clear HA HNXi HFIi
          go_wp2_with fail
          refine (HA2.out _ HUW.out).mono ?_
          rintro e w2 ⟨rfl, m, hw2⟩
          have X2 : Hid (Ext wr w2) := by show Ext _ _; rw [hw2]; exact Ext.drewN _ _
          clear hw2
          have HO2 := hide' (HO.out.ext X2.out)
          have HE2 := hide' (HE.out.trans X2.out)
          have c3 := HO2.out.intCell HRL.out p hpn
          have z3 := HO2.out.frozen (by rw [natL_len]; exact HRL.out) p
          have O6 := hide' (HO2.out.storeN HRL.out p i)
          have X6 : Hid (Ext w (w2.setCell ⟨g, p, none⟩ (.int .i64 (i : Int)))) := Ext.but HE2.out hgw (but_set _ _ _ _)
          clear HO HE HL HUW HO2 HE2 c1 c2 X2 hx
          go_wp2_with fail
          go_roundw
          case rel => exact ⟨i + 1, _, by omega, by go_num, H1, O6, X6⟩
          case measure => simp [intOf] <;> omega
    · have d1 : decide ((i : Int) < n) = false := by simp; omega
      have hin : n = i := by omega
      have HD : Hid (r = Z) := by
        show _ = _
        have := HL.out
        rw [← hin] at this
        exact HDN.out _ this
      go_wp2
      go_ret
      refine ⟨_, rfl, ?_, HE.out⟩
      rw [← HD.out]
      exact HO.out

set_option maxHeartbeats 1000000 in
theorem ranksCnt_any (v cv : Value) (s : List Int) (K : Nat) (w : World) (hv : Sl .i64 w v s) (hcv : Sl .i64 w cv (natL (cntsI s K))) (hg : goodI (K : Int) s = true) (hK : K ≤ 1048576) (hlen : s.length ≤ 200000) :
    Calls Tryz.prog 93 #[v, cv] w fun e w' => ∃ u, e = .returned u ∧ Own .i64 3 w.heap.size w' u (natL (hrL s 1)) ∧ Ext w w' := by
  have HGD := hide' hg
  have HS : Hid (∀ q, q ≤ K → sumI (natL (cntsI s K)) q = (lsN s (q : Int) s.length : Int)) := fun q hq => sum_counts hg q hq
  have HC := hide' (starts_any cv (natL (cntsI s K)) w hcv (by rw [natL_len, cntsI_len]; omega) (fun i hi => by
    rw [natL_len, cntsI_len] at hi
    rw [HS.out i hi]
    have := lsN_le s (i : Int) s.length
    omega))
  have HT : Hid (∀ q, q < K → (startsI (natL (cntsI s K))).getD q 0 = (lsN s (q : Int) s.length : Int)) := fun q hq => by
    rw [startsI_at _ (by rw [natL_len, cntsI_len]; exact hq), HS.out q (by omega)]
  have HTL : Hid ((startsI (natL (cntsI s K))).length = K) := by show _ = _; rw [startsI_len, natL_len, cntsI_len]
  obtain ⟨T, HTT⟩ : ∃ T, Hid (startsI (natL (cntsI s K)) = T) := ⟨_, rfl⟩
  rw [HTT.out] at HC HT HTL
  have HV := hide' hv
  obtain ⟨a, c, rfl, _⟩ := id hv
  obtain ⟨ca, cc, hce, _⟩ := id hcv
  subst hce
  rw [natL_len, cntsI_len] at HC ⊢
  obtain ⟨zs, HZS⟩ : ∃ zs, Hid (natL (hrL s 1) = zs) := ⟨_, rfl⟩
  have HZL : Hid (zs.length = s.length) := by show _ = _; rw [← HZS.out, natL_len, hrL_len]
  have HAT : Hid (∀ i, i < s.length → zs.getD i 0 = (lsN s (s.getD i 0) s.length : Int)) := fun i hi => by rw [← HZS.out, natL_at, hrL_at hi, hrI_one hi]
  rw [HZS.out]
  obtain ⟨n, HN⟩ : ∃ n, Hid (s.length = n) := ⟨_, rfl⟩
  have HGA : Hid (∀ j, j < n → 0 ≤ s.getD j 0 ∧ s.getD j 0 < K) := fun j hj => by
    have := goodI_at HGD.out (j := j) (by rw [HN.out]; exact hj)
    exact ⟨this.1, this.2⟩
  rw [HN.out] at HV HT HAT HZL hlen ⊢
  clear hv hcv hg
  go_enter Tryz.func93, Tryz.ntmps93
  go_wp2_with fail
  refine HC.out.mono ?_
  rintro e w1 ⟨su, rfl, ho, he⟩
  have ST := hide' ho.sl
  have X0 := hide' he
  have hz0 := he.size
  clear ho he HC
  obtain ⟨_, _, _, kv⟩ := HV.out.int
  have CV := hide' kv
  obtain ⟨sa, sc, hse, _⟩ := id ST.out
  subst hse
  rw [HTL.out] at ST
  obtain ⟨_, _, _, ks⟩ := ST.out.int
  have CS := hide' ks
  clear kv ks ST
  obtain ⟨w2, hmk, ho, he⟩ := make_ints w1 n (by omega)
  obtain ⟨g, HG⟩ : ∃ g, Hid (w1.heap.size = g) := ⟨_, rfl⟩
  have hgw : w1.heap.size ≤ g := by rw [HG.out]; exact Nat.le_refl _
  have hgw0 : w.heap.size ≤ g := by rw [← HG.out]; exact hz0
  rw [HG.out] at ho hmk
  have O1 := hide' ho
  have X1 := hide' he
  have H0 : Hid (HalfI zs 0 (List.replicate n 0)) := by show HalfI _ _ _; rw [← HZL.out]; exact HalfI.start zs
  clear ho he
  rw [HTL.out]
  go_wp2
  go_loopw [16] (fun vi wr => ∃ (i : Nat) (r : List Int), i ≤ n ∧ vi = .int .i64 i ∧ Hid (HalfI zs i r) ∧ Hid (Own .i64 3 g wr (.slice (some ⟨g, 0, none⟩) n n) r) ∧ Hid (Ext w1 wr)) (fun vi _ => n - (intOf vi).toNat)
  case atStart => exact ⟨0, _, Nat.zero_le _, rfl, H0, O1, X1⟩
  case round =>
    clear O1 X1 H0 hmk
    obtain ⟨i, r, hi, rfl, HH, HO, HE⟩ := hrel
    have HRL : Hid (r.length = n) := by show _ = _; rw [HH.out.len, HZL.out]
    by_cases hlt : i < n
    · have hlt' : (i : Int) < n := by omega
      have H1 := hide' (HH.out.next (by rw [HZL.out]; exact hlt))
      have HI := hide' (HAT.out i hlt)
      rw [HI.out] at H1
      obtain ⟨g1, o1, rfl, k1⟩ := CV.out (by omega)
      have c1 := HE.out.cellOf (X0.out.cellOf (k1 i hlt))
      have hz := HGA.out i hlt
      have HTi := hide' (fun q hq => HT.out q hq)
      obtain ⟨z, HZ⟩ : ∃ z, Hid (s.getD i 0 = z) := ⟨_, rfl⟩
      rw [HZ.out] at c1 hz H1
      obtain ⟨q, rfl⟩ := Int.eq_ofNat_of_zero_le hz.1
      have hq : q < K := by omega
      have hq' : (q : Int) < K := by omega
      obtain ⟨g2, o2, rfl, k2⟩ := CS.out (by omega)
      have c2 := HE.out.cellOf (k2 q hq)
      rw [HTi.out q hq] at c2
      obtain ⟨x, HX⟩ : ∃ x, Hid (lsN s (q : Int) n = x) := ⟨_, rfl⟩
      rw [HX.out] at H1
      rw [HX.out] at c2
      have c3 := HO.out.cell HRL.out i hlt
      have z3 := HO.out.frozen HRL.out i
      have O6 := hide' (HO.out.store HRL.out i (x : Int))
      have X6 : Hid (Ext w1 (wr.setCell ⟨g, i, none⟩ (.int .i64 (x : Int)))) := Ext.but HE.out hgw (but_set _ _ _ _)
      clear k1 k2 hz HO HE HH HTi
      go_wp2
      go_roundw
      case rel => exact ⟨i + 1, _, by omega, by go_num, H1, O6, X6⟩
      case measure => simp [intOf] <;> omega
    · have d2 : decide ((i : Int) < n) = false := by simp; omega
      have hin : n = i := by omega
      have HD : Hid (r = zs) := by
        show _ = _
        have := HH.out
        rw [← hin, ← HZL.out] at this
        exact this.done
      go_wp2
      go_ret
      refine ⟨_, rfl, ?_, X0.out.trans HE.out⟩
      rw [← HD.out]
      exact HO.out.low hgw0
end Go.Proofs.YtlmbdafilboblaaGreat

/- Contract of double.widen: ranks by one number become ranks by any more. -/
namespace Go.Proofs.YtlmbdafilboblaaGreat
set_option linter.unusedVariables false
set_option linter.unusedSimpArgs false
open Go.RowKit

theorem widen_fin {s : List Int} {h a : Nat} {R : List Nat} (h0 : 0 < h ∨ s.length = 0) (k : InRk s a R) (hw : a ≤ 1 ∨ a ≤ min h s.length) (hd : min h s.length ≤ a ∨ setN s a R) : ∀ p, p < s.length → hrI s a p = hrI s h p := by
  intro p hp
  have ha : a ≤ min h s.length := by omega
  rcases hd with hd | hd
  · by_cases hh : h ≤ s.length
    · rw [show a = h by omega]
    · exact hrI_whole (by omega) (by omega) p
  · exact (settled_all k hd (by omega) hp).symm

set_option maxHeartbeats 2000000 in
theorem widen_any (v : Value) (s : List Int) (h B : Nat) (w : World) (h0 : 0 < h ∨ s.length = 0) (hv : Own .i64 3 B w v (natL (hrL s 1))) (hB : B ≤ w.heap.size) (hlen : s.length ≤ 200000) :
    Calls Tryz.prog 92 #[v, .int .i64 (h : Int)] w fun e w' => ∃ x y R, e = .returned (.tuple #[x, y]) ∧ InRk s h R ∧ Own .i64 3 B w' x (natL R) ∧ Own .i64 3 B w' y (natL (hrL s h)) ∧ Ext w w' := by
  have HV := hide' hv
  have HFN : Hid (∀ a R, InRk s a R → (a ≤ 1 ∨ a ≤ min h s.length) → (min h s.length ≤ a ∨ setN s a R) → InRk s h R ∧ hrL s a = hrL s h) := fun a R k h1 h2 => by
    have := widen_fin h0 k h1 h2
    exact ⟨k.same this, hrL_eq this⟩
  have HST : Hid (∀ x u W, Sl .i64 W x (natL (List.range s.length)) → Sl .i64 W u (natL (hrL s 1)) → Calls Tryz.prog 100 #[x, u] W fun e w' => ∃ y R, e = .returned y ∧ InRk s 1 R ∧ Own .i64 3 W.heap.size w' y (natL R) ∧ Ext W w') := fun x u W h1 h2 =>
    (byRanks_any x u s 1 _ W h1 h2 (List.Perm.refl _) (by omega)).mono fun e w' ⟨y, e1, e2, e3⟩ => ⟨y, _, e1, InRk.start hrL_key, e2, e3⟩
  have HNX : Hid (∀ x u a b R W, InRk s a R → 0 < a → b ≤ a → b ≤ s.length → Sl .i64 W x (natL (lastN s.length b b ++ folN R b)) → Sl .i64 W u (natL (hrL s a)) → Calls Tryz.prog 100 #[x, u] W fun e w' => ∃ y R', e = .returned y ∧ InRk s (a + b) R' ∧ Own .i64 3 W.heap.size w' y (natL R') ∧ Ext W w') := fun x u a b R W k ha hb hbn h1 h2 =>
    (byRanks_any x u s a _ W h1 h2 (fol_perm k.1 hbn) (by omega)).mono fun e w' ⟨y, e1, e2, e3⟩ => ⟨y, _, e1, k.next ha hb hbn hrL_key, e2, e3⟩
  have HFO : Hid (∀ x b R W a, InRk s a R → b ≤ s.length → Sl .i64 W x (natL R) → Calls Tryz.prog 103 #[x, .int .i64 (b : Int)] W fun e w' => ∃ y, e = .returned y ∧ Own .i64 3 W.heap.size w' y (natL (lastN s.length b b ++ folN R b)) ∧ Ext W w') := fun x b R W a k hb h1 => by
    have := byWhat_any x R b W h1 (by rw [k.len]; exact hb) (fun i hi => by rw [k.len] at hi ⊢; exact k.mem hi) (by rw [k.len]; exact hlen)
    rwa [k.len] at this
  have HRK : Hid (∀ x u a b R W, InRk s (a + b) R → 0 < a → b ≤ a → b ≤ s.length → Sl .i64 W x (natL R) → Sl .i64 W u (natL (hrL s a)) → Calls Tryz.prog 104 #[x, u, .int .i64 (b : Int)] W fun e w' => ∃ y, e = .returned y ∧ Own .i64 3 W.heap.size w' y (natL (hrL s (a + b))) ∧ Ext W w') := fun x u a b R W k ha hb hbn h1 h2 =>
    ranksIn_any x u s R a b W h1 h2 k ha hb (by omega) hlen
  have HSE : Hid (∀ x u a R W, InRk s a R → Sl .i64 W x (natL R) → Sl .i64 W u (natL (hrL s a)) → Calls Tryz.prog 102 #[x, u] W fun e w' => ∃ b, e = .returned (.bool b) ∧ (b = true → setN s a R) ∧ w' = W) := fun x u a R W k h1 h2 =>
    settled_any x u s a R W h1 h2 k (by omega)
  obtain ⟨va, vc, hve, _⟩ := id hv.sl
  subst hve
  rw [natL_len, hrL_len] at HV ⊢
  obtain ⟨n, HN⟩ : ∃ n, Hid (s.length = n) := ⟨_, rfl⟩
  rw [HN.out] at HV HFN HST HNX HFO HRK hlen ⊢
  have hmin : min (h : Int) (n : Int) = ((min h n : Nat) : Int) := by omega
  obtain ⟨m, HM⟩ : ∃ m, Hid (min h n = m) := ⟨_, rfl⟩
  have hmn : m ≤ n := by rw [← HM.out]; omega
  rw [HM.out] at hmin HFN
  have HPL := hide' (places_any n w (by omega))
  clear hv
  go_enter Tryz.func92, Tryz.ntmps92
  go_wp2_with fail
  refine HPL.out.mono ?_
  rintro e w1 ⟨x1, rfl, ho, he⟩
  have S1 := hide' ho.sl
  have X1 := hide' he
  have hz1 := he.size
  have V1 := hide' (HV.out.ext he)
  clear ho he HPL HV
  go_wp2_with fail
  refine (HST.out _ _ w1 S1.out V1.out.sl).mono ?_
  rintro e w2 ⟨x2, R, rfl, hk, ho, he⟩
  have K2 := hide' hk
  have O2 := hide' (ho.low (Nat.le_trans hB hz1))
  have X2 := hide' (X1.out.trans he)
  have hz2 := X2.out.size
  have V2 := hide' (V1.out.ext he)
  clear ho he hk S1 V1 X1 HST
  go_wp2_with fail
  go_loopw [0, 4, 6] (fun rv ov wv wr => ∃ (a : Nat) (R : List Nat), 0 < a ∧ a ≤ 300000 ∧ Hid (a ≤ 1 ∨ a ≤ m) ∧ wv = .int .i64 (a : Int) ∧ Hid (InRk s a R) ∧ Hid (Own .i64 3 B wr rv (natL (hrL s a))) ∧ Hid (Own .i64 3 B wr ov (natL R)) ∧ Hid (Ext w wr)) (fun _ _ wv _ => m - (intOf wv).toNat)
  case atStart => exact ⟨1, R, by omega, by omega, .inl (Nat.le_refl _), rfl, K2, V2, O2, X2⟩
  case round =>
    clear K2 V2 O2 X2 R hz1 hz2 hmin
    obtain ⟨a, R, ha, ha3, HA, rfl, HK, HV, HO, HE⟩ := hrel
    have hsz := HE.out.size
    have HFa := hide' (HFN.out a R HK.out HA.out)
    by_cases hlt : a < m
    · have hlt' : (a : Int) < (m : Int) := by omega
      have HSEa := hide' (HSE.out u4 u0 a R wr HK.out HO.out.sl HV.out.sl)
      go_wp2_with fail
      refine HSEa.out.mono ?_
      rintro e w3 ⟨b, rfl, hb, rfl⟩
      have HBB := hide' hb
      clear hb HSEa
      cases b
      · have hst : min (a : Int) ((m : Int) - (a : Int)) = ((min a (m - a) : Nat) : Int) := by omega
        obtain ⟨t, HT⟩ : ∃ t, Hid (min a (m - a) = t) := ⟨_, rfl⟩
        have ht1 : t ≤ a := by rw [← HT.out]; omega
        have ht2 : t ≤ n := by rw [← HT.out]; omega
        have ht3 : 0 < t := by rw [← HT.out]; omega
        have ht4 : a + t ≤ m := by rw [← HT.out]; omega
        rw [HT.out] at hst
        have HC1 := hide' (HFO.out u4 t R w3 a HK.out ht2 HO.out.sl)
        go_wp2_with fail
        refine HC1.out.mono ?_
        rintro e w4 ⟨x4, rfl, ho, he⟩
        have S4 := hide' ho.sl
        have X4 := hide' (HE.out.trans he)
        have hz4 := X4.out.size
        have V4 := hide' (HV.out.ext he)
        clear ho he HC1 HO HV HE
        go_wp2_with fail
        refine (HNX.out _ _ a t R w4 HK.out ha ht1 ht2 S4.out V4.out.sl).mono ?_
        rintro e w5 ⟨x5, R5, rfl, hk, ho, he⟩
        have K5 := hide' hk
        have O5 := hide' (ho.low (Nat.le_trans hB hz4))
        have X5 := hide' (X4.out.trans he)
        have hz5 := X5.out.size
        have V5 := hide' (V4.out.ext he)
        clear ho he hk S4 V4 X4
        go_wp2_with fail
        refine (HRK.out _ _ a t R5 w5 K5.out ha ht1 ht2 O5.out.sl V5.out.sl).mono ?_
        rintro e w6 ⟨x6, rfl, ho, he⟩
        have V6 := hide' (ho.low (Nat.le_trans hB hz5))
        have O6 := hide' (O5.out.ext he)
        have X6 := hide' (X5.out.trans he)
        clear ho he O5 V5 X5 HFa HBB HA
        go_wp2
        go_roundw
        case rel => exact ⟨a + t, R5, by omega, by omega, .inr ht4, by go_num, K5, V6, O6, X6⟩
        case measure => simp [intOf] <;> omega
      · have HF2 := hide' (HFa.out (.inr (HBB.out rfl)))
        rw [HF2.out.2] at HV
        clear HFa HBB HA
        go_wp2
        go_ret2
        exact ⟨_, _, R, rfl, HF2.out.1, HO.out, HV.out, HE.out⟩
    · have d1 : decide ((a : Int) < (m : Int)) = false := by simp; omega
      have d2 : decide (a < m) = false := by simp; omega
      have HF2 := hide' (HFa.out (.inl (by omega)))
      rw [HF2.out.2] at HV
      clear HFa HA
      go_wp2
      go_ret2
      exact ⟨_, _, R, rfl, HF2.out.1, HO.out, HV.out, HE.out⟩
end Go.Proofs.YtlmbdafilboblaaGreat

/- Contracts of double.Ints and Bytes. -/
namespace Go.Proofs.YtlmbdafilboblaaGreat
set_option linter.unusedVariables false
set_option linter.unusedSimpArgs false
open Go.RowKit

set_option maxHeartbeats 1000000 in
theorem dbInts_any (v : Value) (s : List Int) (k : Int) (w : World) (hv : Sl .i64 w v s) (hlen : s.length ≤ 1000000) :
    Calls Tryz.prog 78 #[v, .int .i64 k] w fun e w' => ∃ u L c, e = .returned (.tuple #[u, .int .i64 c]) ∧ ResI s k L c ∧ Own .i64 3 w.heap.size w' u L ∧ Ext w w' := by
  have HV := hide' hv
  have HLEN := hide' hlen
  obtain ⟨a, c, rfl, _⟩ := hv
  by_cases h1 : 100000 < s.length
  · have d1 : (100000 : Int) < (s.length : Int) := by omega
    have HR : Hid (ResI s k [] 2) := .inl ⟨h1, rfl, rfl⟩
    clear h1
    go_enter Tryz.func78, Tryz.ntmps78
    go_wp2
    go_ret2
    exact ⟨_, [], 2, rfl, HR.out, Own.nil _ _ _ _, Ext.refl _⟩
  · have d1 : decide ((100000 : Int) < (s.length : Int)) = false := by simp; omega
    have HC := hide' (counts_any _ s k w HV.out hlen)
    have HL1 : Hid (s.length ≤ 100000) := by show _ ≤ _; omega
    clear h1
    cases hf : fitB s k
    · have HR : Hid (ResI s k [] 1) := .inr (.inl ⟨HL1.out, hf, rfl, rfl⟩)
      rw [hf] at HC
      clear hf
      go_enter Tryz.func78, Tryz.ntmps78
      go_wp2_with fail
      refine HC.out.mono ?_
      rintro e w1 ⟨s1, rfl, _, he⟩
      have X1 := hide' he
      clear he HC
      go_wp2
      go_ret2
      exact ⟨_, [], 1, rfl, HR.out, Own.nil _ _ _ _, X1.out⟩
    · have HF := hide' hf
      rw [hf] at HC
      obtain ⟨h0, hk, hgd⟩ := fitB_iff.1 hf
      obtain ⟨K, rfl⟩ := Int.eq_ofNat_of_zero_le h0
      have HCI : Hid (countsI s (K : Int) = natL (cntsI s K)) := by show _ = _; rw [countsI_yes hf, Int.toNat_natCast]
      rw [HCI.out] at HC
      have HGD := hide' hgd
      have hK : K ≤ 1048576 := by omega
      clear hf hgd h0
      go_enter Tryz.func78, Tryz.ntmps78
      go_wp2_with fail
      refine HC.out.mono ?_
      rintro e w1 ⟨s1, rfl, ho, he⟩
      have S1 := hide' ho.sl
      have X1 := hide' he
      have hz := he.size
      clear ho he HC
      go_wp2_with fail
      refine (ranksCnt_any _ s1 s K w1 (HV.out.ext X1.out) S1.out HGD.out hK (by have := HL1.out; omega)).mono ?_
      rintro e w2 ⟨u2, rfl, ho, he⟩
      have O2 := hide' (ho.low hz)
      have X2 := hide' (X1.out.trans he)
      have hz2 := X2.out.size
      clear ho he S1 X1
      go_wp2_with fail
      refine (widen_any u2 s s.length w.heap.size w2 (by omega) O2.out hz2 (by have := HL1.out; omega)).mono ?_
      rintro e w3 ⟨x, y, R, rfl, hR, ho, _, he⟩
      have O3 := hide' ho
      have X3 := hide' (X2.out.trans he)
      have HR : Hid (ResI s (K : Int) (natL R) 0) := .inr (.inr ⟨HL1.out, HF.out, rfl, R, hR.ord (Nat.le_refl _), rfl⟩)
      clear ho he hR
      go_wp2
      go_ret2
      exact ⟨_, _, 0, rfl, HR.out, O3.out, X3.out⟩

theorem dbBytes_any (v : Value) (zs : List Int) (w : World) (hv : Sl .u8 w v zs) (h8 : Bytes8 zs) (hlen : zs.length ≤ 1000000) :
    Calls Tryz.prog 60 #[v] w fun e w' => ∃ u L c, e = .returned (.tuple #[u, .int .i64 c]) ∧ ResI zs 256 L c ∧ Own .i64 3 w.heap.size w' u L ∧ Ext w w' := by
  have HV := hide' hv
  have HLEN := hide' hlen
  have C := hide' (dbNumbers_any v zs w hv h8 hlen)
  obtain ⟨a, c, rfl, _⟩ := hv
  by_cases h1 : 100000 < zs.length
  · have d1 : (100000 : Int) < (zs.length : Int) := by omega
    have HR : Hid (ResI zs 256 [] 2) := .inl ⟨h1, rfl, rfl⟩
    clear h1 C
    go_enter Tryz.func60, Tryz.ntmps60
    go_wp2
    go_ret2
    exact ⟨_, [], 2, rfl, HR.out, Own.nil _ _ _ _, Ext.refl _⟩
  · have d1 : decide ((100000 : Int) < (zs.length : Int)) = false := by simp; omega
    clear h1 h8
    go_enter Tryz.func60, Tryz.ntmps60
    go_wp2_with fail
    refine C.out.mono ?_
    rintro e w1 ⟨u, rfl, ho, he⟩
    have S1 := hide' ho.sl
    have X1 := hide' he
    have hz := he.size
    clear ho he C
    go_wp2_with fail
    refine (dbInts_any _ zs 256 w1 S1.out HLEN.out).mono ?_
    rintro e w2 ⟨u2, L, c2, rfl, hR, ho, he⟩
    have O2 := hide' (ho.low hz)
    have X2 := hide' (X1.out.trans he)
    have HR := hide' hR
    clear ho he hR
    go_wp2
    go_ret2
    exact ⟨_, _, _, rfl, HR.out, O2.out, X2.out⟩
end Go.Proofs.YtlmbdafilboblaaGreat

/- Where each stands, twice; a row with one number another. Plain numbers, no conditions. -/
namespace Go.Proofs.YtlmbdafilboblaaGreat
set_option linter.unusedVariables false
set_option linter.unusedSimpArgs false

theorem invI_back {l : List Int} (h : ordB l = true) {p : Nat} (hp : p < l.length) : ∃ q : Nat, q < l.length ∧ (invI l).getD p 0 = (q : Int) ∧ l.getD q 0 = (p : Int) := by
  have hm : (p : Int) ∈ l := (ordB_mem h).2 ⟨by omega, by omega⟩
  obtain ⟨q, hq, e⟩ := mem_getI hm
  exact ⟨q, hq, invI_at h hq e, e⟩
theorem ordB_inv {l : List Int} (h : ordB l = true) : ordB (invI l) = true := by
  have hl := invI_len h
  rw [ordB_iff]
  have hnd : (invI l).Nodup := by
    rw [List.Nodup, List.pairwise_iff_getElem]
    intro i j hi hj hij e
    rw [hl] at hi hj
    obtain ⟨q, _, e1, e2⟩ := invI_back h hi
    obtain ⟨r, _, e3, e4⟩ := invI_back h hj
    have e5 : (invI l).getD i 0 = (invI l).getD j 0 := by
      rw [List.getD_eq_getElem?_getD, List.getD_eq_getElem?_getD, List.getElem?_eq_getElem (by rw [hl]; exact hi), List.getElem?_eq_getElem (by rw [hl]; exact hj), e]
    rw [e1, e3] at e5
    have : q = r := by omega
    subst this
    rw [e2] at e4
    omega
  refine nodup_perm hnd (fun z hz => natL_mem.2 ?_) (by rw [natL_len, List.length_range]; exact Nat.le_refl _)
  obtain ⟨p, hp, rfl⟩ := mem_getI hz
  rw [hl] at hp
  obtain ⟨q, hq, e1, _⟩ := invI_back h hp
  exact ⟨q, List.mem_range.2 (by rw [hl]; exact hq), e1⟩
theorem inv_twice {l : List Int} (h : ordB l = true) : invI (invI l) = l := by
  have hl := invI_len h
  refine (invI_eq (ordB_inv h) hl.symm fun i p hi hp => ?_).symm
  rw [hl] at hi
  obtain ⟨q, _, e1, e2⟩ := invI_back h hi
  rw [hp] at e1
  have : p = q := by omega
  rw [this, e2]
theorem setI_self {l : List Int} {i : Nat} (hi : i < l.length) : l.set i (l.getD i 0) = l := by
  refine List.ext_getElem (by rw [List.length_set]) fun j h1 h2 => ?_
  rw [List.getElem_set]
  split
  · rename_i e
    subst e
    rw [List.getD_eq_getElem?_getD, List.getElem?_eq_getElem h2]
    rfl
  · rfl
theorem ordB_set {l : List Int} (h : ordB l = true) {i : Nat} (hi : i < l.length) (v : Int) : ordB (l.set i v) = decide (v = l.getD i 0) := by
  by_cases e : v = l.getD i 0
  · rw [decide_eq_true e, e, setI_self hi, h]
  · rw [decide_eq_false e, Bool.eq_false_iff]
    intro ho
    have hm : v ∈ l.set i v := List.mem_iff_getElem.2 ⟨i, by rw [List.length_set]; exact hi, by simp⟩
    have h1 := (ordB_mem ho).1 hm
    rw [List.length_set] at h1
    obtain ⟨j, hj, ej⟩ := mem_getI ((ordB_mem h).2 h1)
    have hij : i ≠ j := fun e2 => by
      subst e2
      exact e ej.symm
    have := nodup_getI (ordB_nodup ho) (i := i) (j := j) (by rw [List.length_set]; exact hi) (by rw [List.length_set]; exact hj) (by rw [setI_same hi, setI_other hij, ej])
    exact hij this
end Go.Proofs.YtlmbdafilboblaaGreat

/- How much neighbours of a row have alike, told place by place of the text. Plain numbers, no conditions. -/
namespace Go.Proofs.YtlmbdafilboblaaGreat
set_option linter.unusedVariables false
set_option linter.unusedSimpArgs false

/-- How much two endings have alike. -/
def comN (s : List Int) (i j : Nat) : Nat := comI (s.drop i) (s.drop j)
theorem comN_swap (s : List Int) (i j : Nat) : comN s i j = comN s j i := comI_swap _ _
theorem comN_le (s : List Int) (i j : Nat) : comN s i j ≤ s.length := by
  have := (comI_le (s.drop i) (s.drop j)).1
  rw [List.length_drop] at this
  unfold comN
  omega
theorem comL_nat {s : List Int} {i j : Nat} (hi : i ≤ s.length) (hj : j ≤ s.length) : comL s i j = (comN s i j : Int) := comL_in hi hj
/-- The first of what they have alike away, one less is alike. -/
theorem comN_next {s : List Int} {i j : Nat} (h : 0 < comN s i j) : comN s i j = comN s (i + 1) (j + 1) + 1 := by
  unfold comN at *
  by_cases h1 : i < s.length
  · by_cases h2 : j < s.length
    · rw [drop_getD h1, drop_getD h2, comI] at h ⊢
      by_cases e : s.getD i 0 = s.getD j 0
      · rw [if_pos e]
      · rw [if_neg e] at h
        omega
    · rw [List.drop_of_length_le (l := s) (i := j) (by omega), comI_nil_right] at h
      omega
  · rw [List.drop_of_length_le (l := s) (i := i) (by omega), comI_nil_left] at h
    omega

/-- Of each place how much it has alike with the one ahead of it. -/
def lcpN (s : List Int) (A : List Nat) : List Nat := (List.range A.length).map fun i => if i = 0 then 0 else comN s (A.getD (i - 1) 0) (A.getD i 0)
theorem lcpN_len (s : List Int) (A : List Nat) : (lcpN s A).length = A.length := by simp [lcpN]
theorem lcpN_zero {s : List Int} {A : List Nat} : (lcpN s A).getD 0 0 = 0 := by
  by_cases h : 0 < A.length
  · unfold lcpN
    rw [mapI_at _ _ h, if_pos rfl]
  · rw [List.getD_eq_getElem?_getD, List.getElem?_eq_none (by rw [lcpN_len]; omega)]; rfl
theorem lcpN_at {s : List Int} {A : List Nat} {i : Nat} (h0 : 0 < i) (h : i < A.length) : (lcpN s A).getD i 0 = comN s (A.getD (i - 1) 0) (A.getD i 0) := by
  unfold lcpN
  rw [mapI_at _ _ h, if_neg (by omega)]
def lcpOk (s a : List Int) : Bool := decide (a.length = s.length) && ordB a
def lcpL (s a : List Int) : List Int := if lcpOk s a = true then natL (lcpN s (toN a)) else []
theorem lcpOk_long {s a : List Int} (h : a.length ≠ s.length) : lcpOk s a = false := by simp [lcpOk, h]
theorem lcpOk_no {s a : List Int} (h : ordB a = false) : lcpOk s a = false := by simp [lcpOk, h]
theorem lcpOk_yes {s a : List Int} (h : a.length = s.length) (h' : ordB a = true) : lcpOk s a = true := by simp [lcpOk, h, h']
theorem lcpL_no {s a : List Int} (h : lcpOk s a = false) : lcpL s a = [] := by unfold lcpL; rw [h]; rfl
theorem lcpL_yes {s a : List Int} (h : lcpOk s a = true) : lcpL s a = natL (lcpN s (toN a)) := by unfold lcpL; rw [if_pos h]
theorem lcpL_le (s a : List Int) : (lcpL s a).length ≤ a.length := by
  cases h : lcpOk s a
  · rw [lcpL_no h]; exact Nat.zero_le _
  · rw [lcpL_yes h, natL_len, lcpN_len, toN_len]; exact Nat.le_refl _

/-- An order as naturals. -/
theorem ordB_cast {a : List Int} (h : ordB a = true) : natL (toN a) = a ∧ (toN a).Perm (List.range a.length) := by
  have h1 : natL (toN a) = a := natL_toN (n := a.length) (goodI_iff.2 fun z hz => (ordB_mem h).1 hz)
  refine ⟨h1, ?_⟩
  have h2 := (ordB_iff.1 h).map Int.toNat
  have h3 : (natL (List.range a.length)).map Int.toNat = List.range a.length := toN_nat _
  rw [h3] at h2
  exact h2
/-- Where each stands, as naturals. -/
structure InvOf (A B : List Nat) : Prop where
  len : B.length = A.length
  lt : ∀ i, i < A.length → B.getD i 0 < A.length
  back : ∀ i, i < A.length → A.getD (B.getD i 0) 0 = i
  on : ∀ p, p < A.length → B.getD (A.getD p 0) 0 = p
theorem inv_nat {A : List Nat} (h : A.Perm (List.range A.length)) : invI (natL A) = natL (toN (invI (natL A))) ∧ InvOf A (toN (invI (natL A))) := by
  have ho := ordB_nat h
  have hl := invI_len ho
  rw [natL_len] at hl
  have hb : ∀ p, p < A.length → ∃ q : Nat, q < A.length ∧ (invI (natL A)).getD p 0 = (q : Int) ∧ A.getD q 0 = p := fun p hp => by
    obtain ⟨q, h1, h2, h3⟩ := invI_back ho (p := p) (by rw [natL_len]; exact hp)
    rw [natL_len] at h1
    rw [natL_at] at h3
    exact ⟨q, h1, h2, by omega⟩
  have hat : ∀ p, p < A.length → (toN (invI (natL A))).getD p 0 < A.length ∧ A.getD ((toN (invI (natL A))).getD p 0) 0 = p := fun p hp => by
    obtain ⟨q, h1, h2, h3⟩ := hb p hp
    rw [toN_at, h2, Int.toNat_natCast]
    exact ⟨h1, h3⟩
  refine ⟨(natL_toN (n := A.length) (goodI_of fun p hp => ?_)).symm, ⟨by rw [toN_len, hl], fun i hi => (hat i hi).1, fun i hi => (hat i hi).2, fun p hp => ?_⟩⟩
  · rw [hl] at hp
    obtain ⟨q, h1, h2, _⟩ := hb p hp
    omega
  · have hm := List.mem_range.1 (h.mem_iff.1 (getN_mem hp))
    have h2 := hat _ hm
    exact nodup_getN (h.nodup_iff.2 List.nodup_range) h2.1 hp h2.2
theorem perm_lt {A : List Nat} (h : A.Perm (List.range A.length)) {p : Nat} (hp : p < A.length) : A.getD p 0 < A.length := List.mem_range.1 (h.mem_iff.1 (getN_mem hp))

/-- What is known of what neighbours have alike once all places of the text ahead of i are told. -/
structure Kas (s : List Int) (A R : List Nat) (i : Nat) : Prop where
  len : R.length = A.length
  zero : R.getD 0 0 = 0
  at' : ∀ q, 0 < q → q < A.length → A.getD q 0 < i → R.getD q 0 = comN s (A.getD (q - 1) 0) (A.getD q 0)
theorem Kas.start (s : List Int) (A : List Nat) : Kas s A (List.replicate A.length 0) 0 :=
  ⟨List.length_replicate, by cases A <;> simp [List.getD, List.replicate], fun q _ _ h => by omega⟩
theorem Kas.skip {s : List Int} {A B R : List Nat} {i : Nat} (h : Kas s A R i) (hB : InvOf A B) (h0 : B.getD i 0 = 0) : Kas s A R (i + 1) := by
  refine ⟨h.len, h.zero, fun q h1 h2 h3 => ?_⟩
  by_cases e : A.getD q 0 = i
  · have := hB.on q h2
    rw [e, h0] at this
    omega
  · exact h.at' q h1 h2 (by omega)
theorem Kas.next {s : List Int} {A B R : List Nat} {i p c : Nat} (h : Kas s A R i) (hB : InvOf A B) (hi : i < A.length) (hp : B.getD i 0 = p) (h0 : 0 < p) (hc : c = comN s i (A.getD (p - 1) 0)) : Kas s A (R.set p c) (i + 1) := by
  have hlt := hB.lt i hi
  rw [hp] at hlt
  have hback := hB.back i hi
  rw [hp] at hback
  refine ⟨by rw [List.length_set]; exact h.len, by rw [set_other (by omega)]; exact h.zero, fun q h1 h2 h3 => ?_⟩
  by_cases e : q = p
  · subst e
    rw [set_same (by rw [h.len]; exact h2), hc, hback, comN_swap]
  · rw [set_other (fun e2 => e e2.symm)]
    refine h.at' q h1 h2 ?_
    have : A.getD q 0 ≠ i := fun e2 => by
      have h4 := hB.on q h2
      rw [e2, hp] at h4
      exact e h4.symm
    omega
theorem Kas.done {s : List Int} {A R : List Nat} (h : Kas s A R A.length) (hA : A.Perm (List.range A.length)) : R = lcpN s A := by
  refine natL_ext (by rw [h.len, lcpN_len]) fun q hq => ?_
  rw [h.len] at hq
  by_cases h0 : q = 0
  · subst h0
    rw [h.zero, lcpN_zero]
  · rw [lcpN_at (by omega) hq, h.at' q (by omega) hq (perm_lt hA hq)]
/-- What the document's own loop keeps: all places up to i are told. -/
structure LcpTo (s : List Int) (A R : List Nat) (i : Nat) : Prop where
  len : R.length = A.length
  at' : ∀ q, q < i → q < A.length → R.getD q 0 = (lcpN s A).getD q 0
theorem LcpTo.start (s : List Int) (A : List Nat) : LcpTo s A (List.replicate A.length 0) 1 :=
  ⟨List.length_replicate, fun q hq h => by
    have : q = 0 := by omega
    subst this
    rw [lcpN_zero]
    simp [List.getD, h]⟩
theorem LcpTo.next {s : List Int} {A R : List Nat} {i c : Nat} (h : LcpTo s A R i) (h0 : 0 < i) (hi : i < A.length) (hc : c = comN s (A.getD (i - 1) 0) (A.getD i 0)) : LcpTo s A (R.set i c) (i + 1) := by
  refine ⟨by rw [List.length_set]; exact h.len, fun q h1 h2 => ?_⟩
  by_cases e : q = i
  · subst e
    rw [set_same (by rw [h.len]; exact h2), hc, lcpN_at h0 h2]
  · rw [set_other (fun e2 => e e2.symm)]
    exact h.at' q (by omega) h2
theorem LcpTo.done {s : List Int} {A R : List Nat} {i : Nat} (h : LcpTo s A R i) (hi : A.length ≤ i) : R = lcpN s A :=
  natL_ext (by rw [h.len, lcpN_len]) fun q hq => by rw [h.len] at hq; exact h.at' q (by omega) hq
end Go.Proofs.YtlmbdafilboblaaGreat

/- What stands ahead of each place, and how much both have alike; in order it falls by 1 at most. Plain numbers, no conditions. -/
namespace Go.Proofs.YtlmbdafilboblaaGreat
set_option linter.unusedVariables false
set_option linter.unusedSimpArgs false

def ahL (A B : List Nat) : List Int := (List.range A.length).map fun x => if B.getD x 0 = 0 then (-1 : Int) else (A.getD (B.getD x 0 - 1) 0 : Int)
def plN (s : List Int) (A B : List Nat) : List Nat := (List.range A.length).map fun x => if B.getD x 0 = 0 then 0 else comN s (A.getD (B.getD x 0 - 1) 0) x
def ahI (a : List Int) : List Int := if ordB a = true then ahL (toN a) (toN (invI a)) else []
def plI (s a : List Int) : List Int := if lcpOk s a = true then natL (plN s (toN a) (toN (invI a))) else []
theorem ahL_len (A B : List Nat) : (ahL A B).length = A.length := by simp [ahL]
theorem plN_len (s : List Int) (A B : List Nat) : (plN s A B).length = A.length := by simp [plN]
theorem ahL_at {A B : List Nat} {x : Nat} (h : x < A.length) : (ahL A B).getD x 0 = if B.getD x 0 = 0 then (-1 : Int) else (A.getD (B.getD x 0 - 1) 0 : Int) := mapI_at _ _ h
theorem plN_at {s : List Int} {A B : List Nat} {x : Nat} (h : x < A.length) : (plN s A B).getD x 0 = if B.getD x 0 = 0 then 0 else comN s (A.getD (B.getD x 0 - 1) 0) x := mapI_at _ _ h
theorem ahI_no {a : List Int} (h : ordB a = false) : ahI a = [] := by unfold ahI; rw [h]; rfl
theorem plI_no {s a : List Int} (h : lcpOk s a = false) : plI s a = [] := by unfold plI; rw [h]; rfl
theorem ahI_le (a : List Int) : (ahI a).length ≤ a.length := by
  unfold ahI
  split
  · rw [ahL_len, toN_len]; exact Nat.le_refl _
  · exact Nat.zero_le _
theorem plI_le (s a : List Int) : (plI s a).length ≤ a.length := by
  unfold plI
  split
  · rw [natL_len, plN_len, toN_len]; exact Nat.le_refl _
  · exact Nat.zero_le _
theorem ahI_nat {A : List Nat} (h : A.Perm (List.range A.length)) : ahI (natL A) = ahL A (toN (invI (natL A))) := by
  unfold ahI
  rw [if_pos (ordB_nat h), toN_nat]
theorem plI_nat {s : List Int} {A : List Nat} (h : A.Perm (List.range A.length)) (hl : A.length = s.length) : plI s (natL A) = natL (plN s A (toN (invI (natL A)))) := by
  unfold plI
  rw [if_pos (lcpOk_yes (by rw [natL_len, hl]) (ordB_nat h)), toN_nat]

/-- What is told once the first i of a row are looked at. -/
structure AhTo (A : List Nat) (R : List Int) (i : Nat) : Prop where
  len : R.length = A.length
  at' : ∀ q, q < i → q < A.length → R.getD (A.getD q 0) 0 = if q = 0 then (-1 : Int) else (A.getD (q - 1) 0 : Int)
theorem AhTo.start (A : List Nat) : AhTo A (List.replicate A.length 0) 0 := ⟨List.length_replicate, fun q h => by omega⟩
theorem AhTo.next {A : List Nat} {R : List Int} {i : Nat} {z : Int} (h : AhTo A R i) (hA : A.Perm (List.range A.length)) (hi : i < A.length) (hz : z = if i = 0 then (-1 : Int) else (A.getD (i - 1) 0 : Int)) : AhTo A (R.set (A.getD i 0) z) (i + 1) := by
  have hn : A.Nodup := hA.nodup_iff.2 List.nodup_range
  refine ⟨by rw [List.length_set]; exact h.len, fun q h1 h2 => ?_⟩
  by_cases e : q = i
  · subst e
    rw [setI_same (by rw [h.len]; exact perm_lt hA h2), hz]
  · rw [setI_other fun e2 => e (nodup_getN hn h2 hi e2.symm)]
    exact h.at' q (by omega) h2
theorem AhTo.done {A B : List Nat} {R : List Int} (h : AhTo A R A.length) (hB : InvOf A B) : R = ahL A B := by
  refine rowI_ext (by rw [h.len, ahL_len]) fun x hx => ?_
  rw [h.len] at hx
  have h1 := h.at' _ (hB.lt x hx) (hB.lt x hx)
  rw [hB.back x hx] at h1
  rw [ahL_at hx, h1]

/-- Between two endings more is alike. -/
theorem com_sand : ∀ (x y z : List Int), cmpI x y ≤ 0 → cmpI y z ≤ 0 → comI x z ≤ comI y z
  | [], y, z, _, _ => by rw [comI_nil_left]; omega
  | a :: x, [], z, h, _ => by simp [cmpI] at h
  | a :: x, b :: y, [], _, _ => by rw [comI_nil_right]; omega
  | a :: x, b :: y, c :: z, h1, h2 => by
    simp only [cmpI] at h1 h2
    simp only [comI]
    by_cases e : a = c
    · subst e
      by_cases g : a < b
      · rw [if_neg (by omega), if_pos g] at h2
        omega
      · by_cases g2 : b < a
        · rw [if_neg g, if_pos g2] at h1
          omega
        · have e2 : b = a := by omega
          subst e2
          rw [if_neg (by omega), if_neg (by omega)] at h1 h2
          rw [if_pos rfl, if_pos rfl]
          have := com_sand x y z h1 h2
          omega
    · rw [if_neg e]
      omega
/-- In order, from place to place it falls by 1 at most. -/
theorem pl_falls {s : List Int} {A B : List Nat} (h : InOrd s A) (hB : InvOf A B) {i : Nat} (h0 : 0 < i) (hi : i < A.length) : (plN s A B).getD (i - 1) 0 ≤ (plN s A B).getD i 0 + 1 := by
  have hl := h.len
  have hA : A.Perm (List.range A.length) := by rw [hl]; exact h.1
  rw [plN_at (by omega), plN_at hi]
  by_cases e0 : B.getD (i - 1) 0 = 0
  · rw [if_pos e0]; omega
  · rw [if_neg e0]
    obtain ⟨b, hb⟩ : ∃ b, B.getD (i - 1) 0 = b + 1 := ⟨B.getD (i - 1) 0 - 1, by omega⟩
    have hbl := hB.lt (i - 1) (by omega)
    have hbk := hB.back (i - 1) (by omega)
    rw [hb] at hbl hbk ⊢
    rw [Nat.add_sub_cancel]
    obtain ⟨y, hy⟩ : ∃ y, A.getD b 0 = y := ⟨_, rfl⟩
    have hyl := perm_lt hA (p := b) (by omega)
    rw [hy] at hyl ⊢
    have hlt : ltE s y (i - 1) := by
      have := pairN_at h.2 (show b < b + 1 by omega) hbl
      rwa [hy, hbk] at this
    rcases Nat.lt_or_ge (comN s y (i - 1)) 2 with g | g
    · omega
    · have e1 := comN_next (s := s) (i := y) (j := i - 1) (by omega)
      rw [Nat.sub_add_cancel h0] at e1
      have hhead : s.getD y 0 = s.getD (i - 1) 0 := by
        apply Classical.byContradiction
        intro hne
        have : comN s y (i - 1) = 0 := by
          unfold comN
          rw [drop_getD (show y < s.length by omega), drop_getD (show i - 1 < s.length by omega), comI, if_neg hne]
        omega
      have hlt2 := (ltE_same (show y < s.length by omega) (show i - 1 < s.length by omega) hhead).1 hlt
      rw [Nat.sub_add_cancel h0] at hlt2
      have hy1 : y + 1 < s.length := by
        apply Classical.byContradiction
        intro hne
        have : comN s (y + 1) i = 0 := by
          unfold comN
          rw [List.drop_of_length_le (l := s) (i := y + 1) (by omega), comI_nil_left]
        omega
      have hord : B.getD (y + 1) 0 < B.getD i 0 := by
        rcases Nat.lt_trichotomy (B.getD (y + 1) 0) (B.getD i 0) with g2 | g2 | g2
        · exact g2
        · have e2 := hB.back (y + 1) (by omega)
          rw [g2, hB.back i hi] at e2
          rw [← e2] at hlt2
          exact absurd hlt2 ltE_irrefl
        · have h3 := pairN_at h.2 g2 (hB.lt _ (by omega))
          rw [hB.back i hi, hB.back (y + 1) (by omega)] at h3
          exact absurd (ltE_trans hlt2 h3) ltE_irrefl
      rw [if_neg (by omega)]
      obtain ⟨z, hz⟩ : ∃ z, A.getD (B.getD i 0 - 1) 0 = z := ⟨_, rfl⟩
      rw [hz]
      have hil := hB.lt i hi
      have hzi : ltE s z i := by
        have := pairN_at h.2 (show B.getD i 0 - 1 < B.getD i 0 by omega) hil
        rwa [hz, hB.back i hi] at this
      have hyz : cmpI (s.drop (y + 1)) (s.drop z) ≤ 0 := by
        rcases Nat.lt_or_ge (B.getD (y + 1) 0) (B.getD i 0 - 1) with g2 | g2
        · have h3 := pairN_at h.2 g2 (by omega)
          rw [hB.back (y + 1) (by omega), hz] at h3
          exact Int.le_of_lt h3
        · have e3 : B.getD (y + 1) 0 = B.getD i 0 - 1 := by omega
          have e4 := hB.back (y + 1) (by omega)
          rw [e3, hz] at e4
          rw [e4, cmpI_self]
          omega
      have := com_sand _ _ _ hyz (Int.le_of_lt hzi)
      unfold comN at e1 ⊢
      omega
/-- Each neighbour's number, by the place. -/
theorem lcp_pl {s : List Int} {A B : List Nat} (hA : A.Perm (List.range A.length)) (hB : InvOf A B) {i : Nat} (hi : i < A.length) : (lcpN s A).getD i 0 = (plN s A B).getD (A.getD i 0) 0 := by
  rw [plN_at (perm_lt hA hi), hB.on i hi]
  by_cases h0 : i = 0
  · subst h0
    rw [lcpN_zero, if_pos rfl]
  · rw [lcpN_at (by omega) hi, if_neg h0]
/-- What the walk by places keeps. -/
structure PlTo (s : List Int) (A B R : List Nat) (i : Nat) : Prop where
  len : R.length = A.length
  at' : ∀ q, q < i → q < A.length → R.getD q 0 = (plN s A B).getD q 0
  rest : ∀ q, i ≤ q → R.getD q 0 = 0
theorem PlTo.start (s : List Int) (A B : List Nat) : PlTo s A B (List.replicate A.length 0) 0 :=
  ⟨List.length_replicate, (fun q h => by omega), fun q _ => by
    simp only [List.getD_eq_getElem?_getD, List.getElem?_replicate]
    split <;> rfl⟩
theorem PlTo.next {s : List Int} {A B R : List Nat} {i c : Nat} (h : PlTo s A B R i) (hi : i < A.length) (hc : c = (plN s A B).getD i 0) : PlTo s A B (R.set i c) (i + 1) := by
  refine ⟨by rw [List.length_set]; exact h.len, fun q h1 h2 => ?_, fun q h1 => ?_⟩
  · by_cases e : q = i
    · subst e
      rw [set_same (by rw [h.len]; exact h2), hc]
    · rw [set_other fun e2 => e e2.symm]
      exact h.at' q (by omega) h2
  · rw [set_other (by omega)]
    exact h.rest q (by omega)
theorem PlTo.skip {s : List Int} {A B R : List Nat} {i : Nat} (h : PlTo s A B R i) (hi : i < A.length) (hc : (plN s A B).getD i 0 = 0) : PlTo s A B R (i + 1) := by
  refine ⟨h.len, fun q h1 h2 => ?_, fun q h1 => h.rest q (by omega)⟩
  by_cases e : q = i
  · subst e
    rw [hc]
    exact h.rest q (Nat.le_refl _)
  · exact h.at' q (by omega) h2
theorem PlTo.done {s : List Int} {A B R : List Nat} (h : PlTo s A B R A.length) : R = plN s A B :=
  natL_ext (by rw [h.len, plN_len]) fun q hq => by rw [h.len] at hq; exact h.at' q hq hq
end Go.Proofs.YtlmbdafilboblaaGreat

/- Contract of rank.Inverse. -/
namespace Go.Proofs.YtlmbdafilboblaaGreat
set_option linter.unusedVariables false
set_option linter.unusedSimpArgs false
open Go.RowKit

theorem Inv.old {l bs : List Int} {i p : Nat} (h : Inv l i bs) (hi : i < l.length) (hp : p < l.length) (hb : bs.getD p 0 ≠ -1) : 0 ≤ bs.getD p 0 := by
  by_cases hin : (p : Int) ∈ l.take i
  · obtain ⟨j, hj, e⟩ := mem_getI hin
    rw [List.length_take] at hj
    have e2 : (l.take i).getD j 0 = l.getD j 0 := by
      simp only [List.getD_eq_getElem?_getD, List.getElem?_take]
      rw [if_pos (by omega)]
    rw [e2] at e
    have := h.at' j p (by omega) (by omega) e
    omega
  · exact absurd (h.none p hp hin) hb

set_option maxHeartbeats 1000000 in
theorem rkInv_any (v : Value) (l : List Int) (w : World) (hv : Sl .i64 w v l) (hlen : l.length ≤ 1000000) :
    Calls Tryz.prog 43 #[v] w fun e w' => ∃ s, e = .returned (.tuple #[s, .bool (ordB l)]) ∧ Own .i64 3 w.heap.size w' s (invI l) ∧ Ext w w' := by
  have HV := hide' hv
  obtain ⟨a, c, rfl, _⟩ := hv
  obtain ⟨_, _, _, hcv⟩ := HV.out.int
  have CV := hide' hcv
  obtain ⟨n, HN⟩ : ∃ n, Hid (l.length = n) := ⟨_, rfl⟩
  rw [HN.out] at CV hlen ⊢
  clear hcv HV
  obtain ⟨w1, hmk, ho, he⟩ := make_intsB w n (by omega)
  have HO := hide' ho
  have HE := hide' he
  clear ho he
  go_enter Tryz.func43, Tryz.ntmps43
  go_wp2
  clear hmk
  go_loopw [5, 13] (fun pi vi wr => ∃ (i : Nat) (bs : List Int), i ≤ n ∧ vi = .int .i64 i ∧ Hid (bs.length = n) ∧ Hid (∀ j, j < i → bs.getD j 0 = -1) ∧
    Hid (Own .i64 3 w.heap.size wr (.slice (some ⟨w.heap.size, 0, none⟩) n n) bs) ∧ Hid (Ext w wr)) (fun _ vi _ => n - (intOf vi).toNat)
  case atStart => exact ⟨0, List.replicate n 0, Nat.zero_le _, rfl, List.length_replicate, (fun j hj => by omega), HO, HE⟩
  case round =>
    clear HO HE
    obtain ⟨i, bs, hi, rfl, HL, HB, HO, HE⟩ := hrel
    by_cases hlt : i < n
    · have hlt' : (i : Int) < n := by omega
      have hfz := HO.out.frozen HL.out i
      have hci := HO.out.cell HL.out i hlt
      have HO2 := hide' (HO.out.store HL.out i (-1))
      go_wp2
      go_roundw
      case rel =>
        refine ⟨i + 1, bs.set i (-1), by omega, by go_num, (show _ = _ by rw [List.length_set]; exact HL.out), fun j hj => ?_, HO2, Ext.but HE.out (Nat.le_refl _) (but_set _ _ _ _)⟩
        by_cases hji : j = i
        · subst hji; rw [setI_same (by rw [HL.out]; exact hlt)]
        · rw [setI_other (by omega), HB.out j (by omega)]
      case measure => simp [intOf]; omega
    · have hlt' : decide ((i : Int) < n) = false := by simp; omega
      have hin : n = i := by omega
      have HI0 : Hid (Inv l 0 bs) := Inv.start (by rw [HL.out, HN.out]) fun x hx => HB.out x (by rw [HN.out] at hx; omega)
      clear HB
      subst hin
      go_wp2
      go_loopw [6, 7, 22] (fun pt pv vi wq => ∃ (t : Nat) (cs : List Int), t ≤ n ∧ vi = .int .i64 t ∧ Hid (cs.length = n) ∧ Hid (Inv l t cs) ∧
        Hid (Own .i64 3 w.heap.size wq (.slice (some ⟨w.heap.size, 0, none⟩) n n) cs) ∧ Hid (Ext w wq)) (fun _ _ vi _ => n - (intOf vi).toNat)
      case atStart => exact ⟨0, bs, Nat.zero_le _, rfl, HL, HI0, HO, HE⟩
      case round =>
        clear HO HE HL HI0 hlt hlt' hi
        obtain ⟨t, cs, ht, rfl, HL, HI, HO, HE⟩ := hrel
        by_cases hlt : t < n
        · have hlt' : (t : Int) < n := by omega
          obtain ⟨g1, o1, rfl, k1⟩ := CV.out (by omega)
          have c1 := HE.out.cellOf (k1 t hlt)
          clear k1
          have HBAD : Hid (∀ z, l.getD t 0 = z → (z < 0 ∨ (n : Int) ≤ z ∨ 0 ≤ cs.getD z.toNat 0) → ordB l = false ∧ invI l = []) := fun z hz h => HI.out.bad (by rw [HN.out]; exact hlt) (by rw [hz, HN.out]; exact h)
          have HNX : Hid (∀ p : Nat, l.getD t 0 = (p : Int) → p < n → cs.getD p 0 < 0 → Inv l (t + 1) (cs.set p (t : Int))) := fun p h1 h2 h3 => HI.out.next (by rw [HN.out]; exact hlt) h1 (by rw [HN.out]; exact h2) h3
          have HOLD : Hid (∀ p : Nat, p < n → cs.getD p 0 ≠ -1 → 0 ≤ cs.getD p 0) := fun p h1 h2 => HI.out.old (by rw [HN.out]; exact hlt) (by rw [HN.out]; exact h1) h2
          obtain ⟨z, HZ⟩ : ∃ p, Hid (l.getD t 0 = p) := ⟨_, rfl⟩
          rw [HZ.out] at c1
          by_cases h0 : z < 0
          · have HB := hide' (HBAD.out z HZ.out (.inl h0))
            go_wp2
            go_ret2
            rw [HB.out.1, HB.out.2]
            exact ⟨_, rfl, Own.nil _ _ _ _, HE.out⟩
          · have e0 : decide (z < 0) = false := by simp; omega
            by_cases h1 : (n : Int) ≤ z
            · have HB := hide' (HBAD.out z HZ.out (.inr (.inl h1)))
              go_wp2
              go_ret2
              rw [HB.out.1, HB.out.2]
              exact ⟨_, rfl, Own.nil _ _ _ _, HE.out⟩
            · have e1 : decide ((n : Int) ≤ z) = false := by simp; omega
              obtain ⟨p, rfl⟩ := Int.eq_ofNat_of_zero_le (show 0 ≤ z by omega)
              have hp : p < n := by omega
              have hp' : (p : Int) < n := by omega
              have e2 : decide (n ≤ p) = false := by simp; omega
              have hci := HO.out.cell HL.out p hp
              clear h0 h1
              have HY2 := hide' (HOLD.out p hp)
              obtain ⟨y, HY⟩ : ∃ x, Hid (cs.getD p 0 = x) := ⟨_, rfl⟩
              rw [HY.out] at hci HY2
              by_cases hy : y = -1
              · subst hy
                have HM2 := hide' (HNX.out p HZ.out hp (by rw [HY.out]; omega))
                have hfz := HO.out.frozen HL.out p
                have HO2 := hide' (HO.out.store HL.out p (t : Int))
                go_wp2
                go_roundw
                case rel => exact ⟨t + 1, cs.set p (t : Int), by omega, by go_num, (show _ = _ by rw [List.length_set]; exact HL.out), HM2, HO2, Ext.but HE.out (Nat.le_refl _) (but_set _ _ _ _)⟩
                case measure => simp [intOf] <;> omega
              · have HB := hide' (HBAD.out p HZ.out (.inr (.inr (by rw [Int.toNat_natCast, HY.out]; exact HY2.out hy))))
                have e3 : (y == -1) = false := by simpa using hy
                go_wp2
                go_ret2
                rw [HB.out.1, HB.out.2]
                exact ⟨_, rfl, Own.nil _ _ _ _, HE.out⟩
        · have hlt' : decide ((t : Int) < n) = false := by simp; omega
          have htl : n = t := by omega
          have HB := hide' ((show Inv l l.length cs by rw [HN.out, htl]; exact HI.out).done)
          go_wp2
          go_ret2
          rw [HB.out.1, HB.out.2]
          exact ⟨_, rfl, HO.out, HE.out⟩
end Go.Proofs.YtlmbdafilboblaaGreat

/- Contract of rank.Is. -/
namespace Go.Proofs.YtlmbdafilboblaaGreat
set_option linter.unusedVariables false
set_option linter.unusedSimpArgs false
open Go.RowKit

theorem rkIs_any (v : Value) (l : List Int) (w : World) (hv : Sl .i64 w v l) (hlen : l.length ≤ 1000000) :
    Calls Tryz.prog 29 #[v] w fun e w' => e = .returned (.bool (ordB l)) ∧ Ext w w' := by
  have C := hide' (rkInv_any v l w hv hlen)
  clear hv hlen
  go_enter Tryz.func29, Tryz.ntmps29
  go_wp2_with fail
  refine C.out.mono ?_
  rintro e w1 ⟨s, rfl, _, he⟩
  have X1 := hide' he
  clear he C
  go_wp2
  go_ret
  exact ⟨rfl, X1.out⟩
end Go.Proofs.YtlmbdafilboblaaGreat

/- Contract of lex.isEnding. -/
namespace Go.Proofs.YtlmbdafilboblaaGreat
set_option linter.unusedVariables false
set_option linter.unusedSimpArgs false
open Go.RowKit

theorem isEnding_any (a : Option Addr) (len c : Nat) (i : Int) (w : World) (hl : len ≤ 9223372036854775807) :
    Calls Tryz.prog 80 #[.slice a len c, .int .i64 i] w fun e w' => e = .returned (.bool (decide (0 ≤ i ∧ i ≤ (len : Int)))) ∧ w' = w := by
  by_cases g1 : i < 0
  · have e1 : decide (0 ≤ i ∧ i ≤ (len : Int)) = false := by simp; omega
    rw [e1]
    go_enter Tryz.func80, Tryz.ntmps80
    go_wp2
    go_ret
    exact ⟨rfl, rfl⟩
  · have g1' : 0 ≤ i := by omega
    by_cases g2 : i ≤ (len : Int)
    · have e1 : decide (0 ≤ i ∧ i ≤ (len : Int)) = true := by simp; omega
      rw [e1]
      go_enter Tryz.func80, Tryz.ntmps80
      go_wp2
      go_ret
      exact ⟨rfl, rfl⟩
    · have g2' : (len : Int) < i := by omega
      have e1 : decide (0 ≤ i ∧ i ≤ (len : Int)) = false := by simp; omega
      rw [e1]
      go_enter Tryz.func80, Tryz.ntmps80
      go_wp2
      go_ret
      exact ⟨rfl, rfl⟩
end Go.Proofs.YtlmbdafilboblaaGreat

/- Contract of lex.Common, of texts of at most 500 bytes. -/
namespace Go.Proofs.YtlmbdafilboblaaGreat
set_option linter.unusedVariables false
set_option linter.unusedSimpArgs false
open Go.RowKit

theorem comI_cut : ∀ (x y : List Int) (m : Nat), min x.length y.length ≤ m → comI x y = comI (x.take m) (y.take m)
  | [], y, m, _ => by rw [List.take_nil, comI_nil_left, comI_nil_left]
  | a :: x, [], m, _ => by rw [List.take_nil, comI_nil_right, comI_nil_right]
  | a :: x, b :: y, 0, h => by simp at h
  | a :: x, b :: y, m + 1, h => by
    rw [List.take_succ_cons, List.take_succ_cons, comI, comI, comI_cut x y m (by simp at h; omega)]

set_option maxHeartbeats 400000 in
theorem common_any (v : Value) (zs : List Int) (i j : Int) (w : World) (hs : Sl .u8 w v zs) (hlen : zs.length ≤ 500) :
    Calls Tryz.prog 62 #[v, .int .i64 i, .int .i64 j] w fun e w' => e = .returned (.int .i64 (comL zs i j)) ∧ ∃ m, w' = w.drewN m := by
  have HS := hide' hs
  obtain ⟨a, c, rfl, h2, h3, _⟩ := hs
  unfold maxLen at h3
  have hl : zs.length ≤ 9223372036854775807 := by omega
  by_cases g1 : 0 ≤ i ∧ i ≤ (zs.length : Int)
  · have C1 : Hid (∀ W, Calls Tryz.prog 80 #[.slice a zs.length c, .int .i64 i] W fun e w' => e = .returned (.bool true) ∧ w' = W) := fun W => by
      have := isEnding_any a zs.length c i W hl
      rwa [show decide (0 ≤ i ∧ i ≤ (zs.length : Int)) = true from decide_eq_true g1] at this
    by_cases g2 : 0 ≤ j ∧ j ≤ (zs.length : Int)
    · have C2 : Hid (∀ W, Calls Tryz.prog 80 #[.slice a zs.length c, .int .i64 j] W fun e w' => e = .returned (.bool true) ∧ w' = W) := fun W => by
        have := isEnding_any a zs.length c j W hl
        rwa [show decide (0 ≤ j ∧ j ≤ (zs.length : Int)) = true from decide_eq_true g2] at this
      obtain ⟨g1, g1'⟩ := g1
      obtain ⟨g2, g2'⟩ := g2
      obtain ⟨i, rfl⟩ := Int.eq_ofNat_of_zero_le g1
      obtain ⟨j, rfl⟩ := Int.eq_ofNat_of_zero_le g2
      rw [comL_in (by omega) (by omega)]
      obtain ⟨m, hm⟩ : ∃ m, m = zs.length - max i j := ⟨_, rfl⟩
      have hmi : i + m ≤ zs.length := by omega
      have hmj : j + m ≤ zs.length := by omega
      obtain ⟨t, ht⟩ : ∃ t, t = max i j := ⟨_, rfl⟩
      have hmax : max (i : Int) (j : Int) = (t : Int) := by omega
      have htm : (zs.length : Int) - (t : Int) = (m : Int) := by omega
      have HCOM : Hid (comI (zs.drop i) (zs.drop j) = comI ((zs.take (i + m)).drop i) ((zs.take (j + m)).drop j)) := by
        show _ = _
        rw [comI_cut (zs.drop i) (zs.drop j) m (by rw [List.length_drop, List.length_drop]; omega), List.drop_take, List.drop_take]
        congr 2 <;> omega
      obtain ⟨a1, r1, s1⟩ := HS.out.runCut (P := Tryz.prog) 22 5 Tryz.underlying22 size8 i (i + m) (by omega) hmi
      obtain ⟨a2, r2, s2⟩ := HS.out.runCut (P := Tryz.prog) 22 5 Tryz.underlying22 size8 j (j + m) (by omega) hmj
      simp only [Nat.add_sub_cancel_left, Int.natCast_add] at r1 r2
      rw [Nat.add_sub_cancel_left] at s1 s2
      have S1 := hide' s1
      have S2 := hide' s2
      clear s1 s2
      obtain ⟨x, HX⟩ : ∃ x, Hid ((zs.take (i + m)).drop i = x) := ⟨_, rfl⟩
      obtain ⟨y, HY⟩ : ∃ y, Hid ((zs.take (j + m)).drop j = y) := ⟨_, rfl⟩
      rw [HX.out, HY.out] at HCOM
      rw [HX.out] at S1
      rw [HY.out] at S2
      rw [HCOM.out]
      have hx : x.length = m := by rw [← HX.out, List.length_drop, List.length_take]; omega
      have hy : y.length = m := by rw [← HY.out, List.length_drop, List.length_take]; omega
      have HXL := hide' hx
      have HYL := hide' hy
      have hm' : m ≤ 500 := by omega
      have wi : IntKind.i64.wrap ((i : Int) + (m : Int)) = (i : Int) + (m : Int) := by rw [IntKind.wrap_i64]; omega
      have wj : IntKind.i64.wrap ((j : Int) + (m : Int)) = (j : Int) + (m : Int) := by rw [IntKind.wrap_i64]; omega
      have d1 : decide ((0 : Int) + 512 ≤ (m : Int)) = false := by simp; omega
      have d2 : decide ((512 : Int) ≤ (m : Int)) = false := by simp; omega
      obtain ⟨N, HN⟩ : ∃ N, Hid (zs.length = N) := ⟨_, rfl⟩
      rw [HN.out] at C1 C2 r1 r2 htm hmi hmj g1' g2' h2 ⊢
      clear hx hy hm ht HX HY HCOM HS h2 h3 hl hlen
      go_enter Tryz.func62, Tryz.ntmps62
      go_wp2_with fail
      refine (C1.out _).mono ?_
      rintro e w' ⟨rfl, rfl⟩
      go_wp2_with fail
      refine (C2.out _).mono ?_
      rintro e w' ⟨rfl, rfl⟩
      go_wp2_with fail
      go_quiet (fail)
      clear r1 r2 hmax htm
      go_wp2
      go_loopw [10] (fun n wr => n = .int .i64 0 ∧ ∃ k, wr = w'.drewN k) (fun n _ => 0)
      case atStart => exact ⟨rfl, _, rfl⟩
      case round =>
        obtain ⟨rfl, k0, rfl⟩ := hrel
        go_wp2_with fail
        go_quiet (fail)
        go_wp2
        go_loopw [10] (fun n wr => ∃ (k : Nat), k ≤ m ∧ n = .int .i64 k ∧ Hid (comI x y = k + comI (x.drop k) (y.drop k)) ∧ ∃ k, wr = w'.drewN k) (fun n _ => m - (intOf n).toNat)
        case atStart => exact ⟨0, Nat.zero_le _, rfl, (show _ = _ by simp), by first | exact ⟨_, rfl⟩ | (rw [World.drewN_drewN]; exact ⟨_, rfl⟩)⟩
        case round =>
          obtain ⟨k, hk1, rfl, HK, q0, rfl⟩ := hrel
          by_cases l1 : k < m
          · have hne1 : x ≠ [] := fun h => by have := HXL.out; rw [h] at this; simp at this; omega
            have hne2 : y ≠ [] := fun h => by have := HYL.out; rw [h] at this; simp at this; omega
            obtain ⟨_, b1, o1, e1, c1⟩ := S1.out.at hne1
            obtain ⟨_, b2, o2, e2, c2⟩ := S2.out.at hne2
            have c1' := c1 k l1
            have c2' := c2 k l1
            obtain ⟨p, HP⟩ : ∃ p, Hid (x.getD k 0 = p) := ⟨_, rfl⟩
            obtain ⟨q, HQ⟩ : ∃ q, Hid (y.getD k 0 = q) := ⟨_, rfl⟩
            rw [HP.out] at c1'
            rw [HQ.out] at c2'
            subst e1 e2
            clear c1 c2 hne1 hne2
            have l1' : (k : Int) < m := by omega
            by_cases hpq : p = q
            · have HK' : Hid (comI x y = (k + 1 : Nat) + comI (x.drop (k + 1)) (y.drop (k + 1))) := by
                have h := comI_same (x := x) (y := y) (k := k) (by rw [HXL.out]; exact l1) (by rw [HYL.out]; exact l1) (by rw [HP.out, HQ.out, hpq])
                show _ = _
                rw [HK.out, h]; omega
              subst hpq
              go_wp2_with fail
              go_quiet (fail)
              go_wp2
              go_roundw
              case rel => exact ⟨k + 1, by omega, by go_num, HK', by first | exact ⟨_, rfl⟩ | (rw [World.drewN_drewN]; exact ⟨_, rfl⟩)⟩
              case measure => simp [intOf]; omega
            · have hpq' : (p == q) = false := by simpa using hpq
              have HK' : Hid (comI x y = k) := by
                have h := comI_other (x := x) (y := y) (k := k) (by rw [HXL.out]; exact l1) (by rw [HYL.out]; exact l1) (by rw [HP.out, HQ.out]; exact hpq)
                show _ = _
                rw [HK.out, h]; omega
              clear hpq
              go_wp2_with fail
              go_quiet (fail)
              go_wp2
              go_ret
              rw [HK'.out]
              exact ⟨rfl, _, by first | rfl | rw [World.drewN_drewN]⟩
          · have l1' : decide ((k : Int) < m) = false := by simp; omega
            have HK' : Hid (comI x y = k) := by
              have h := comI_left (x := x) (y := y) (k := k) (by rw [HXL.out]; omega)
              show _ = _
              rw [HK.out, h]; omega
            go_wp2_with fail
            go_quiet (fail)
            go_wp2
            go_ret
            rw [HK'.out]
            exact ⟨rfl, _, by first | rfl | rw [World.drewN_drewN]⟩
    · have C2 : Hid (∀ W, Calls Tryz.prog 80 #[.slice a zs.length c, .int .i64 j] W fun e w' => e = .returned (.bool false) ∧ w' = W) := fun W => by
        have := isEnding_any a zs.length c j W hl
        rwa [show decide (0 ≤ j ∧ j ≤ (zs.length : Int)) = false from decide_eq_false g2] at this
      rw [comL_out (fun h => g2 h.2)]
      go_enter Tryz.func62, Tryz.ntmps62
      go_wp2_with fail
      refine (C1.out _).mono ?_
      rintro e w' ⟨rfl, rfl⟩
      go_wp2_with fail
      refine (C2.out _).mono ?_
      rintro e w' ⟨rfl, rfl⟩
      go_wp2
      go_ret
      exact ⟨rfl, 0, rfl⟩
  · have C1 : Hid (∀ W, Calls Tryz.prog 80 #[.slice a zs.length c, .int .i64 i] W fun e w' => e = .returned (.bool false) ∧ w' = W) := fun W => by
      have := isEnding_any a zs.length c i W hl
      rwa [show decide (0 ≤ i ∧ i ≤ (zs.length : Int)) = false from decide_eq_false g1] at this
    rw [comL_out (fun h => g1 h.1)]
    go_enter Tryz.func62, Tryz.ntmps62
    go_wp2_with fail
    refine (C1.out _).mono ?_
    rintro e w' ⟨rfl, rfl⟩
    go_wp2
    go_ret
    exact ⟨rfl, 0, rfl⟩
end Go.Proofs.YtlmbdafilboblaaGreat

/- Contracts of phi.Ahead, phi.PLCP and phi.LCP, of texts of at most 500 bytes. -/
namespace Go.Proofs.YtlmbdafilboblaaGreat
set_option linter.unusedVariables false
set_option linter.unusedSimpArgs false
open Go.RowKit

set_option maxHeartbeats 1000000 in
theorem phAhead_any (v : Value) (a : List Int) (w : World) (hv : Sl .i64 w v a) (ha : a.length ≤ 1000000) :
    Calls Tryz.prog 82 #[v] w fun e w' => ∃ r, e = .returned (.tuple #[r, .bool (ordB a)]) ∧ Own .i64 3 w.heap.size w' r (ahI a) ∧ Ext w w' := by
  have HU := hide' hv
  obtain ⟨ua, uc, rfl, _⟩ := hv
  have C := hide' (rkIs_any _ a w HU.out ha)
  cases h2 : ordB a
  · rw [ahI_no h2]
    rw [h2] at C
    clear h2 HU
    go_enter Tryz.func82, Tryz.ntmps82
    go_wp2_with fail
    refine C.out.mono ?_
    rintro e w1 ⟨rfl, he1⟩
    have X1 := hide' he1
    clear he1
    go_wp2
    go_ret2
    exact ⟨_, rfl, Own.nil _ _ _ _, X1.out⟩
  · rw [h2] at C
    obtain ⟨hA, hP⟩ := ordB_cast h2
    obtain ⟨A, HA⟩ : ∃ A, Hid (toN a = A) := ⟨_, rfl⟩
    rw [HA.out] at hA hP
    obtain ⟨n, HN⟩ : ∃ n, Hid (a.length = n) := ⟨_, rfl⟩
    have hAL : A.length = n := by rw [← HN.out, ← hA, natL_len]
    have HP : Hid (A.Perm (List.range A.length)) := by show _; rw [hAL, ← HN.out]; exact hP
    rw [← hA, ahI_nat HP.out]
    have HB := hide' (inv_nat HP.out).2
    obtain ⟨B, HBB⟩ : ∃ B, Hid (toN (invI (natL A)) = B) := ⟨_, rfl⟩
    rw [HBB.out] at HB ⊢
    have HU2 : Hid (Sl .i64 w (.slice ua n uc) (natL A)) := by have := HU.out; rw [← hA, natL_len, hAL] at this; exact this
    have HAL := hide' hAL
    rw [← hA, natL_len, hAL] at C
    rw [HN.out] at ha
    rw [natL_len, hAL]
    clear hA hP hAL h2 HU HA HBB HN
    go_enter Tryz.func82, Tryz.ntmps82
    go_wp2_with fail
    refine C.out.mono ?_
    rintro e w1 ⟨rfl, he1⟩
    have X1 := hide' he1
    have hz1 := he1.size
    clear he1 C
    obtain ⟨w2, hmk, ho, he⟩ := make_intsB w1 n (by omega)
    have HO := hide' (ho.low hz1)
    have HE := hide' (X1.out.trans he)
    clear ho he
    go_wp2
    clear hmk
    obtain ⟨g, HG⟩ : ∃ g, Hid (w1.heap.size = g) := ⟨_, rfl⟩
    rw [HG.out] at HO ⊢
    go_loopw [5, 7, 16] (fun vl _ vi wr => ∃ (i : Nat) (R : List Int) (z : Int), i ≤ n ∧ vi = .int .i64 i ∧ vl = .int .i64 z ∧ Hid (z = if i = 0 then (-1 : Int) else (A.getD (i - 1) 0 : Int)) ∧ Hid (R.length = n) ∧ Hid (AhTo A R i) ∧
      Hid (Own .i64 3 w.heap.size wr (.slice (some ⟨g, 0, none⟩) n n) R) ∧ Hid (Ext w wr) ∧ Hid (w.heap.size ≤ g)) (fun _ _ vi _ => n - (intOf vi).toNat)
    case atStart =>
      refine ⟨0, List.replicate n 0, -1, by omega, rfl, rfl, (show _ = _ by rw [if_pos rfl]), List.length_replicate, ?_, HO, HE, (show _ ≤ _ by rw [← HG.out]; exact hz1)⟩
      have := AhTo.start A
      rw [HAL.out] at this
      exact this
    case round =>
      clear HO HE hz1
      obtain ⟨i, R, z, hi, rfl, rfl, HZ, HL, HK, HO, HE, Hg⟩ := hrel
      by_cases hlt : i < n
      · have hlt' : (i : Int) < n := by omega
        obtain ⟨_, _, _, hco⟩ := HU2.out.nat
        obtain ⟨og, ooff, hoa, ocell⟩ := hco (by omega)
        subst hoa
        have c1 := HE.out.cellOf (ocell i hlt)
        clear hco ocell
        have hy := perm_lt HP.out (p := i) (by rw [HAL.out]; exact hlt)
        rw [HAL.out] at hy
        have HK2 := hide' (HK.out.next HP.out (by rw [HAL.out]; exact hlt) HZ.out)
        have HZ2 : Hid ((A.getD i 0 : Int) = if i + 1 = 0 then (-1 : Int) else (A.getD (i + 1 - 1) 0 : Int)) := by show _ = _; rw [if_neg (by omega), Nat.add_sub_cancel]
        obtain ⟨y, HY⟩ : ∃ y, Hid (A.getD i 0 = y) := ⟨_, rfl⟩
        rw [HY.out] at c1 hy HK2 HZ2
        have hy' : (y : Int) < n := by omega
        have hfz := HO.out.frozen HL.out y
        have hci := HO.out.cell HL.out y hy
        have HO2 := hide' (HO.out.store HL.out y z)
        have HE2 := hide' (Ext.but HE.out Hg.out (but_set wr g y (.int .i64 z)))
        go_wp2
        go_roundw
        case rel => exact ⟨i + 1, R.set y z, y, by omega, by go_num, rfl, HZ2, (show _ = _ by rw [List.length_set]; exact HL.out), HK2, HO2, HE2, Hg⟩
        case measure => simp [intOf]; omega
      · have hlt' : decide ((i : Int) < n) = false := by simp; omega
        have hin : n = i := by omega
        have HR := hide' ((show AhTo A R A.length by rw [HAL.out, hin]; exact HK.out).done HB.out)
        go_wp2
        go_ret2
        refine ⟨_, rfl, ?_, HE.out⟩
        rw [← HR.out]
        exact HO.out

theorem plN_le (s : List Int) (A B : List Nat) (x : Nat) : (plN s A B).getD x 0 ≤ s.length := by
  by_cases hx : x < A.length
  · rw [plN_at hx]
    split
    · exact Nat.zero_le _
    · exact comN_le _ _ _
  · rw [List.getD_eq_getElem?_getD, List.getElem?_eq_none (by rw [plN_len]; omega)]
    exact Nat.zero_le _
/-- One byte on, where what stands ahead has moved on by one too. -/
theorem pl_next {s : List Int} {A B : List Nat} {i : Nat} (h0 : 0 < i) (hi : i < A.length) (hb : B.getD i 0 ≠ 0) (hc : 0 < (plN s A B).getD (i - 1) 0) (hx : (A.getD (B.getD i 0 - 1) 0 : Int) = (ahL A B).getD (i - 1) 0 + 1) : (plN s A B).getD i 0 + 1 = (plN s A B).getD (i - 1) 0 := by
  have e1 := plN_at (s := s) (A := A) (B := B) (x := i - 1) (by omega)
  have e2 := plN_at (s := s) (A := A) (B := B) (x := i) hi
  rw [e1] at hc ⊢
  rw [e2, if_neg hb]
  rw [ahL_at (by omega)] at hx
  by_cases e0 : B.getD (i - 1) 0 = 0
  · rw [if_pos e0] at hc; omega
  · rw [if_neg e0] at hc hx ⊢
    have := comN_next hc
    rw [Nat.sub_add_cancel h0] at this
    rw [show A.getD (B.getD i 0 - 1) 0 = A.getD (B.getD (i - 1) 0 - 1) 0 + 1 by omega]
    omega
theorem phCommon_any (v : Value) (zs : List Int) (i j : Nat) (w : World) (hs : Sl .u8 w v zs) (hlen : zs.length ≤ 500) (hi : i ≤ zs.length) (hj : j ≤ zs.length) :
    Calls Tryz.prog 62 #[v, .int .i64 i, .int .i64 j] w fun e w' => e = .returned (.int .i64 (comN zs i j : Int)) ∧ Ext w w' := by
  have := toExt (common_any v zs i j w hs hlen)
  rw [comL_nat hi hj] at this
  exact this

set_option maxHeartbeats 2000000 in
theorem phPlcp_any (v u : Value) (s a : List Int) (w : World) (hv : Sl .u8 w v s) (hu : Sl .i64 w u a) (hs : s.length ≤ 500) (ha : a.length ≤ 1000000) :
    Calls Tryz.prog 63 #[v, u] w fun e w' => ∃ r, e = .returned (.tuple #[r, .bool (lcpOk s a)]) ∧ Own .i64 3 w.heap.size w' r (plI s a) ∧ Ext w w' := by
  have HV := hide' hv
  have HU := hide' hu
  obtain ⟨va, vc, rfl, _⟩ := hv
  obtain ⟨ua, uc, rfl, _⟩ := hu
  have C := hide' (phAhead_any _ a w HU.out ha)
  by_cases h1 : a.length = s.length
  · cases h2 : ordB a
    · rw [plI_no (lcpOk_no h2), lcpOk_no h2]
      rw [h2] at C
      clear h2 HU
      obtain ⟨n, HN⟩ : ∃ n, Hid (s.length = n) := ⟨_, rfl⟩
      rw [h1] at C ⊢
      rw [HN.out] at C HV ⊢
      clear h1
      go_enter Tryz.func63, Tryz.ntmps63
      go_wp2_with fail
      refine C.out.mono ?_
      rintro e w1 ⟨r1, rfl, _, he1⟩
      have X1 := hide' he1
      clear he1
      go_wp2
      go_ret2
      exact ⟨_, rfl, Own.nil _ _ _ _, X1.out⟩
    · rw [h2] at C
      obtain ⟨hA, hP⟩ := ordB_cast h2
      obtain ⟨A, HA⟩ : ∃ A, Hid (toN a = A) := ⟨_, rfl⟩
      rw [HA.out] at hA hP
      obtain ⟨n, HN⟩ : ∃ n, Hid (s.length = n) := ⟨_, rfl⟩
      have hAL : A.length = n := by rw [← HN.out, ← h1, ← hA, natL_len]
      have HP : Hid (A.Perm (List.range A.length)) := by show _; rw [hAL, ← HN.out, ← h1]; exact hP
      rw [lcpOk_yes h1 h2]
      rw [← hA] at C ⊢
      rw [plI_nat HP.out (by rw [hAL, HN.out])]
      rw [ahI_nat HP.out] at C
      have HB := hide' (inv_nat HP.out).2
      obtain ⟨B, HBB⟩ : ∃ B, Hid (toN (invI (natL A)) = B) := ⟨_, rfl⟩
      rw [HBB.out] at HB C ⊢
      have HAL := hide' hAL
      rw [HN.out] at HV hs
      rw [natL_len, hAL] at C ⊢
      rw [HN.out]
      have HQL : Hid ((ahL A B).length = n) := by show _ = _; rw [ahL_len, hAL]
      have HQA : Hid (∀ x, x < n → (ahL A B).getD x 0 = if B.getD x 0 = 0 then (-1 : Int) else (A.getD (B.getD x 0 - 1) 0 : Int)) := fun x hx => ahL_at (by rw [hAL]; exact hx)
      have HPN : Hid (∀ i, 0 < i → i < n → B.getD i 0 ≠ 0 → 0 < (plN s A B).getD (i - 1) 0 → (A.getD (B.getD i 0 - 1) 0 : Int) = (ahL A B).getD (i - 1) 0 + 1 → (plN s A B).getD i 0 + 1 = (plN s A B).getD (i - 1) 0) := fun i h0 hi hb hc hx => pl_next h0 (by rw [hAL]; exact hi) hb hc hx
      obtain ⟨Q, HQ⟩ : ∃ Q, Hid (ahL A B = Q) := ⟨_, rfl⟩
      rw [HQ.out] at C HQL HQA HPN
      clear hA hP hAL h2 HU HA HBB h1 HQ
      go_enter Tryz.func63, Tryz.ntmps63
      go_wp2_with fail
      refine C.out.mono ?_
      rintro e w1 ⟨r1, rfl, ho1, he1⟩
      have S1 := hide' ho1.sl
      have X1 := hide' he1
      have hz1 := he1.size
      obtain ⟨s1a, s1c, hs1, _⟩ := ho1.sl
      rw [HQL.out] at hs1
      subst hs1
      clear he1 C ho1
      obtain ⟨w2, hmk, ho, he⟩ := make_nats w1 n (by omega)
      have HO := hide' (ho.low hz1)
      have HE := hide' he
      clear ho he
      go_wp2
      clear hmk
      obtain ⟨g, HG⟩ : ∃ g, Hid (w1.heap.size = g) := ⟨_, rfl⟩
      rw [HG.out] at HO ⊢
      go_loopw [9, 10, 28, 40, 43] (fun _ _ vi _ _ wr => ∃ (i : Nat) (R : List Nat), i ≤ n ∧ vi = .int .i64 i ∧ Hid (R.length = n) ∧ Hid (PlTo s A B R i) ∧
        Hid (Own .i64 3 w.heap.size wr (.slice (some ⟨g, 0, none⟩) n n) (natL R)) ∧ Hid (Ext w1 wr) ∧ Hid (w1.heap.size ≤ g)) (fun _ _ vi _ _ _ => n - (intOf vi).toNat)
      case atStart =>
        refine ⟨0, List.replicate n 0, by omega, rfl, List.length_replicate, ?_, HO, HE, (show _ ≤ _ by rw [← HG.out]; exact Nat.le_refl _)⟩
        have := PlTo.start s A B
        rw [HAL.out] at this
        exact this
      case round =>
        clear HO HE
        obtain ⟨i, R, hi, rfl, HL, HK, HO, HE, Hg⟩ := hrel
        have HEW := hide' (X1.out.trans HE.out)
        by_cases hlt : i < n
        · have hlt' : (i : Int) < n := by omega
          obtain ⟨_, _, _, hco⟩ := S1.out.int
          obtain ⟨og, ooff, hoa, ocell⟩ := hco (by omega)
          subst hoa
          have c1 := HE.out.cellOf (ocell i hlt)
          have HAC : Hid (∀ j, j < n → wr.cell? ⟨og, ooff + j, none⟩ = some (.int .i64 (Q.getD j 0))) := fun j hj => HE.out.cellOf (ocell j hj)
          clear hco ocell
          have hb := HB.out.lt i (by rw [HAL.out]; exact hlt)
          rw [HAL.out] at hb
          have HQI := hide' (HQA.out i hlt)
          have HPL := hide' (plN_at (s := s) (A := A) (B := B) (x := i) (by rw [HAL.out]; exact hlt))
          have HNX : Hid (∀ c, c = (plN s A B).getD i 0 → PlTo s A B (R.set i c) (i + 1)) := fun c hc => HK.out.next (by rw [HAL.out]; exact hlt) hc
          by_cases hb0 : B.getD i 0 = 0
          · rw [HQI.out, if_pos hb0] at c1
            have HK2 := hide' (HK.out.skip (by rw [HAL.out]; exact hlt) (by rw [HPL.out, if_pos hb0]))
            clear HNX HPL HQI hb0 hb HAC
            go_wp2
            go_roundw
            case rel => exact ⟨i + 1, R, by omega, by go_num, HL, HK2, HO, HE, Hg⟩
            case measure => simp [intOf]; omega
          · rw [HQI.out, if_neg hb0] at c1
            have hx := perm_lt HP.out (p := B.getD i 0 - 1) (by rw [HAL.out]; omega)
            rw [HAL.out] at hx
            have HPL2 : Hid ((plN s A B).getD i 0 = comN s (A.getD (B.getD i 0 - 1) 0) i) := by show _ = _; rw [HPL.out, if_neg hb0]
            have HST : Hid (∀ J, i = J + 1 → 0 < R.getD J 0 → (A.getD (B.getD i 0 - 1) 0 : Int) = Q.getD J 0 + 1 → R.getD J 0 - 1 = (plN s A B).getD i 0) := fun J hJ h1 h2 => by
              have e1 := HK.out.at' J (by omega) (by rw [HAL.out]; omega)
              have := HPN.out i (by omega) hlt hb0 (by rw [hJ, Nat.add_sub_cancel, ← e1]; exact h1) (by rw [h2, hJ, Nat.add_sub_cancel])
              rw [hJ, Nat.add_sub_cancel] at this
              rw [hJ]
              omega
            obtain ⟨x, HX⟩ : ∃ x, Hid (A.getD (B.getD i 0 - 1) 0 = x) := ⟨_, rfl⟩
            rw [HX.out] at c1 hx HPL2 HST
            have e0 : ((x : Int) == -1) = false := by simp <;> omega
            clear HPL HQI hb0 hb HX
            by_cases hi0 : i = 0
            · have d0 : decide ((0 : Int) < (i : Int)) = false := by simp; omega
              have d0' : decide (0 < i) = false := by simp; omega
              clear hi0 HST HAC
              have HCM := hide' (phCommon_any (.slice va n vc) s i x wr (HV.out.ext HEW.out) (by rw [HN.out]; exact hs) (by rw [HN.out]; omega) (by rw [HN.out]; omega))
              have HK2 := hide' (HNX.out (comN s i x) (by rw [HPL2.out, comN_swap]))
              obtain ⟨C, HC⟩ : ∃ C, Hid (comN s i x = C) := ⟨_, rfl⟩
              rw [HC.out] at HCM HK2
              clear HNX
              go_wp2_with fail
              refine HCM.out.mono ?_
              rintro e w3 ⟨rfl, he3⟩
              have HO3 := hide' (HO.out.ext he3)
              have HE3 := hide' (HE.out.trans he3)
              have hfz3 := HO3.out.frozen (by rw [natL_len]; exact HL.out) i
              have hci3 := HO3.out.intCell HL.out i hlt
              have HO4 := hide' (HO3.out.storeN HL.out i C)
              have HBT := but_set w3 g i (.int .i64 (C : Int))
              clear he3 HO HE HEW HCM
              go_wp2
              go_roundw
              case rel => exact ⟨i + 1, R.set i C, by omega, by go_num, (show _ = _ by rw [List.length_set]; exact HL.out), HK2, HO4, Ext.but HE3.out Hg.out HBT, Hg⟩
              case measure => simp [intOf]; omega
            · have d0 : decide ((0 : Int) < (i : Int)) = true := by simp; omega
              have d0' : decide (0 < i) = true := by simp; omega
              obtain ⟨J, HJ⟩ : ∃ J, Hid (i = J + 1) := ⟨i - 1, by show _ = _; omega⟩
              have hJn : J < n := by have := HJ.out; omega
              have hJn' : (J : Int) < n := by omega
              have hJ : (i : Int) - 1 = (J : Int) := by have := HJ.out; omega
              have wJ : IntKind.i64.wrap (J : Int) = (J : Int) := by rw [IntKind.wrap_i64]; omega
              have hcJ := HO.out.intCell HL.out J hJn
              have hST2 := HST.out J HJ.out
              have hcle : R.getD J 0 ≤ 500 := by
                have e1 := HK.out.at' J (by have := HJ.out; omega) (by rw [HAL.out]; omega)
                rw [e1]
                exact Nat.le_trans (plN_le s A B J) (by rw [HN.out]; exact hs)
              obtain ⟨c, HCV⟩ : ∃ c, Hid (R.getD J 0 = c) := ⟨_, rfl⟩
              rw [HCV.out] at hcJ hST2 hcle
              clear hi0 HST
              by_cases l1 : 0 < c
              · have l1' : decide ((0 : Int) < (c : Int)) = true := by simp; omega
                have l1'' : decide (0 < c) = true := by simp; omega
                have hqJ := HAC.out J hJn
                obtain ⟨q, HQJ⟩ : ∃ q, Hid (Q.getD J 0 = q) := ⟨_, rfl⟩
                have hqb : -1 ≤ q ∧ q ≤ 500 := by
                  rw [← HQJ.out, HQA.out J hJn]
                  split
                  · omega
                  · rename_i hbJ
                    have h1 := HB.out.lt J (by rw [HAL.out]; exact hJn)
                    have h2 := perm_lt HP.out (p := B.getD J 0 - 1) (by omega)
                    rw [HAL.out] at h2
                    omega
                rw [HQJ.out] at hqJ hST2
                clear HAC
                have wq : IntKind.i64.wrap (q + 1) = q + 1 := by rw [IntKind.wrap_i64]; omega
                by_cases l2 : (x : Int) = q + 1
                · have l2' : ((x : Int) == q + 1) = true := by simp; omega
                  obtain ⟨C, HC⟩ : ∃ C, Hid (c = C + 1) := ⟨c - 1, by show _ = _; omega⟩
                  have hC : (c : Int) - 1 = (C : Int) := by have := HC.out; omega
                  have wC : IntKind.i64.wrap (C : Int) = (C : Int) := by rw [IntKind.wrap_i64]; have := HC.out; omega
                  have HK2 := hide' (HNX.out C (by rw [← hST2 l1 l2]; have := HC.out; omega))
                  have hfz3 := HO.out.frozen (by rw [natL_len]; exact HL.out) i
                  have hci3 := HO.out.intCell HL.out i hlt
                  have HO4 := hide' (HO.out.storeN HL.out i C)
                  have HBT := but_set wr g i (.int .i64 (C : Int))
                  clear HNX hST2 l2
                  go_wp2
                  go_roundw
                  case rel => exact ⟨i + 1, R.set i C, by omega, by go_num, (show _ = _ by rw [List.length_set]; exact HL.out), HK2, HO4, Ext.but HE.out Hg.out HBT, Hg⟩
                  case measure => simp [intOf]; omega
                · have l2' : ((x : Int) == q + 1) = false := by simp; omega
                  clear hST2 l2
                  have HCM := hide' (phCommon_any (.slice va n vc) s i x wr (HV.out.ext HEW.out) (by rw [HN.out]; exact hs) (by rw [HN.out]; omega) (by rw [HN.out]; omega))
                  have HK2 := hide' (HNX.out (comN s i x) (by rw [HPL2.out, comN_swap]))
                  obtain ⟨C, HC⟩ : ∃ C, Hid (comN s i x = C) := ⟨_, rfl⟩
                  rw [HC.out] at HCM HK2
                  clear HNX
                  go_wp2_with fail
                  refine HCM.out.mono ?_
                  rintro e w3 ⟨rfl, he3⟩
                  have HO3 := hide' (HO.out.ext he3)
                  have HE3 := hide' (HE.out.trans he3)
                  have hfz3 := HO3.out.frozen (by rw [natL_len]; exact HL.out) i
                  have hci3 := HO3.out.intCell HL.out i hlt
                  have HO4 := hide' (HO3.out.storeN HL.out i C)
                  have HBT := but_set w3 g i (.int .i64 (C : Int))
                  clear he3 HO HE HEW HCM
                  go_wp2
                  go_roundw
                  case rel => exact ⟨i + 1, R.set i C, by omega, by go_num, (show _ = _ by rw [List.length_set]; exact HL.out), HK2, HO4, Ext.but HE3.out Hg.out HBT, Hg⟩
                  case measure => simp [intOf]; omega
              · have l1' : decide ((0 : Int) < (c : Int)) = false := by simp; omega
                have l1'' : decide (0 < c) = false := by simp; omega
                clear hST2 HAC
                have HCM := hide' (phCommon_any (.slice va n vc) s i x wr (HV.out.ext HEW.out) (by rw [HN.out]; exact hs) (by rw [HN.out]; omega) (by rw [HN.out]; omega))
                have HK2 := hide' (HNX.out (comN s i x) (by rw [HPL2.out, comN_swap]))
                obtain ⟨C, HC⟩ : ∃ C, Hid (comN s i x = C) := ⟨_, rfl⟩
                rw [HC.out] at HCM HK2
                clear HNX
                go_wp2_with fail
                refine HCM.out.mono ?_
                rintro e w3 ⟨rfl, he3⟩
                have HO3 := hide' (HO.out.ext he3)
                have HE3 := hide' (HE.out.trans he3)
                have hfz3 := HO3.out.frozen (by rw [natL_len]; exact HL.out) i
                have hci3 := HO3.out.intCell HL.out i hlt
                have HO4 := hide' (HO3.out.storeN HL.out i C)
                have HBT := but_set w3 g i (.int .i64 (C : Int))
                clear he3 HO HE HEW HCM
                go_wp2
                go_roundw
                case rel => exact ⟨i + 1, R.set i C, by omega, by go_num, (show _ = _ by rw [List.length_set]; exact HL.out), HK2, HO4, Ext.but HE3.out Hg.out HBT, Hg⟩
                case measure => simp [intOf]; omega
        · have hlt' : decide ((i : Int) < n) = false := by simp; omega
          have hin : n = i := by omega
          have HR := hide' ((show PlTo s A B R A.length by rw [HAL.out, hin]; exact HK.out).done)
          go_wp2
          go_ret2
          refine ⟨_, rfl, ?_, HEW.out⟩
          rw [← HR.out]
          exact HO.out
  · have d1 : ((a.length : Int) != (s.length : Int)) = true := by simp; omega
    rw [plI_no (lcpOk_long h1), lcpOk_long h1]
    clear h1
    go_enter Tryz.func63, Tryz.ntmps63
    go_wp2_with fail
    go_ret2
    exact ⟨_, rfl, Own.nil _ _ _ _, Ext.refl _⟩

set_option maxHeartbeats 1000000 in
theorem phLcp_any (v u : Value) (s a : List Int) (w : World) (hv : Sl .u8 w v s) (hu : Sl .i64 w u a) (hs : s.length ≤ 500) (ha : a.length ≤ 1000000) :
    Calls Tryz.prog 53 #[v, u] w fun e w' => ∃ r, e = .returned (.tuple #[r, .bool (lcpOk s a)]) ∧ Own .i64 3 w.heap.size w' r (lcpL s a) ∧ Ext w w' := by
  have C := hide' (phPlcp_any v u s a w hv hu hs ha)
  have HU := hide' hu
  obtain ⟨va, vc, rfl, _⟩ := hv
  obtain ⟨ua, uc, rfl, _⟩ := hu
  cases h0 : lcpOk s a
  · rw [lcpL_no h0]
    rw [h0] at C
    clear h0
    go_enter Tryz.func53, Tryz.ntmps53
    go_wp2_with fail
    refine C.out.mono ?_
    rintro e w1 ⟨r1, rfl, _, he1⟩
    have X1 := hide' he1
    clear he1
    go_wp2
    go_ret2
    exact ⟨_, rfl, Own.nil _ _ _ _, X1.out⟩
  · have h1 : a.length = s.length := by
      apply Classical.byContradiction
      intro h; rw [lcpOk_long h] at h0; exact absurd h0 (by decide)
    have h2 : ordB a = true := by
      cases h : ordB a
      · rw [lcpOk_no h] at h0; exact absurd h0 (by decide)
      · rfl
    rw [lcpL_yes h0]
    rw [h0] at C
    obtain ⟨hA, hP⟩ := ordB_cast h2
    obtain ⟨A, HA⟩ : ∃ A, Hid (toN a = A) := ⟨_, rfl⟩
    rw [HA.out] at hA hP ⊢
    obtain ⟨n, HN⟩ : ∃ n, Hid (s.length = n) := ⟨_, rfl⟩
    have hAL : A.length = n := by rw [← HN.out, ← h1, ← hA, natL_len]
    have HP : Hid (A.Perm (List.range A.length)) := by show _; rw [hAL, ← HN.out, ← h1]; exact hP
    rw [← hA] at C HU
    rw [plI_nat HP.out (by rw [hAL, HN.out])] at C
    have HB := hide' (inv_nat HP.out).2
    obtain ⟨B, HBB⟩ : ∃ B, Hid (toN (invI (natL A)) = B) := ⟨_, rfl⟩
    rw [HBB.out] at HB C
    have HAL := hide' hAL
    rw [HN.out] at hs
    rw [natL_len, hAL] at C HU
    rw [HN.out] at C
    rw [h1, HN.out]
    have HLP : Hid (∀ i, i < n → (lcpN s A).getD i 0 = (plN s A B).getD (A.getD i 0) 0) := fun i hi => lcp_pl HP.out HB.out (by rw [hAL]; exact hi)
    have HPL : Hid ((plN s A B).length = n) := by show _ = _; rw [plN_len, hAL]
    obtain ⟨F, HF⟩ : ∃ F, Hid (plN s A B = F) := ⟨_, rfl⟩
    rw [HF.out] at C HLP HPL
    have HGL : Hid ((lcpN s A).length = n) := by show _ = _; rw [lcpN_len, hAL]
    obtain ⟨G, HG⟩ : ∃ G, Hid (lcpN s A = G) := ⟨_, rfl⟩
    rw [HG.out] at HGL HLP ⊢
    clear hA hP hAL h0 h1 h2 HA HBB HF HG HB
    go_enter Tryz.func53, Tryz.ntmps53
    go_wp2_with fail
    refine C.out.mono ?_
    rintro e w1 ⟨r1, rfl, ho1, he1⟩
    have S1 := hide' ho1.sl
    have X1 := hide' he1
    have hz1 := he1.size
    obtain ⟨s1a, s1c, hs1, _⟩ := ho1.sl
    rw [natL_len, HPL.out] at hs1
    subst hs1
    clear he1 C ho1
    obtain ⟨w2, hmk, ho, he⟩ := make_nats w1 n (by omega)
    have HO := hide' (ho.low hz1)
    have HE := hide' he
    clear ho he
    go_wp2
    clear hmk
    obtain ⟨g, HGG⟩ : ∃ g, Hid (w1.heap.size = g) := ⟨_, rfl⟩
    rw [HGG.out] at HO ⊢
    go_loopw [9, 10, 24] (fun _ _ vi wr => ∃ (i : Nat) (R : List Nat), i ≤ n ∧ vi = .int .i64 i ∧ Hid (R.length = n) ∧ Hid (∀ q, q < i → R.getD q 0 = G.getD q 0) ∧
      Hid (Own .i64 3 w.heap.size wr (.slice (some ⟨g, 0, none⟩) n n) (natL R)) ∧ Hid (Ext w1 wr) ∧ Hid (w1.heap.size ≤ g)) (fun _ _ vi _ => n - (intOf vi).toNat)
    case atStart => exact ⟨0, List.replicate n 0, by omega, rfl, List.length_replicate, (fun q hq => by omega), HO, HE, (show _ ≤ _ by rw [← HGG.out]; exact Nat.le_refl _)⟩
    case round =>
      clear HO HE
      obtain ⟨i, R, hi, rfl, HL, HK, HO, HE, Hg⟩ := hrel
      have HEW := hide' (X1.out.trans HE.out)
      by_cases hlt : i < n
      · have hlt' : (i : Int) < n := by omega
        obtain ⟨_, _, _, hco⟩ := HU.out.nat
        obtain ⟨og, ooff, hoa, ocell⟩ := hco (by omega)
        subst hoa
        have c1 := HEW.out.cellOf (ocell i hlt)
        clear hco ocell
        have hy := perm_lt HP.out (p := i) (by rw [HAL.out]; exact hlt)
        rw [HAL.out] at hy
        have HGI := hide' (HLP.out i hlt)
        obtain ⟨y, HY⟩ : ∃ y, Hid (A.getD i 0 = y) := ⟨_, rfl⟩
        rw [HY.out] at c1 hy HGI
        have hy' : (y : Int) < n := by omega
        obtain ⟨_, _, _, hcp⟩ := S1.out.nat
        obtain ⟨pg, poff, hpa, pcell⟩ := hcp (by omega)
        subst hpa
        have c2 := HE.out.cellOf (pcell y hy)
        clear hcp pcell
        obtain ⟨C, HC⟩ : ∃ C, Hid (F.getD y 0 = C) := ⟨_, rfl⟩
        rw [HC.out] at c2 HGI
        have hfz := HO.out.frozen (by rw [natL_len]; exact HL.out) i
        have hci := HO.out.intCell HL.out i hlt
        have HO2 := hide' (HO.out.storeN HL.out i C)
        have HBT := but_set wr g i (.int .i64 (C : Int))
        have HK2 : Hid (∀ q, q < i + 1 → (R.set i C).getD q 0 = G.getD q 0) := fun q hq => by
          by_cases e : q = i
          · subst e; rw [set_same (by rw [HL.out]; exact hlt), HGI.out]
          · rw [set_other fun e2 => e e2.symm]; exact HK.out q (by omega)
        go_wp2
        go_roundw
        case rel => exact ⟨i + 1, R.set i C, by omega, by go_num, (show _ = _ by rw [List.length_set]; exact HL.out), HK2, HO2, Ext.but HE.out Hg.out HBT, Hg⟩
        case measure => simp [intOf]; omega
      · have hlt' : decide ((i : Int) < n) = false := by simp; omega
        have hin : n = i := by omega
        have HR : Hid (R = G) := natL_ext (by rw [HL.out, HGL.out]) fun q hq => HK.out q (by rw [HL.out] at hq; omega)
        go_wp2
        go_ret2
        refine ⟨_, rfl, ?_, HEW.out⟩
        rw [← HR.out]
        exact HO.out
end Go.Proofs.YtlmbdafilboblaaGreat

/- Ranks by counting; a row's numbers in order, of like ones as they stand. Plain numbers, no conditions. -/
namespace Go.Proofs.YtlmbdafilboblaaGreat
set_option linter.unusedVariables false
set_option linter.unusedSimpArgs false

theorem nodup_permN {l : List Nat} : ∀ {l' : List Nat}, l.Nodup → (∀ x ∈ l, x ∈ l') → l'.length ≤ l.length → l.Perm l' := by
  induction l with
  | nil => intro l' _ _ h; rw [List.length_eq_zero_iff.1 (Nat.le_zero.1 h)]
  | cons a l ih =>
    intro l' hn hs hl
    rw [List.nodup_cons] at hn
    have ha := hs a List.mem_cons_self
    have h2 := List.length_erase_of_mem ha
    rw [List.length_cons] at hl
    have h1 := ih (l' := l'.erase a) hn.2 (fun x hx => by
      have hne : x ≠ a := fun e => hn.1 (e ▸ hx)
      exact (List.mem_erase_of_ne hne).2 (hs x (List.mem_cons_of_mem _ hx))) (by omega)
    exact (List.Perm.cons a h1).trans (List.perm_cons_erase ha).symm
theorem inj_permN {f : Nat → Nat} {n : Nat} (h : ∀ i, i < n → f i < n) (hi : ∀ i j, i < n → j < n → f i = f j → i = j) : ((List.range n).map f).Perm (List.range n) := by
  refine nodup_permN ?_ (fun x hx => ?_) (by simp)
  · rw [List.Nodup, List.pairwise_map]
    refine List.Pairwise.imp_of_mem ?_ List.nodup_range
    intro a b ha hb hab e
    exact hab (hi a b (List.mem_range.1 ha) (List.mem_range.1 hb) e)
  · obtain ⟨a, ha, rfl⟩ := List.mem_map.1 hx
    exact List.mem_range.2 (h a (List.mem_range.1 ha))

/-- How many there are ahead tells the place. -/
theorem rank_at {R : Nat → Nat → Bool} {S : List Nat} {n i : Nat} (hp : S.Perm (List.range n)) (hs : S.Pairwise fun a b => R a b = true) (hirr : ∀ a, R a a = false) (hasym : ∀ a b, R a b = true → R b a = false) (hi : i < n) :
    ((List.range n).filter fun j => R j (S.getD i 0)).length = i := by
  have hl : S.length = n := by rw [hp.length_eq, List.length_range]
  rw [← (hp.filter _).length_eq]
  have e : S.filter (fun j => R j (S.getD i 0)) = (S.take i).filter (fun j => R j (S.getD i 0)) ++ (S.drop i).filter (fun j => R j (S.getD i 0)) := by rw [← List.filter_append, List.take_append_drop]
  rw [e]
  have e1 : (S.take i).filter (fun j => R j (S.getD i 0)) = S.take i := by
    rw [List.filter_eq_self]
    intro a ha
    obtain ⟨q, hq, rfl⟩ := mem_getN ha
    rw [List.length_take] at hq
    have e2 : (S.take i).getD q 0 = S.getD q 0 := by
      simp only [List.getD_eq_getElem?_getD, List.getElem?_take]
      rw [if_pos (by omega)]
    rw [e2]
    exact pairN_at hs (show q < i by omega) (by omega)
  have e2 : (S.drop i).filter (fun j => R j (S.getD i 0)) = [] := by
    rw [List.filter_eq_nil_iff]
    intro a ha
    obtain ⟨q, hq, rfl⟩ := mem_getN ha
    rw [List.length_drop] at hq
    have e2 : (S.drop i).getD q 0 = S.getD (i + q) 0 := by simp only [List.getD_eq_getElem?_getD, List.getElem?_drop]
    rw [e2]
    by_cases h0 : q = 0
    · subst h0
      rw [Nat.add_zero, hirr]
      decide
    · rw [hasym _ _ (pairN_at hs (show i < i + q by omega) (by omega))]
      decide
  rw [e1, e2, List.append_nil, List.length_take]
  omega

/-- Less; of like ones the one ahead. -/
abbrev Lt1 (l : List Int) (a b : Nat) : Prop := l.getD a 0 < l.getD b 0 ∨ (l.getD a 0 = l.getD b 0 ∧ a < b)
theorem Lt1.irr {l : List Int} {a : Nat} : ¬ Lt1 l a a := by unfold Lt1; omega
theorem Lt1.asymm {l : List Int} {a b : Nat} (h : Lt1 l a b) : ¬ Lt1 l b a := by unfold Lt1 at *; omega
theorem Lt1.trans {l : List Int} {a b c : Nat} (h : Lt1 l a b) (k : Lt1 l b c) : Lt1 l a c := by unfold Lt1 at *; omega
theorem Lt1.total {l : List Int} {a b : Nat} (h : a ≠ b) : Lt1 l a b ∨ Lt1 l b a := by unfold Lt1; omega
/-- How many are less, or like it and ahead of it. -/
def rkN (l : List Int) (k : Nat) : Nat := ((List.range l.length).filter fun j => decide (Lt1 l j k)).length
def lfN (l : List Int) : List Nat := (List.range l.length).map (rkN l)
theorem lfN_len (l : List Int) : (lfN l).length = l.length := by simp [lfN]
theorem lfN_at {l : List Int} {k : Nat} (h : k < l.length) : (lfN l).getD k 0 = rkN l k := mapI_at _ _ h
/-- All places, in order of their numbers. -/
def stN (l : List Int) : List Nat := (List.range l.length).mergeSort fun a b => decide (¬ Lt1 l b a)
theorem stN_perm (l : List Int) : (stN l).Perm (List.range l.length) := List.mergeSort_perm _ _
theorem stN_len (l : List Int) : (stN l).length = l.length := by rw [(stN_perm l).length_eq, List.length_range]
theorem stN_sorted (l : List Int) : (stN l).Pairwise (Lt1 l) := by
  have h := List.pairwise_mergeSort (le := fun a b => decide (¬ Lt1 l b a)) (fun a b c h1 h2 => by
    simp only [decide_eq_true_eq] at *
    unfold Lt1 at *
    omega) (fun a b => by
    simp only [Bool.or_eq_true, decide_eq_true_eq]
    by_cases h : Lt1 l b a
    · exact .inr (fun k => h.asymm k)
    · exact .inl h) (List.range l.length)
  have hn : (stN l).Nodup := (stN_perm l).nodup_iff.2 List.nodup_range
  have h2 : (stN l).Pairwise fun a b => a ≠ b ∧ (decide (¬ Lt1 l b a)) = true := hn.and h
  refine h2.imp fun ⟨h3, h4⟩ => ?_
  simp only [decide_eq_true_eq] at h4
  exact (Lt1.total h3).resolve_right h4
theorem stN_lt {l : List Int} {i : Nat} (h : i < l.length) : (stN l).getD i 0 < l.length := List.mem_range.1 ((stN_perm l).mem_iff.1 (getN_mem (by rw [stN_len]; exact h)))
theorem rk_st {l : List Int} {i : Nat} (h : i < l.length) : rkN l ((stN l).getD i 0) = i :=
  rank_at (R := fun a b => decide (Lt1 l a b)) (stN_perm l) ((stN_sorted l).imp fun h => decide_eq_true h) (fun a => decide_eq_false Lt1.irr) (fun a b h => decide_eq_false (of_decide_eq_true h).asymm) h
theorem st_on {l : List Int} {k : Nat} (h : k < l.length) : ∃ i, i < l.length ∧ (stN l).getD i 0 = k := by
  obtain ⟨i, hi, e⟩ := mem_getN ((stN_perm l).mem_iff.2 (List.mem_range.2 h))
  exact ⟨i, by rw [stN_len] at hi; exact hi, e⟩
theorem rk_lt {l : List Int} {k : Nat} (h : k < l.length) : rkN l k < l.length := by
  obtain ⟨i, hi, rfl⟩ := st_on h
  rw [rk_st hi]
  exact hi
theorem st_rk {l : List Int} {k : Nat} (h : k < l.length) : (stN l).getD (rkN l k) 0 = k := by
  obtain ⟨i, hi, rfl⟩ := st_on h
  rw [rk_st hi]
theorem rk_iff {l : List Int} {j k : Nat} (hj : j < l.length) (hk : k < l.length) : rkN l j < rkN l k ↔ Lt1 l j k := by
  obtain ⟨i, hi, rfl⟩ := st_on hj
  obtain ⟨m, hm, rfl⟩ := st_on hk
  rw [rk_st hi, rk_st hm]
  constructor
  · intro h
    exact pairN_at (stN_sorted l) h (by rw [stN_len]; exact hm)
  · intro h
    rcases Nat.lt_trichotomy i m with g | g | g
    · exact g
    · subst g; exact absurd h Lt1.irr
    · exact absurd (pairN_at (stN_sorted l) g (by rw [stN_len]; exact hi)) h.asymm
theorem rk_inj {l : List Int} {j k : Nat} (hj : j < l.length) (hk : k < l.length) (h : rkN l j = rkN l k) : j = k := by
  rw [← st_rk hj, h, st_rk hk]
theorem lfN_perm (l : List Int) : (lfN l).Perm (List.range l.length) := inj_permN (fun _ h => rk_lt h) (fun _ _ h k e => rk_inj h k e)
end Go.Proofs.YtlmbdafilboblaaGreat

/- What stands ahead of a text's endings, in order, and the text out of it. Plain numbers, no conditions. -/
namespace Go.Proofs.YtlmbdafilboblaaGreat
set_option linter.unusedVariables false
set_option linter.unusedSimpArgs false

/-- The rows that have a byte ahead of them. -/
def aheadN (n : Nat) (A : List Nat) : List Nat := (n :: A).filter fun p => decide (p ≠ 0)
/-- What stands ahead of the endings. -/
def bwL (s : List Int) (A : List Nat) : List Int := (aheadN s.length A).map fun p => s.getD (p - 1) 0
/-- Which row the whole text is. -/
def bwAt (s : List Int) (A : List Nat) : Nat := (s.length :: A).idxOf 0

theorem ends_mem {n x : Nat} {A : List Nat} (hA : A.Perm (List.range n)) : x ∈ n :: A ↔ x ≤ n := by
  rw [List.mem_cons, hA.mem_iff, List.mem_range]
  omega
theorem ends_nodup {n : Nat} {A : List Nat} (hA : A.Perm (List.range n)) : (n :: A).Nodup := by
  rw [List.nodup_cons]
  exact ⟨fun h => by have := List.mem_range.1 (hA.mem_iff.1 h); omega, hA.nodup_iff.2 List.nodup_range⟩
theorem ends_len {n : Nat} {A : List Nat} (hA : A.Perm (List.range n)) : (n :: A).length = n + 1 := by
  rw [List.length_cons, hA.length_eq, List.length_range]
theorem ends_le {n : Nat} {A : List Nat} (hA : A.Perm (List.range n)) {r : Nat} (hr : r ≤ n) : (n :: A).getD r 0 ≤ n := (ends_mem hA).1 (getN_mem (by rw [ends_len hA]; omega))
theorem at_le {n : Nat} {A : List Nat} (hA : A.Perm (List.range n)) : (n :: A).idxOf 0 ≤ n := by
  have := List.idxOf_lt_length_of_mem ((ends_mem hA).2 (Nat.zero_le n))
  rw [ends_len hA] at this
  omega
theorem at_is {n : Nat} {A : List Nat} (hA : A.Perm (List.range n)) {r : Nat} (hr : r ≤ n) : (n :: A).getD r 0 = 0 ↔ r = (n :: A).idxOf 0 := by
  have h1 := at_le hA
  have h2 : (n :: A).getD ((n :: A).idxOf 0) 0 = 0 := by
    rw [List.getD_eq_getElem?_getD, List.getElem?_eq_getElem (by rw [ends_len hA]; omega)]
    exact List.getElem_idxOf _
  constructor
  · intro h
    exact nodup_getN (ends_nodup hA) (by rw [ends_len hA]; omega) (by rw [ends_len hA]; omega) (by rw [h, h2])
  · intro h
    rw [h, h2]
theorem ahead_erase {n : Nat} {A : List Nat} (hA : A.Perm (List.range n)) : aheadN n A = (n :: A).eraseIdx ((n :: A).idxOf 0) := by
  unfold aheadN
  have h1 := (ends_nodup hA).erase_eq_filter 0
  have h2 : (n :: A).filter (fun p => decide (p ≠ 0)) = (n :: A).filter (· != 0) := List.filter_congr fun x _ => by
    by_cases h : x = 0 <;> simp [h]
  rw [h2, ← h1]
  exact List.erase_eq_eraseIdx_of_idxOf rfl
theorem ahead_len {n : Nat} {A : List Nat} (hA : A.Perm (List.range n)) : (aheadN n A).length = n := by
  rw [ahead_erase hA, List.length_eraseIdx_of_lt (by have := at_le hA; rw [ends_len hA]; omega), ends_len hA]
  omega
/-- Which row such a one is. -/
def rowOf (at' k : Nat) : Nat := if k < at' then k else k + 1
theorem ahead_at {n : Nat} {A : List Nat} (hA : A.Perm (List.range n)) (k : Nat) : (aheadN n A).getD k 0 = (n :: A).getD (rowOf ((n :: A).idxOf 0) k) 0 := by
  rw [ahead_erase hA]
  simp only [List.getD_eq_getElem?_getD, List.getElem?_eraseIdx, rowOf]
  split <;> rfl
theorem ahead_pos {n : Nat} {A : List Nat} (hA : A.Perm (List.range n)) {k : Nat} (hk : k < n) : 1 ≤ (aheadN n A).getD k 0 ∧ (aheadN n A).getD k 0 ≤ n := by
  have hm := getN_mem (l := aheadN n A) (i := k) (by rw [ahead_len hA]; exact hk)
  unfold aheadN at hm ⊢
  rw [List.mem_filter] at hm
  have h1 := (ends_mem hA).1 hm.1
  have h2 := of_decide_eq_true hm.2
  omega
theorem ahead_perm {n : Nat} {A : List Nat} (hA : A.Perm (List.range n)) : ((List.range n).map fun j => (aheadN n A).getD j 0 - 1).Perm (List.range n) := by
  have hn : (aheadN n A).Nodup := List.Pairwise.sublist List.filter_sublist (ends_nodup hA)
  refine inj_permN (fun j hj => ?_) (fun i j hi hj e => ?_)
  · have := ahead_pos hA hj
    omega
  · have h1 := ahead_pos hA hi
    have h2 := ahead_pos hA hj
    exact nodup_getN hn (by rw [ahead_len hA]; exact hi) (by rw [ahead_len hA]; exact hj) (by omega)
theorem bw_len {s : List Int} {A : List Nat} (hA : A.Perm (List.range s.length)) : (bwL s A).length = s.length := by
  unfold bwL
  rw [List.length_map, ahead_len hA]
theorem bw_at {s : List Int} {A : List Nat} (hA : A.Perm (List.range s.length)) {k : Nat} (hk : k < s.length) : (bwL s A).getD k 0 = s.getD ((aheadN s.length A).getD k 0 - 1) 0 := by
  have h : k < (aheadN s.length A).length := by rw [ahead_len hA]; exact hk
  simp [bwL, List.getD, List.getElem?_eq_getElem h]

def ltD (s : List Int) (a b : Nat) : Bool := decide (cmpI (s.drop a) (s.drop b) < 0)
theorem ltD_iff {s : List Int} {a b : Nat} : ltD s a b = true ↔ ltE s a b := decide_eq_true_iff
theorem ltE_asymm {s : List Int} {a b : Nat} (h : ltE s a b) (k : ltE s b a) : False := ltE_irrefl (ltE_trans h k)
theorem ahead_sorted {s : List Int} {A : List Nat} (h : InOrd s A) : (aheadN s.length A).Pairwise (ltE s) := by
  refine List.Pairwise.sublist List.filter_sublist (List.pairwise_cons.2 ⟨fun b hb => ?_, h.2⟩)
  exact ltE_end (Nat.le_refl _) (List.mem_range.1 (h.1.mem_iff.1 hb))
/-- From the last letters to the first: a step back in the text. -/
theorem bw_step {s : List Int} {A : List Nat} (h : InOrd s A) {k i : Nat} (hk : k < s.length) (hF : (aheadN s.length A).getD k 0 = i + 1) : rkN (bwL s A) k < s.length ∧ A.getD (rkN (bwL s A) k) 0 = i := by
  have hA := h.1
  have hi : i < s.length := by have := ahead_pos hA hk; omega
  have hS := ahead_sorted h
  have hFl := ahead_len hA
  have key : ∀ j, j < s.length → (Lt1 (bwL s A) j k ↔ ltE s ((aheadN s.length A).getD j 0 - 1) i) := fun j hj => by
    have hp := ahead_pos hA hj
    obtain ⟨p, hp1⟩ : ∃ p, (aheadN s.length A).getD j 0 = p + 1 := ⟨(aheadN s.length A).getD j 0 - 1, by omega⟩
    have hjk : j < k ↔ ltE s (p + 1) (i + 1) := by
      rw [← hp1, ← hF]
      constructor
      · intro g
        exact pairN_at hS g (by rw [hFl]; exact hk)
      · intro g
        rcases Nat.lt_trichotomy j k with g2 | g2 | g2
        · exact g2
        · subst g2; exact absurd g ltE_irrefl
        · exact (ltE_asymm g (pairN_at hS g2 (by rw [hFl]; exact hj))).elim
    unfold Lt1
    rw [bw_at hA hj, bw_at hA hk, hp1, hF, hjk]
    simp only [Nat.add_sub_cancel]
    rcases Int.lt_trichotomy (s.getD p 0) (s.getD i 0) with g | g | g
    · exact ⟨fun _ => ltE_less (by omega) hi g, fun _ => .inl g⟩
    · rw [← ltE_same (by omega) hi g]
      constructor
      · rintro (g2 | g2)
        · omega
        · exact g2.2
      · exact fun g2 => .inr ⟨g, g2⟩
    · constructor
      · rintro (g2 | g2) <;> omega
      · intro g2
        exact (ltE_asymm g2 (ltE_less hi (by omega) g)).elim
  obtain ⟨m, hm, em⟩ := mem_getN (hA.mem_iff.2 (List.mem_range.2 hi))
  rw [h.len] at hm
  have hr : rkN (bwL s A) k = m := by
    unfold rkN
    rw [bw_len hA]
    have e1 : (List.range s.length).filter (fun j => decide (Lt1 (bwL s A) j k)) = (List.range s.length).filter ((fun p => decide (cmpI (s.drop p) (s.drop i) < 0)) ∘ fun j => (aheadN s.length A).getD j 0 - 1) :=
      List.filter_congr fun j hj => by
        rw [Function.comp, Bool.eq_iff_iff, decide_eq_true_eq, decide_eq_true_eq]
        exact key j (List.mem_range.1 hj)
    have e2 := congrArg List.length (List.filter_map (f := fun j => (aheadN s.length A).getD j 0 - 1) (p := fun p => decide (cmpI (s.drop p) (s.drop i) < 0)) (l := List.range s.length))
    rw [List.length_map] at e2
    rw [e1, ← e2, ((ahead_perm hA).filter _).length_eq]
    have := rank_at (R := ltD s) hA (h.2.imp fun g => ltD_iff.2 g) (fun a => Bool.eq_false_iff.2 fun g => ltE_irrefl (ltD_iff.1 g)) (fun a b g => Bool.eq_false_iff.2 fun k => ltE_asymm (ltD_iff.1 g) (ltD_iff.1 k)) hm
    rw [em] at this
    exact this
  rw [hr]
  exact ⟨hm, em⟩

/-- Which of the bytes a row has ahead of it. -/
def byteOf (at' row : Nat) : Nat := if at' < row then row - 1 else row
theorem row_byte {at' row : Nat} (h : row ≠ at') : rowOf at' (byteOf at' row) = row := by
  unfold rowOf byteOf
  split <;> split <;> omega
/-- Letter by letter from the end. -/
def bkGo (l : List Int) (at' : Nat) : Nat → Nat → List Int → Option (List Int)
  | 0, _, out => some out
  | i + 1, row, out => if row = at' then none else bkGo l at' i (rkN l (byteOf at' row) + 1) (l.getD (byteOf at' row) 0 :: out)
theorem byte_lt {n at' row : Nat} (hr : row ≤ n) (ha : at' ≤ n) (hne : row ≠ at') : byteOf at' row < n := by
  unfold byteOf
  split <;> omega
theorem bkGo_text {s : List Int} {A : List Nat} (h : InOrd s A) : ∀ (i row : Nat), row ≤ s.length → (s.length :: A).getD row 0 = i → bkGo (bwL s A) (bwAt s A) i row (s.drop i) = some s := by
  intro i
  induction i with
  | zero => intro row _ _; rw [bkGo, List.drop_zero]
  | succ i ih =>
    intro row hr he
    have hA := h.1
    have hne : row ≠ bwAt s A := fun e => by
      have := (at_is hA hr).2 e
      omega
    have hk : byteOf (bwAt s A) row < s.length := byte_lt hr (at_le hA) hne
    have hF : (aheadN s.length A).getD (byteOf (bwAt s A) row) 0 = i + 1 := by
      rw [ahead_at hA]
      show (s.length :: A).getD (rowOf (bwAt s A) (byteOf (bwAt s A) row)) 0 = i + 1
      rw [row_byte hne, he]
    obtain ⟨h1, h2⟩ := bw_step h hk hF
    have hi : i < s.length := by have := ends_le hA hr; omega
    rw [bkGo, if_neg hne, bw_at hA hk, hF, Nat.add_sub_cancel, ← drop_getD hi]
    exact ih _ (by omega) h2

/-- All places in order of endings. -/
def sortE (s : List Int) : List Nat := (List.range s.length).mergeSort fun a b => decide (¬ cmpI (s.drop b) (s.drop a) < 0)
theorem sortE_ord (s : List Int) : InOrd s (sortE s) := by
  have hp : (sortE s).Perm (List.range s.length) := List.mergeSort_perm _ _
  have h := List.pairwise_mergeSort (le := fun a b => decide (¬ cmpI (s.drop b) (s.drop a) < 0)) (fun a b c h1 h2 => by
    simp only [decide_eq_true_eq] at *
    rw [cmpI_swap] at h1 h2 ⊢
    have := cmpI_trans (s.drop a) (s.drop b) (s.drop c) (by omega) (by omega)
    omega) (fun a b => by
    simp only [Bool.or_eq_true, decide_eq_true_eq]
    rw [cmpI_swap (s.drop a) (s.drop b)]
    omega) (List.range s.length)
  refine ⟨hp, ?_⟩
  have hn : (sortE s).Nodup := hp.nodup_iff.2 List.nodup_range
  have h2 : (sortE s).Pairwise fun a b => a ≠ b ∧ (decide (¬ cmpI (s.drop b) (s.drop a) < 0)) = true := hn.and h
  refine h2.imp_of_mem fun {a b} ha hb ⟨h3, h4⟩ => ?_
  simp only [decide_eq_true_eq] at h4
  have g1 := List.mem_range.1 (hp.mem_iff.1 ha)
  have g2 := List.mem_range.1 (hp.mem_iff.1 hb)
  by_cases g : ltE s a b
  · exact g
  · exact absurd (ltE_total (by omega) (by omega) h3 g) h4
/-- A text turned: its bytes, and which row it is. -/
def turnB (s : List Int) : List Int × Int := (bwL s (sortE s), (bwAt s (sortE s) : Int))
theorem turnB_eq {s : List Int} {A : List Nat} (h : InOrd s A) : turnB s = (bwL s A, (bwAt s A : Int)) := by
  unfold turnB
  rw [(sortE_ord s).eq h]
theorem turnB_len (s : List Int) : (turnB s).1.length = s.length := bw_len (sortE_ord s).1
def rowMayB (l : List Int) (at' : Int) : Bool := decide (0 ≤ at' ∧ at' ≤ l.length ∧ (l.length = 0 ∨ at' ≠ 0))
theorem turnB_may (s : List Int) : rowMayB (turnB s).1 (turnB s).2 = true := by
  unfold rowMayB
  have h := sortE_ord s
  have h1 := at_le h.1
  rw [turnB_len]
  refine decide_eq_true ⟨by unfold turnB; omega, by unfold turnB bwAt; omega, ?_⟩
  by_cases h0 : s.length = 0
  · exact .inl h0
  · refine .inr fun e => ?_
    have e2 : bwAt s (sortE s) = 0 := by unfold turnB at e; omega
    have := (at_is h.1 (Nat.zero_le _)).2 e2.symm
    exact h0 this
/-- The text that is turned to these, or none (5). -/
def backB (l : List Int) (at' : Int) : List Int × Int :=
  if rowMayB l at' = true then
    match bkGo l at'.toNat l.length 0 [] with
    | none => ([], 5)
    | some out => if turnB out = (l, at') then (out, 0) else ([], 5)
  else ([], 5)
theorem back_yes {s l : List Int} {at' : Int} (h : turnB s = (l, at')) : backB l at' = (s, 0) := by
  have ho := sortE_ord s
  have hm := turnB_may s
  have hl := turnB_len s
  have hgo := bkGo_text ho s.length 0 (Nat.zero_le _) rfl
  rw [h] at hm hl
  have e : bwL s (sortE s) = l ∧ (bwAt s (sortE s) : Int) = at' := by
    unfold turnB at h
    exact Prod.mk.inj h
  unfold backB
  rw [if_pos hm, show l.length = s.length from hl, ← e.2, ← e.1, Int.toNat_natCast]
  rw [List.drop_of_length_le (Nat.le_refl _)] at hgo
  rw [hgo]
  show (if turnB s = _ then _ else _) = _
  rw [h, e.1, e.2, if_pos rfl]
theorem back_no {l : List Int} {at' : Int} (h : ∀ s, turnB s ≠ (l, at')) : backB l at' = ([], 5) := by
  unfold backB
  split
  · split
    · rfl
    · rw [if_neg (h _)]
  · rfl
theorem back_iff {s l : List Int} {at' : Int} : backB l at' = (s, 0) ↔ turnB s = (l, at') := by
  refine ⟨fun h => ?_, back_yes⟩
  unfold backB at h
  split at h
  · split at h
    · cases h
    · split at h
      · rename_i e
        cases h
        exact e
      · cases h
  · cases h
theorem turnB_inj {s t : List Int} (h : turnB s = turnB t) : s = t := by
  have h1 := back_yes (s := s) (l := (turnB t).1) (at' := (turnB t).2) h
  have h2 := back_yes (s := t) (l := (turnB t).1) (at' := (turnB t).2) rfl
  rw [h1] at h2
  exact (Prod.mk.inj h2).1
end Go.Proofs.YtlmbdafilboblaaGreat

/- Whether a row is all places in order. Plain numbers, no conditions. -/
namespace Go.Proofs.YtlmbdafilboblaaGreat
set_option linter.unusedVariables false
set_option linter.unusedSimpArgs false

/-- Is it all places, in order of endings? -/
def saB (s a : List Int) : Bool := decide (a = natL (sortE s))
/-- And that what neighbours have alike? -/
def chkB (s a h : List Int) : Bool := saB s a && decide (lcpL s a = h)
theorem saB_iff {s a : List Int} : saB s a = true ↔ a = natL (sortE s) := decide_eq_true_iff
theorem saB_ord {s : List Int} {R : List Nat} (h : InOrd s R) (a : List Int) : saB s a = decide (a = natL R) := by
  unfold saB
  rw [(sortE_ord s).eq h]
theorem saB_ok {s a : List Int} (h : saB s a = true) : lcpOk s a = true := by
  have := saB_iff.1 h
  subst this
  have ho := sortE_ord s
  exact lcpOk_yes (by rw [natL_len, ho.len]) (ordB_nat (by have := ho.1; rwa [← ho.len] at this))
theorem saB_len {s a : List Int} (h : a.length ≠ s.length) : saB s a = false := by
  unfold saB
  refine decide_eq_false fun e => h ?_
  rw [e, natL_len, (sortE_ord s).len]
theorem saB_yes {s : List Int} {R : List Nat} (h : InOrd s R) : saB s (natL R) = true := by rw [saB_ord h]; exact decide_eq_true rfl
theorem chkB_yes {s a : List Int} (h : saB s a = true) : chkB s a (lcpL s a) = true := by
  unfold chkB
  rw [h, decide_eq_true rfl]
  rfl
theorem chkB_no {s a h : List Int} (hn : lcpL s a ≠ h) : chkB s a h = false := by
  unfold chkB
  rw [decide_eq_false hn, Bool.and_false]
theorem chkB_not {s a h : List Int} (hn : saB s a = false) : chkB s a h = false := by
  unfold chkB
  rw [hn, Bool.false_and]
/-- Two numbers changed for each other. -/
theorem swap_same {l : List Int} {i k : Nat} (hn : l.Nodup) (hi : i < l.length) (hk : k < l.length) : (l.set i (l.getD k 0)).set k (l.getD i 0) = l ↔ i = k := by
  constructor
  · intro h
    by_cases e : i = k
    · exact e
    · have h2 : ((l.set i (l.getD k 0)).set k (l.getD i 0)).getD i 0 = l.getD i 0 := by rw [h]
      rw [setI_other (fun e2 => e e2.symm), setI_same hi] at h2
      exact (nodup_getI hn hk hi h2).symm
  · intro e
    subst e
    rw [List.set_set, setI_self hi]
theorem add_other {l : List Int} {i : Nat} {z : Int} (hi : i < l.length) (hz : z ≠ 0) : l.set i (l.getD i 0 + z) ≠ l := by
  intro h
  have h2 : (l.set i (l.getD i 0 + z)).getD i 0 = l.getD i 0 := by rw [h]
  rw [setI_same hi] at h2
  omega
end Go.Proofs.YtlmbdafilboblaaGreat

/- An order of places is that of their endings just if it comes out again, where the places ahead of its own are sorted by their bytes, the last place first. Plain numbers, no conditions. -/
namespace Go.Proofs.YtlmbdafilboblaaGreat
set_option linter.unusedVariables false
set_option linter.unusedSimpArgs false

/-- The places ahead of a row's. -/
def bhF (l : List Nat) : List Nat := l.filterMap fun p => if 0 < p then some (p - 1) else none
theorem bhF_snoc_pos {l : List Nat} {p : Nat} (h : 0 < p) : bhF (l ++ [p]) = bhF l ++ [p - 1] := by
  unfold bhF
  rw [List.filterMap_append]
  simp [h]
theorem bhF_snoc_zero {l : List Nat} : bhF (l ++ [0]) = bhF l := by
  unfold bhF
  rw [List.filterMap_append]
  simp
theorem bhF_le (l : List Nat) : (bhF l).length ≤ l.length := List.length_filterMap_le _ _
theorem bhF_range (n : Nat) : bhF (List.range (n + 1)) = List.range n := by
  unfold bhF
  rw [List.range_succ_eq_map, List.filterMap_cons]
  simp only [Nat.lt_irrefl, if_false]
  rw [List.filterMap_map]
  have : ((fun p => if 0 < p then some (p - 1) else none) ∘ Nat.succ) = (some : Nat → Option Nat) := by
    funext p
    simp
  rw [this, List.filterMap_some]
/-- The last place, and those ahead. -/
def bhL (l : List Nat) : List Nat := if l.length = 0 then [] else (l.length - 1) :: bhF l
theorem bhL_perm {R : List Nat} {n : Nat} (h : R.Perm (List.range n)) : (bhL R).Perm (List.range n) := by
  have hl : R.length = n := by rw [h.length_eq, List.length_range]
  unfold bhL
  rw [hl]
  cases n with
  | zero => exact List.Perm.refl _
  | succ n =>
    rw [if_neg (by omega), Nat.add_sub_cancel]
    have h1 : (bhF R).Perm (List.range n) := by
      have := h.filterMap fun p => if 0 < p then some (p - 1) else none
      rwa [show List.filterMap (fun p => if 0 < p then some (p - 1) else none) (List.range (n + 1)) = List.range n from bhF_range n] at this
    rw [List.range_succ]
    exact (h1.cons n).trans (List.perm_append_comm (l₁ := [n]) (l₂ := List.range n))
theorem bhL_pairs (R : List Nat) : (bhL R).Pairwise fun a b => a + 1 = R.length ∨ [a + 1, b + 1].Sublist R := by
  unfold bhL
  split
  · exact List.Pairwise.nil
  · rename_i h
    rw [List.pairwise_cons]
    refine ⟨fun b _ => .inl (by omega), ?_⟩
    unfold bhF
    rw [List.pairwise_filterMap]
    rw [List.pairwise_iff_forall_sublist]
    intro a a' hs b hb b' hb'
    refine .inr ?_
    have h1 : a = b + 1 := by
      by_cases h : 0 < a
      · rw [if_pos h] at hb
        have := Option.some.inj hb
        omega
      · rw [if_neg h] at hb
        cases hb
    have h2 : a' = b' + 1 := by
      by_cases h : 0 < a'
      · rw [if_pos h] at hb'
        have := Option.some.inj hb'
        omega
      · rw [if_neg h] at hb'
        cases hb'
    rw [← h1, ← h2]
    exact hs
theorem keyN_bytes {s : List Int} (h8 : Bytes8 s) {p : Nat} : (keyN s p : Int) = s.getD p 0 ∧ keyN s p < 256 := by
  have := h8.get p
  unfold keyN
  omega
/-- What comes out of a pass over what stands ahead. -/
def againL (s : List Int) (R : List Nat) : List Nat := csort 256 (bhL R) (keyN s)
theorem again_pairs {s : List Int} (R : List Nat) : (againL s R).Pairwise fun a b => keyN s a < keyN s b ∨ (keyN s a = keyN s b ∧ (a + 1 = R.length ∨ [a + 1, b + 1].Sublist R)) :=
  csort_sorted 256 (keyN s) (bhL_pairs R)
theorem again_perm {s : List Int} (h8 : Bytes8 s) {R : List Nat} (h : R.Perm (List.range s.length)) : (againL s R).Perm (List.range s.length) :=
  (csort_perm fun p _ => (keyN_bytes h8).2).trans (bhL_perm h)
theorem sub_two {R : List Nat} {a b n : Nat} (h : R.Perm (List.range n)) (hs : [a, b].Sublist R) : a < n ∧ b < n ∧ a ≠ b := by
  refine ⟨List.mem_range.1 (h.mem_iff.1 (hs.subset (by simp))), List.mem_range.1 (h.mem_iff.1 (hs.subset (by simp))), ?_⟩
  have := hs.nodup (h.nodup_iff.2 List.nodup_range)
  simpa using this
theorem step_lt {s : List Int} (h8 : Bytes8 s) {R : List Nat} (hp : R.Perm (List.range s.length)) {a b : Nat} (ha : a < s.length) (hb : b < s.length) (hne : a ≠ b)
    (h : keyN s a < keyN s b ∨ (keyN s a = keyN s b ∧ (a + 1 = R.length ∨ [a + 1, b + 1].Sublist R))) (ih : [a + 1, b + 1].Sublist R → ltE s (a + 1) (b + 1)) : ltE s a b := by
  have k1 := (keyN_bytes h8 (p := a)).1
  have k2 := (keyN_bytes h8 (p := b)).1
  have hl : R.length = s.length := by rw [hp.length_eq, List.length_range]
  rcases h with h | ⟨h, h2⟩
  · exact ltE_less ha hb (by omega)
  · rw [ltE_same ha hb (by omega)]
    rcases h2 with h2 | h2
    · exact ltE_end (by omega) (by omega)
    · exact ih h2
theorem again_iff {s : List Int} (h8 : Bytes8 s) {R : List Nat} (hp : R.Perm (List.range s.length)) : againL s R = R ↔ InOrd s R := by
  constructor
  · intro he
    refine ⟨hp, ?_⟩
    have h1 := again_pairs (s := s) R
    rw [he] at h1
    rw [List.pairwise_iff_forall_sublist] at h1 ⊢
    have h2 : ∀ m a b, s.length - a ≤ m → [a, b].Sublist R → ltE s a b := by
      intro m
      induction m with
      | zero =>
        intro a b hm hs
        have := (sub_two hp hs).1
        omega
      | succ m ih =>
        intro a b hm hs
        obtain ⟨ha, hb, hne⟩ := sub_two hp hs
        exact step_lt h8 hp ha hb hne (h1 hs) fun h => ih _ _ (by omega) h
    intro a b hs
    exact h2 _ a b (Nat.le_refl _) hs
  · intro ho
    refine InOrd.eq ⟨again_perm h8 hp, ?_⟩ ho
    have h1 := again_pairs (s := s) R
    rw [List.pairwise_iff_forall_sublist] at h1 ⊢
    intro a b hs
    obtain ⟨ha, hb, hne⟩ := sub_two (again_perm h8 hp) hs
    exact step_lt h8 hp ha hb hne (h1 hs) fun h => (List.pairwise_iff_forall_sublist.1 ho.2) h
theorem saB_again {s : List Int} (h8 : Bytes8 s) {R : List Nat} (hp : R.Perm (List.range s.length)) : saB s (natL R) = decide (natL (againL s R) = natL R) := by
  have h1 : saB s (natL R) = true ↔ natL (againL s R) = natL R := by
    constructor
    · intro h
      have h2 := saB_iff.1 h
      have h3 : R = sortE s := by rw [← toN_nat R, h2, toN_nat]
      rw [(again_iff h8 hp).2 (by rw [h3]; exact sortE_ord s)]
    · intro h
      have h3 : againL s R = R := by rw [← toN_nat (againL s R), h, toN_nat]
      exact saB_yes ((again_iff h8 hp).1 h3)
  cases h : saB s (natL R)
  · rw [eq_comm, decide_eq_false_iff_not, ← h1, h]
    exact Bool.false_ne_true
  · rw [eq_comm, decide_eq_true_iff, ← h1, h]
theorem saB_noperm {s a : List Int} (h : ordB a = false) : saB s a = false := by
  rw [Bool.eq_false_iff]
  intro e
  have h2 := saB_iff.1 e
  have := (sortE_ord s)
  rw [h2, ordB_nat (n := s.length) this.1] at h
  cases h
end Go.Proofs.YtlmbdafilboblaaGreat

/- Contracts of check.numbers and placesAhead. -/
namespace Go.Proofs.YtlmbdafilboblaaGreat
set_option linter.unusedVariables false
set_option linter.unusedSimpArgs false
open Go.RowKit

set_option maxHeartbeats 1000000 in
theorem chNumbers_any (v : Value) (zs : List Int) (w : World) (hv : Sl .u8 w v zs) (h8 : Bytes8 zs) (hlen : zs.length ≤ 1000000) :
    Calls Tryz.prog 85 #[v] w fun e w' => ∃ u, e = .returned u ∧ Own .i64 3 w.heap.size w' u zs ∧ Ext w w' := by
  have HV := hide' hv
  have H8 := hide' h8
  obtain ⟨a, c, rfl, _⟩ := hv
  obtain ⟨n, HN⟩ : ∃ n, Hid (zs.length = n) := ⟨_, rfl⟩
  rw [HN.out] at HV hlen ⊢
  obtain ⟨w1, hmk, ho, he⟩ := make_ints w n hlen
  obtain ⟨g, HG⟩ : ∃ g, Hid (w.heap.size = g) := ⟨_, rfl⟩
  have hgw : w.heap.size ≤ g := by rw [HG.out]; exact Nat.le_refl _
  rw [HG.out] at ho hmk ⊢
  have O1 := hide' ho
  have X1 := hide' he
  have H0 : Hid (HalfI zs 0 (List.replicate n 0)) := by show HalfI _ _ _; rw [← HN.out]; exact HalfI.start zs
  clear ho he h8
  go_enter Tryz.func85, Tryz.ntmps85
  go_wp2
  go_loopw [11] (fun vi wr => ∃ (i : Nat) (r : List Int), i ≤ n ∧ vi = .int .i64 i ∧ Hid (HalfI zs i r) ∧ Hid (Own .i64 3 g wr (.slice (some ⟨g, 0, none⟩) n n) r) ∧ Hid (Ext w wr)) (fun vi _ => n - (intOf vi).toNat)
  case atStart => exact ⟨0, _, Nat.zero_le _, rfl, H0, O1, X1⟩
  case round =>
    clear O1 X1 H0 hmk
    obtain ⟨i, r, hi, rfl, HH, HO, HE⟩ := hrel
    have HRL : Hid (r.length = n) := by show _ = _; rw [HH.out.len, HN.out]
    by_cases hlt : i < n
    · have hlt' : (i : Int) < n := by omega
      have H1 := hide' (HH.out.next (by rw [HN.out]; exact hlt))
      obtain ⟨_, g1, o1, rfl, k1⟩ := HV.out.at (fun e => by have := HN.out; rw [e] at this; simp at this; omega)
      have c1 := HE.out.cellOf (k1 i hlt)
      have hz := H8.out.get i
      obtain ⟨z, HZ⟩ : ∃ z, Hid (zs.getD i 0 = z) := ⟨_, rfl⟩
      rw [HZ.out] at c1 H1 hz
      have hw : IntKind.i64.wrap z = z := by rw [IntKind.wrap_i64]; omega
      have c3 := HO.out.cell HRL.out i hlt
      have z3 := HO.out.frozen HRL.out i
      have O6 := hide' (HO.out.store HRL.out i z)
      have X6 : Hid (Ext w (wr.setCell ⟨g, i, none⟩ (.int .i64 z))) := Ext.but HE.out hgw (but_set _ _ _ _)
      clear k1 HO HE HH
      go_wp2
      go_roundw
      case rel => exact ⟨i + 1, _, by omega, by go_num, H1, O6, X6⟩
      case measure => simp [intOf] <;> omega
    · have d2 : decide ((i : Int) < n) = false := by simp; omega
      have hin : n = i := by omega
      have HD : Hid (r = zs) := by
        show _ = _
        have := HH.out
        rw [← hin, ← HN.out] at this
        exact this.done
      go_wp2
      go_ret
      refine ⟨_, rfl, ?_, HE.out⟩
      rw [← HD.out]
      exact HO.out

/-- What stands in the row after i rounds. -/
def bhAt (R : List Nat) (i : Nat) : List Nat := (R.length - 1) :: bhF (R.take i)
theorem bhAt_zero (R : List Nat) : natL (bhAt R 0) = [(R.length : Int) - 1] ∨ R.length = 0 := by
  by_cases h : R.length = 0
  · exact .inr h
  · left
    unfold bhAt natL bhF
    simp
    omega
theorem bhTake_succ {R : List Nat} {i : Nat} (h : i < R.length) : R.take (i + 1) = R.take i ++ [R.getD i 0] := by
  rw [List.take_succ_eq_append_getElem h, List.getD_eq_getElem?_getD, List.getElem?_eq_getElem h]
  rfl
theorem bhAt_pos {R : List Nat} {i : Nat} (h : i < R.length) (hp : 0 < R.getD i 0) : natL (bhAt R (i + 1)) = natL (bhAt R i) ++ [(R.getD i 0 : Int) - 1] := by
  unfold bhAt
  rw [bhTake_succ h, bhF_snoc_pos hp, ← List.cons_append, show (R.getD i 0 : Int) - 1 = ((R.getD i 0 - 1 : Nat) : Int) by omega, natL_snoc]
theorem bhAt_no {R : List Nat} {i : Nat} (h : i < R.length) (hp : R.getD i 0 = 0) : natL (bhAt R (i + 1)) = natL (bhAt R i) := by
  unfold bhAt
  rw [bhTake_succ h, hp, bhF_snoc_zero]
theorem bhAt_len {R : List Nat} {i : Nat} (h : i ≤ R.length) : (natL (bhAt R i)).length ≤ i + 1 := by
  rw [natL_len]
  unfold bhAt
  have h1 := bhF_le (R.take i)
  have h2 : (R.take i).length = i := by rw [List.length_take]; omega
  simp only [List.length_cons]
  omega
theorem bhAt_all {R : List Nat} (h : R.length ≠ 0) : bhAt R R.length = bhL R := by
  unfold bhAt bhL
  rw [if_neg h, List.take_length]

set_option maxHeartbeats 1000000 in
theorem chAhead_any (v : Value) (R : List Nat) (w : World) (hv : Sl .i64 w v (natL R)) (hlen : R.length ≤ 1000000) (hR : ∀ i, i < R.length → R.getD i 0 ≤ 1000000) :
    Calls Tryz.prog 84 #[v] w fun e w' => ∃ u, e = .returned u ∧ Own .i64 3 w.heap.size w' u (natL (bhL R)) ∧ Ext w w' := by
  have HV := hide' hv
  obtain ⟨a, c, rfl, _⟩ := hv
  obtain ⟨n, HN⟩ : ∃ n, Hid (R.length = n) := ⟨_, rfl⟩
  rw [natL_len, HN.out] at HV
  rw [natL_len, HN.out]
  rw [HN.out] at hlen hR
  have HPL := hide' hR
  clear hR
  by_cases h0 : n = 0
  · have HB : Hid (natL (bhL R) = []) := by show _ = _; unfold bhL; rw [if_pos (by rw [HN.out]; exact h0)]; rfl
    rw [HB.out]
    have d0 : ((n : Int) == 0) = true := by simp; omega
    clear h0
    go_enter Tryz.func84, Tryz.ntmps84
    go_wp2
    go_ret
    exact ⟨_, rfl, Own.nil _ _ _ _, Ext.refl _⟩
  have d0 : ((n : Int) == 0) = false := by simp; omega
  obtain ⟨w1, hmk, ho, he⟩ := make_roomI w n hlen
  have hz := he.size
  have O1 := hide' ho
  have X1 := hide' he
  have H0 : Hid (natL (bhAt R 0) = [(n : Int) - 1]) := by
    have := bhAt_zero R
    rw [HN.out] at this
    exact this.resolve_right h0
  have HALL : Hid (natL (bhAt R n) = natL (bhL R)) := by show _ = _; rw [← HN.out, bhAt_all (by rw [HN.out]; exact h0)]
  have HP : Hid (∀ i, i < n → 0 < R.getD i 0 → natL (bhAt R (i + 1)) = natL (bhAt R i) ++ [(R.getD i 0 : Int) - 1]) := fun i hi h => bhAt_pos (by rw [HN.out]; exact hi) h
  have HO : Hid (∀ i, i < n → R.getD i 0 = 0 → natL (bhAt R (i + 1)) = natL (bhAt R i)) := fun i hi h => bhAt_no (by rw [HN.out]; exact hi) h
  have HL : Hid (∀ i, i ≤ n → (natL (bhAt R i)).length ≤ i + 1) := fun i hi => bhAt_len (by rw [HN.out]; exact hi)
  obtain ⟨F, HF⟩ : ∃ F : Nat → List Int, Hid (∀ i, natL (bhAt R i) = F i) := ⟨fun i => natL (bhAt R i), fun i => rfl⟩
  rw [HF.out] at H0 HALL
  rw [← HALL.out]
  have HP2 : Hid (∀ i, i < n → 0 < R.getD i 0 → F (i + 1) = F i ++ [(R.getD i 0 : Int) - 1]) := fun i hi h => by rw [← HF.out, ← HF.out]; exact HP.out i hi h
  have HO2 : Hid (∀ i, i < n → R.getD i 0 = 0 → F (i + 1) = F i) := fun i hi h => by rw [← HF.out, ← HF.out]; exact HO.out i hi h
  have HL2 : Hid (∀ i, i ≤ n → (F i).length ≤ i + 1) := fun i hi => by rw [← HF.out]; exact HL.out i hi
  obtain ⟨_, g1, o1, hva, k1⟩ := HV.out.at (fun e => by rw [← List.length_eq_zero_iff, natL_len, HN.out] at e; exact h0 e)
  obtain rfl : a = _ := hva
  have hk1 : Hid (∀ i, i < n → w.cell? ⟨g1, o1 + i, none⟩ = some (.int .i64 (R.getD i 0 : Int))) := fun i hi => by rw [← natL_at]; exact k1 i hi
  clear ho he k1 HP HO HL HF h0
  go_enter Tryz.func84, Tryz.ntmps84
  go_wp2_with (at_builtin; refine wpList_snoc _ rfl _ _ 32 rfl 3 .i64 8 Tryz.underlying32 infoI64 w.heap.size _ [] ((n : Int) - 1) ⟨w1.heap.size, 0, none⟩ rfl rfl ?c4 (O1.out.alloc _) ?c3 ?c5 ?_)
  case c3 => unfold maxLen; simp
  case c5 => simp; omega
  case c4 => simp only [World.cell?, heap_alloc_top]; simp
  intro v1 w2 ho1 hb1
  have HO1 : Hid (Own .i64 3 w.heap.size w2 v1 (F 0)) := by rw [H0.out]; exact ho1
  have HE1 : Hid (Ext w w2) := Below.trans (X1.out.trans (ext_alloc _ _)) hb1
  clear ho1 hb1
  go_wp2
  go_loopw [3, 20] (fun sv vi wr => ∃ (i : Nat), i ≤ n ∧ vi = .int .i64 i ∧ Hid (Own .i64 3 w.heap.size wr sv (F i)) ∧ Hid (Ext w wr)) (fun _ vi _ => n - (intOf vi).toNat)
  case atStart => exact ⟨0, Nat.zero_le _, rfl, HO1, HE1⟩
  case round =>
    obtain ⟨i, hi, rfl, HOW, HE⟩ := hrel
    have hsz := HE.out.size
    clear HO1 HE1
    by_cases hlt : i < n
    · have hlt' : (i : Int) < n := by omega
      have c1 := HE.out.cellOf (hk1.out i hlt)
      have HPi := hide' (HP2.out i hlt)
      have HOi := hide' (HO2.out i hlt)
      have HLi := hide' (HL2.out i hi)
      obtain ⟨p, HPP⟩ : ∃ p, Hid (R.getD i 0 = p) := ⟨_, rfl⟩
      rw [HPP.out] at c1 HPi HOi
      by_cases hp : 0 < p
      · have d1 : decide ((0 : Int) < p) = true := by simp; omega
        have d2 : decide (0 < p) = true := by simp; omega
        have hple : p ≤ 1000000 := by rw [← HPP.out]; exact HPL.out i hlt
        have hwp : wrap64 ((p : Int) - 1) = (p : Int) - 1 := by unfold wrap64; omega
        have HX := hide' (HPi.out hp)
        clear HPi HOi
        go_wp2_with (at_builtin; refine wpList_snoc _ rfl _ _ 32 rfl 3 .i64 8 Tryz.underlying32 infoI64 w.heap.size _ (F i) ((p : Int) - 1) ⟨wr.heap.size, 0, none⟩ rfl rfl ?d4 (HOW.out.alloc _) ?d3 ?d5 ?_)
        case d3 => have := HLi.out; unfold maxLen; omega
        case d5 => simp; omega
        case d4 => simp only [World.cell?, heap_alloc_top]; simp
        intro v3 w3 ho3 hb3
        have HO3 : Hid (Own .i64 3 w.heap.size w3 v3 (F (i + 1))) := by rw [HX.out]; exact ho3
        have HE3 : Hid (Ext w w3) := Below.trans (HE.out.trans (ext_alloc _ _)) hb3
        clear ho3 hb3
        go_wp2
        go_roundw
        case rel => exact ⟨i + 1, by omega, by go_num, HO3, HE3⟩
        case measure => simp [intOf]; omega
      · have d1 : decide ((0 : Int) < p) = false := by simp; omega
        have d2 : decide (0 < p) = false := by simp; omega
        have HX := hide' (HOi.out (by omega))
        have HO3 : Hid (Own .i64 3 w.heap.size wr u3 (F (i + 1))) := by rw [HX.out]; exact HOW.out
        clear HPi HOi
        go_wp2
        go_roundw
        case rel => exact ⟨i + 1, by omega, by go_num, HO3, HE.out⟩
        case measure => simp [intOf]; omega
    · have hlt' : decide ((i : Int) < n) = false := by simp; omega
      have hin : i = n := by omega
      have HD : Hid (F i = F n) := by show _ = _; rw [hin]
      go_wp2
      go_ret
      exact ⟨_, rfl, by rw [← HD.out]; exact HOW.out, HE.out⟩
end Go.Proofs.YtlmbdafilboblaaGreat

/- Contract of kasai.LCP, of texts of at most 500 bytes. -/
namespace Go.Proofs.YtlmbdafilboblaaGreat
set_option linter.unusedVariables false
set_option linter.unusedSimpArgs false
open Go.RowKit

theorem kcommon_any (v : Value) (zs : List Int) (i j : Nat) (w : World) (hs : Sl .u8 w v zs) (hlen : zs.length ≤ 500) (hi : i ≤ zs.length) (hj : j ≤ zs.length) :
    Calls Tryz.prog 62 #[v, .int .i64 i, .int .i64 j] w fun e w' => e = .returned (.int .i64 (comN zs i j : Int)) ∧ Ext w w' := by
  have := toExt (common_any v zs i j w hs hlen)
  rw [comL_nat hi hj] at this
  exact this

set_option maxHeartbeats 2000000 in
theorem klcp_any (v u : Value) (s a : List Int) (w : World) (hv : Sl .u8 w v s) (hu : Sl .i64 w u a) (hs : s.length ≤ 500) (ha : a.length ≤ 1000000) :
    Calls Tryz.prog 52 #[v, u] w fun e w' => ∃ r, e = .returned (.tuple #[r, .bool (lcpOk s a)]) ∧ Own .i64 3 w.heap.size w' r (lcpL s a) ∧ Ext w w' := by
  have HV := hide' hv
  have HU := hide' hu
  obtain ⟨va, vc, rfl, _⟩ := hv
  obtain ⟨ua, uc, rfl, _⟩ := hu
  by_cases h1 : a.length = s.length
  · have C := hide' (rkInv_any _ a w HU.out ha)
    cases h2 : ordB a
    · rw [lcpL_no (lcpOk_no h2), lcpOk_no h2]
      rw [h2] at C
      clear h2 HU
      obtain ⟨n, HN⟩ : ∃ n, Hid (s.length = n) := ⟨_, rfl⟩
      rw [h1] at C ⊢
      rw [HN.out] at C HV ⊢
      clear h1
      go_enter Tryz.func52, Tryz.ntmps52
      go_wp2_with fail
      refine C.out.mono ?_
      rintro e w1 ⟨s1, rfl, _, he1⟩
      have X1 := hide' he1
      clear he1
      go_wp2
      go_ret2
      exact ⟨_, rfl, Own.nil _ _ _ _, X1.out⟩
    · rw [lcpL_yes (lcpOk_yes h1 h2), lcpOk_yes h1 h2]
      rw [h2] at C
      obtain ⟨hA, hP⟩ := ordB_cast h2
      obtain ⟨A, HA⟩ : ∃ A, Hid (toN a = A) := ⟨_, rfl⟩
      rw [HA.out] at hA hP ⊢
      rw [← hA] at HU C
      obtain ⟨n, HN⟩ : ∃ n, Hid (s.length = n) := ⟨_, rfl⟩
      have hAL : A.length = n := by rw [← HN.out, ← h1, ← hA, natL_len]
      have HAL := hide' hAL
      rw [h1] at hP
      rw [HN.out] at hs hP HV
      have HP := hide' (show A.Perm (List.range A.length) by rw [hAL]; exact hP)
      obtain ⟨hB1, hB2⟩ := inv_nat HP.out
      obtain ⟨B, HB0⟩ : ∃ B, Hid (toN (invI (natL A)) = B) := ⟨_, rfl⟩
      rw [HB0.out] at hB1 hB2
      have HB := hide' hB2
      have HBL : Hid (B.length = n) := by show _ = _; rw [HB.out.len, hAL]
      rw [hB1, natL_len, hAL] at C
      rw [natL_len, hAL] at HU
      rw [h1, HN.out]
      clear hA hP hAL h2 h1 HA hB1 hB2 HB0
      go_enter Tryz.func52, Tryz.ntmps52
      go_wp2_with fail
      refine C.out.mono ?_
      rintro e w1 ⟨s1, rfl, ho1, he1⟩
      have S1 := hide' ho1.sl
      have X1 := hide' he1
      have hz1 := he1.size
      obtain ⟨s1a, s1c, hs1, _⟩ := ho1.sl
      rw [natL_len, HBL.out] at hs1
      subst hs1
      clear he1 C ho1
      obtain ⟨w2, hmk, ho, he⟩ := make_nats w1 n (by omega)
      have HO := hide' (ho.low hz1)
      have HE := hide' he
      clear ho he
      go_wp2
      clear hmk
      obtain ⟨g, HG⟩ : ∃ g, Hid (w1.heap.size = g) := ⟨_, rfl⟩
      rw [HG.out] at HO ⊢
      go_loopw [9, 10, 11, 12, 13, 31] (fun vc9 vb10 _ _ _ vi wr => ∃ (i : Nat) (R : List Nat) (c b : Nat), i ≤ n ∧ vi = .int .i64 i ∧ vc9 = .int .i64 c ∧ vb10 = .int .i64 b ∧ c ≤ n ∧ b ≤ n ∧ Hid (R.length = n) ∧ Hid (Kas s A R i) ∧ Hid (0 < c → 0 < i ∧ c = comN s (i - 1) b) ∧
        Hid (Own .i64 3 w.heap.size wr (.slice (some ⟨g, 0, none⟩) n n) (natL R)) ∧ Hid (Ext w1 wr) ∧ Hid (w1.heap.size ≤ g)) (fun _ _ _ _ _ vi _ => n - (intOf vi).toNat)
      case atStart =>
        refine ⟨0, List.replicate n 0, 0, 0, by omega, rfl, rfl, rfl, by omega, by omega, List.length_replicate, ?_, (fun h => by omega), HO, HE, (show _ ≤ _ by rw [← HG.out]; exact Nat.le_refl _)⟩
        have := Kas.start s A
        rw [HAL.out] at this
        exact this
      case round =>
        clear HO HE HG
        obtain ⟨i, R, c, b, hi, rfl, rfl, rfl, hcn, hbn, HL, HK, HCB, HO, HE, Hg⟩ := hrel
        have HEW := hide' (X1.out.trans HE.out)
        have HS := hide' (S1.out.ext HE.out)
        by_cases hlt : i < n
        · have hlt' : (i : Int) < n := by omega
          obtain ⟨_, _, _, hco⟩ := HS.out.nat
          obtain ⟨og, ooff, hoa, ocell⟩ := hco (by omega)
          subst hoa
          have c1 := ocell i hlt
          clear hco ocell
          have hp := HB.out.lt i (by rw [HAL.out]; exact hlt)
          rw [HAL.out] at hp
          have HSK : Hid (B.getD i 0 = 0 → Kas s A R (i + 1)) := fun h => HK.out.skip HB.out h
          have HNX : Hid (∀ p c', B.getD i 0 = p → 0 < p → c' = comN s i (A.getD (p - 1) 0) → Kas s A (R.set p c') (i + 1)) := fun p c' h1 h2 h3 => HK.out.next HB.out (by rw [HAL.out]; exact hlt) h1 h2 h3
          obtain ⟨p, HPP⟩ : ∃ p, Hid (B.getD i 0 = p) := ⟨_, rfl⟩
          rw [HPP.out] at c1 hp
          by_cases hp0 : p = 0
          · have e0 : ((p : Int) == 0) = true := by simp; omega
            have HK2 := hide' (HSK.out (by rw [HPP.out]; exact hp0))
            clear hp0 HSK HNX HPP
            go_wp2
            go_roundw
            case rel => exact ⟨i + 1, R, 0, b, by omega, by go_num, rfl, rfl, by omega, hbn, HL, HK2, (fun h => by omega), HO, HE, Hg⟩
            case measure => simp [intOf]; omega
          · have e0 : ((p : Int) == 0) = false := by simp; omega
            obtain ⟨J, HJ⟩ : ∃ J, Hid (p = J + 1) := ⟨p - 1, by show _ = _; omega⟩
            have hJn : J < n := by have := HJ.out; omega
            have hJn' : (J : Int) < n := by omega
            have hJ : (p : Int) - 1 = (J : Int) := by have := HJ.out; omega
            have wJ : IntKind.i64.wrap (J : Int) = (J : Int) := by rw [IntKind.wrap_i64]; omega
            have HJ2 : Hid (p - 1 = J) := by show _ = _; have := HJ.out; omega
            have hp' : (p : Int) < n := by omega
            obtain ⟨_, _, _, hco⟩ := HU.out.nat
            obtain ⟨ag, aoff, haa, acell⟩ := hco (by omega)
            subst haa
            have c2 := HEW.out.cellOf (acell J hJn)
            clear hco acell
            have hx := perm_lt HP.out (p := J) (by rw [HAL.out]; exact hJn)
            rw [HAL.out] at hx
            have HNX2 : Hid (∀ c', c' = comN s i (A.getD J 0) → Kas s A (R.set p c') (i + 1)) := fun c' h => HNX.out p c' HPP.out (by omega) (by rw [HJ2.out]; exact h)
            obtain ⟨x, HX⟩ : ∃ x, Hid (A.getD J 0 = x) := ⟨_, rfl⟩
            rw [HX.out] at c2 hx HNX2
            clear hp0 HSK HNX
            have hfz := HO.out.frozen (by rw [natL_len]; exact HL.out) p
            have hci := HO.out.intCell HL.out p hp
            by_cases l1 : 0 < c
            · have l1' : decide ((0 : Int) < (c : Int)) = true := by simp; omega
              by_cases l2 : x = b + 1
              · have l2' : ((x : Int) == (b : Int) + 1) = true := by simp; omega
                obtain ⟨C, HC⟩ : ∃ C, Hid (c = C + 1) := ⟨c - 1, by show _ = _; omega⟩
                have hC : (c : Int) - 1 = (C : Int) := by have := HC.out; omega
                have HCC : Hid (C = comN s i x) := by
                  obtain ⟨h1, h2⟩ := HCB.out l1
                  have h3 := comN_next (s := s) (i := i - 1) (j := b) (by omega)
                  rw [Nat.sub_add_cancel h1, ← l2] at h3
                  have := HC.out
                  show _ = _
                  omega
                have HO4 := hide' (HO.out.storeN HL.out p C)
                have HK3 := hide' (HNX2.out C HCC.out)
                have hCn : C ≤ n := by have := HC.out; omega
                clear HNX2
                go_wp2
                go_roundw
                case rel => exact ⟨i + 1, R.set p C, C, x, by omega, by go_num, by first | rfl | go_num, by rw [l2]; first | rfl | go_num, hCn, by omega, (show _ = _ by rw [List.length_set]; exact HL.out), HK3, (fun h => ⟨by omega, by rw [Nat.add_sub_cancel]; exact HCC.out⟩), HO4, Ext.but HE.out Hg.out (but_set _ _ _ _), Hg⟩
                case measure => simp [intOf]; omega
              · have l2' : ((x : Int) == (b : Int) + 1) = false := by simp; omega
                have HCM := hide' (kcommon_any (.slice va n vc) s i x wr (HV.out.ext HEW.out) (by rw [HN.out]; exact hs) (by rw [HN.out]; omega) (by rw [HN.out]; omega))
                have hcl := comN_le s i x
                rw [HN.out] at hcl
                obtain ⟨C, HC⟩ : ∃ C, Hid (comN s i x = C) := ⟨_, rfl⟩
                rw [HC.out] at HCM hcl
                go_wp2_with fail
                refine HCM.out.mono ?_
                rintro e w3 ⟨rfl, he3⟩
                have HO3 := hide' (HO.out.ext he3)
                have HE3 := hide' (HE.out.trans he3)
                have hfz3 := HO3.out.frozen (by rw [natL_len]; exact HL.out) p
                have hci3 := HO3.out.intCell HL.out p hp
                have HO4 := hide' (HO3.out.storeN HL.out p C)
                have HK3 := hide' (HNX2.out C HC.out.symm)
                have HBT := but_set w3 g p (.int .i64 (C : Int))
                clear he3 HO HE HS HEW hfz hci HNX2 HCM
                go_wp2
                go_roundw
                case rel => exact ⟨i + 1, R.set p C, C, x, by omega, by go_num, rfl, rfl, hcl, by omega, (show _ = _ by rw [List.length_set]; exact HL.out), HK3, (fun h => ⟨by omega, by rw [Nat.add_sub_cancel]; exact HC.out.symm⟩), HO4, Ext.but HE3.out Hg.out HBT, Hg⟩
                case measure => simp [intOf]; omega
            · have l1' : decide ((0 : Int) < (c : Int)) = false := by simp; omega
              have HCM := hide' (kcommon_any (.slice va n vc) s i x wr (HV.out.ext HEW.out) (by rw [HN.out]; exact hs) (by rw [HN.out]; omega) (by rw [HN.out]; omega))
              have hcl := comN_le s i x
              rw [HN.out] at hcl
              obtain ⟨C, HC⟩ : ∃ C, Hid (comN s i x = C) := ⟨_, rfl⟩
              rw [HC.out] at HCM hcl
              go_wp2_with fail
              refine HCM.out.mono ?_
              rintro e w3 ⟨rfl, he3⟩
              have HO3 := hide' (HO.out.ext he3)
              have HE3 := hide' (HE.out.trans he3)
              have hfz3 := HO3.out.frozen (by rw [natL_len]; exact HL.out) p
              have hci3 := HO3.out.intCell HL.out p hp
              have HO4 := hide' (HO3.out.storeN HL.out p C)
              have HK3 := hide' (HNX2.out C HC.out.symm)
              have HBT := but_set w3 g p (.int .i64 (C : Int))
              clear he3 HO HE HS HEW hfz hci HNX2 HCM
              go_wp2
              go_roundw
              case rel => exact ⟨i + 1, R.set p C, C, x, by omega, by go_num, rfl, rfl, hcl, by omega, (show _ = _ by rw [List.length_set]; exact HL.out), HK3, (fun h => ⟨by omega, by rw [Nat.add_sub_cancel]; exact HC.out.symm⟩), HO4, Ext.but HE3.out Hg.out HBT, Hg⟩
              case measure => simp [intOf]; omega
        · have hlt' : decide ((i : Int) < n) = false := by simp; omega
          have hin : n = i := by omega
          have HR := hide' ((show Kas s A R A.length by rw [HAL.out, hin]; exact HK.out).done HP.out)
          go_wp2
          go_ret2
          refine ⟨_, rfl, ?_, HEW.out⟩
          rw [← HR.out]
          exact HO.out
  · have d1 : ((a.length : Int) != (s.length : Int)) = true := by simp; omega
    rw [lcpL_no (lcpOk_long h1), lcpOk_long h1]
    clear h1
    go_enter Tryz.func52, Tryz.ntmps52
    go_wp2_with fail
    go_ret2
    exact ⟨_, rfl, Own.nil _ _ _ _, Ext.refl _⟩
end Go.Proofs.YtlmbdafilboblaaGreat

/- Contracts of check.SA and check.LCP, of texts of at most 500 bytes. -/
namespace Go.Proofs.YtlmbdafilboblaaGreat
set_option linter.unusedVariables false
set_option linter.unusedSimpArgs false
open Go.RowKit

theorem good_bytes {s : List Int} (h8 : Bytes8 s) : fitB s 256 = true := by
  refine fitB_iff.2 ⟨by omega, by omega, ?_⟩
  refine goodI_iff.2 fun z hz => ?_
  have := h8 z hz
  omega
theorem pass_again {s : List Int} (h8 : Bytes8 s) {R : List Nat} (hp : R.Perm (List.range s.length)) : passB (natL (bhL R)) s 256 = true ∧ passI (natL (bhL R)) s 256 = natL (againL s R) := by
  have h1 : passB (natL (bhL R)) s 256 = true := passB_iff.2 ⟨good_bytes h8, good_nat fun x hx => List.mem_range.1 ((bhL_perm hp).mem_iff.1 hx)⟩
  refine ⟨h1, ?_⟩
  rw [passI_yes h1, toN_nat]
  rfl

set_option maxHeartbeats 1000000 in
theorem chSA_any (v u : Value) (s a : List Int) (w : World) (hv : Sl .u8 w v s) (h8 : Bytes8 s) (hu : Sl .i64 w u a) (hs : s.length ≤ 500) (ha : a.length ≤ 1000000) :
    Calls Tryz.prog 64 #[v, u] w fun e w' => e = .returned (.bool (saB s a)) ∧ Ext w w' := by
  have HV := hide' hv
  have HU := hide' hu
  have H8 := hide' h8
  obtain ⟨va, vc, rfl, _⟩ := hv
  obtain ⟨ua, uc, rfl, _⟩ := hu
  by_cases hl : a.length = s.length
  rotate_left
  · have HN : Hid (saB s a = false) := saB_len hl
    have d1 : ((a.length : Int) != (s.length : Int)) = true := by simp; omega
    clear hl h8
    rw [HN.out]
    go_enter Tryz.func64, Tryz.ntmps64
    go_wp2
    go_ret
    exact ⟨rfl, Ext.refl _⟩
  have d1 : ((a.length : Int) != (s.length : Int)) = false := by simp; omega
  have C := hide' (rkIs_any _ a w HU.out ha)
  cases ho : ordB a
  · have HN : Hid (saB s a = false) := saB_noperm ho
    rw [ho] at C
    clear ho hl h8
    rw [HN.out]
    go_enter Tryz.func64, Tryz.ntmps64
    go_wp2_with fail
    refine C.out.mono ?_
    rintro e w1 ⟨rfl, he⟩
    have X1 := hide' he
    clear he
    go_wp2
    go_ret
    exact ⟨rfl, X1.out⟩
  · rw [ho] at C
    obtain ⟨hA, hP⟩ := ordB_cast ho
    obtain ⟨R, HR⟩ : ∃ R, Hid (toN a = R) := ⟨_, rfl⟩
    rw [HR.out] at hA hP
    have hP2 : R.Perm (List.range s.length) := by rw [← hl]; exact hP
    have HSA := hide' (saB_again h8 hP2)
    obtain ⟨p1, p2⟩ := pass_again h8 hP2
    have P1 := hide' p1
    have P2 := hide' p2
    have HRL : Hid (R.length ≤ 1000000) := by show _ ≤ _; rw [hP.length_eq, List.length_range]; exact ha
    have HRM : Hid (∀ i, i < R.length → R.getD i 0 ≤ 1000000) := fun i hi => by
      have := List.mem_range.1 (hP.mem_iff.1 (getN_mem hi))
      omega
    have HAL : Hid (a.length ≤ 1000000) := ha
    have HGL : Hid ((natL (againL s R)).length ≤ 1000000) := by show _ ≤ _; rw [natL_len, (again_perm h8 hP2).length_eq, List.length_range]; omega
    have HBL : Hid ((natL (bhL R)).length ≤ 1000000) := by show _ ≤ _; rw [natL_len, (bhL_perm hP2).length_eq, List.length_range]; omega
    have HSL : Hid (s.length ≤ 1000000) := by show _ ≤ _; omega
    have HAR := hide' hA
    rw [← hA] at HU
    rw [← hA]
    rw [HSA.out]
    obtain ⟨G, HG⟩ : ∃ G, Hid (natL (againL s R) = G) := ⟨_, rfl⟩
    rw [HG.out] at P2 HGL ⊢
    obtain ⟨B, HB⟩ : ∃ B, Hid (natL (bhL R) = B) := ⟨_, rfl⟩
    rw [HB.out] at P1 P2 HBL
    have CA := hide' fun (w' : World) (h : Ext w w') => chAhead_any _ R w' (HU.out.ext h) HRL.out HRM.out
    rw [HB.out] at CA
    obtain ⟨Z, HZ⟩ : ∃ Z, Hid (natL R = Z) := ⟨_, rfl⟩
    rw [HZ.out] at HU CA HAR
    rw [HZ.out]
    have HZA : Hid (Z.length ≤ 1000000) := by show _ ≤ _; rw [HAR.out]; exact ha
    rw [← HAR.out] at C d1
    clear ho hl h8 hA hP hP2 p1 p2 hs ha
    go_enter Tryz.func64, Tryz.ntmps64
    go_wp2_with fail
    refine C.out.mono ?_
    rintro e w1 ⟨rfl, he⟩
    have X1 := hide' he
    clear he C
    go_wp2_with fail
    refine (CA.out w1 X1.out).mono ?_
    rintro e w2 ⟨u1, rfl, ho2, he2⟩
    have O2 := hide' ho2.sl
    have X2 := hide' (X1.out.trans he2)
    clear ho2 he2 CA
    go_wp2_with fail
    refine (chNumbers_any _ s w2 (HV.out.ext X2.out) H8.out HSL.out).mono ?_
    rintro e w3 ⟨u2, rfl, ho3, he3⟩
    have O3 := hide' ho3.sl
    have O4 := hide' (O2.out.ext he3)
    have X3 := hide' (X2.out.trans he3)
    clear ho3 he3 O2
    go_wp2_with fail
    refine (pass_any _ _ B s 256 w3 O4.out O3.out HBL.out HSL.out).mono ?_
    rw [P1.out, P2.out]
    rintro e w4 ⟨u3, rfl, ho4, he4⟩
    have O5 := hide' ho4.sl
    have X4 := hide' (X3.out.trans he4)
    clear ho4 he4
    obtain ⟨u3a, u3c, rfl, _⟩ := id O5.out
    go_wp2_with fail
    refine (equalI_any _ _ G Z w4 O5.out (HU.out.ext X4.out) HGL.out HZA.out).mono ?_
    rintro e w5 ⟨rfl, m, he⟩
    have X5 := hide' (X4.out.trans (show Ext w4 w5 by rw [he]; exact Ext.drewN _ _))
    clear he
    go_wp2
    go_ret
    exact ⟨rfl, X5.out⟩

set_option maxHeartbeats 1000000 in
theorem chLcp_any (v u t : Value) (s a h : List Int) (w : World) (hv : Sl .u8 w v s) (h8 : Bytes8 s) (hu : Sl .i64 w u a) (ht : Sl .i64 w t h) (hs : s.length ≤ 500) (ha : a.length ≤ 1000000) (hh : h.length ≤ 1000000) :
    Calls Tryz.prog 55 #[v, u, t] w fun e w' => e = .returned (.bool (chkB s a h)) ∧ Ext w w' := by
  have HV := hide' hv
  have HU := hide' hu
  have HT := hide' ht
  have HS := hide' hs
  have HA := hide' ha
  have HH := hide' hh
  have C := hide' (chSA_any v u s a w hv h8 hu hs ha)
  have HLL : Hid ((lcpL s a).length ≤ 1000000) := Nat.le_trans (lcpL_le s a) ha
  obtain ⟨va, vc, rfl, _⟩ := hv
  obtain ⟨ua, uc, rfl, _⟩ := hu
  obtain ⟨ta, tc, rfl, _⟩ := ht
  clear h8 hs ha hh
  go_enter Tryz.func55, Tryz.ntmps55
  go_wp2_with fail
  refine C.out.mono ?_
  cases hsa : saB s a
  · have HC : Hid (chkB s a h = false) := chkB_not hsa
    clear hsa C
    rintro e w1 ⟨rfl, he⟩
    have X1 := hide' he
    clear he
    go_wp2
    go_ret
    exact ⟨by rw [HC.out]; rfl, X1.out⟩
  · have HC : Hid (chkB s a h = decide (lcpL s a = h)) := by show _ = _; unfold chkB; rw [hsa, Bool.true_and]
    have HOK := hide' (saB_ok hsa)
    clear hsa C
    rintro e w1 ⟨rfl, he⟩
    have X1 := hide' he
    clear he
    go_wp2_with fail
    refine (klcp_any _ _ s a w1 (HV.out.ext X1.out) (HU.out.ext X1.out) HS.out HA.out).mono ?_
    rw [HOK.out]
    rintro e w2 ⟨u2, rfl, ho, he⟩
    have O2 := hide' ho.sl
    have X2 := hide' (X1.out.trans he)
    clear ho he
    obtain ⟨L, HL⟩ : ∃ L, Hid (lcpL s a = L) := ⟨_, rfl⟩
    rw [HL.out] at O2 HLL HC
    obtain ⟨u2a, u2c, rfl, _⟩ := id O2.out
    go_wp2_with fail
    refine (equalI_any _ _ L h w2 O2.out (HT.out.ext X2.out) HLL.out HH.out).mono ?_
    rintro e w3 ⟨rfl, m, he⟩
    have X3 := hide' (X2.out.trans (show Ext w2 w3 by rw [he]; exact Ext.drewN _ _))
    clear he
    go_wp2
    go_ret
    exact ⟨by rw [HC.out]; rfl, X3.out⟩
end Go.Proofs.YtlmbdafilboblaaGreat

/- Objects by the blocks that are theirs: what a call on one of them leaves as it was. Over any program, no conditions. -/
namespace Go.Proofs.YtlmbdafilboblaaGreat
set_option linter.unusedVariables false
set_option linter.unusedSimpArgs false
open Go.RowKit

/-- All but the blocks of fp is as it was; there may be more. -/
structure ButF (fp : List Nat) (w w' : World) : Prop where
  os : w'.os = w.os
  tape : w'.tape = w.tape
  output : w'.output = w.output
  size : w.heap.size ≤ w'.heap.size
  block : ∀ k, k < w.heap.size → k ∉ fp → w'.heap[k]? = w.heap[k]?
/-- All blocks are old ones or were not there. -/
def Grows (n : Nat) (fp fp' : List Nat) : Prop := ∀ k ∈ fp', k ∈ fp ∨ n ≤ k
/-- All blocks are there. -/
def Lts (fp : List Nat) (w : World) : Prop := ∀ k ∈ fp, k < w.heap.size
/-- No block is in both. -/
def Dis (fp gp : List Nat) : Prop := ∀ k ∈ fp, k ∉ gp

theorem ButF.refl (fp : List Nat) (w : World) : ButF fp w w := ⟨rfl, rfl, rfl, Nat.le_refl _, fun _ _ _ => rfl⟩
theorem Grows.refl (n : Nat) (fp : List Nat) : Grows n fp fp := fun _ h => .inl h
theorem ButF.trans {fp fp' : List Nat} {x y z : World} (h : ButF fp x y) (hg : Grows x.heap.size fp fp') (k : ButF fp' y z) : ButF fp x z :=
  ⟨k.os.trans h.os, k.tape.trans h.tape, k.output.trans h.output, Nat.le_trans h.size k.size, fun i hi hne => by
    rw [k.block i (Nat.lt_of_lt_of_le hi h.size) fun e => by
      rcases hg i e with e2 | e2
      · exact hne e2
      · omega, h.block i hi hne]⟩
theorem Grows.trans {n m : Nat} {fp gp hp : List Nat} (h : Grows n fp gp) (hn : n ≤ m) (k : Grows m gp hp) : Grows n fp hp := fun i hi => by
  rcases k i hi with e | e
  · exact h i e
  · exact .inr (by omega)
theorem ButF.ofExt {fp : List Nat} {w w' : World} (h : Ext w w') : ButF fp w w' := ⟨h.os, h.tape, h.output, h.size, fun k hk _ => h.block k hk⟩
theorem ButF.ofBut {fp : List Nat} {b : Nat} {w w' : World} (hb : b ∈ fp) (h : But b w w') : ButF fp w w' := ⟨h.os, h.tape, h.output, h.size, fun k hk hn => h.block k hk (fun e => hn (by simp only [Option.some.injEq] at e; rw [e]; exact hb))⟩
theorem ButF.ofGrown {fp : List Nat} {o : Option Nat} {w w' : World} (hb : ∀ j, o = some j → j ∈ fp) (h : w.grownBy w' o) : ButF fp w w' := ⟨h.os, h.tape, h.output, h.size, fun k hk hn => h.block k hk (fun e => hn (hb k e.symm))⟩
theorem ButF.ext {fp : List Nat} {w0 w w' : World} (h0 : Ext w0 w) (h : ButF fp w w') (hfp : ∀ k ∈ fp, w0.heap.size ≤ k) : Ext w0 w' :=
  ⟨h.os.trans h0.os, h.tape.trans h0.tape, h.output.trans h0.output, Nat.le_trans h0.size h.size, fun k hk => by
    rw [h.block k (Nat.lt_of_lt_of_le hk h0.size) fun e => by have := hfp k e; omega]
    exact h0.block k hk⟩
theorem ButF.belowF {fp : List Nat} {B : Nat} {w w' : World} (h : ButF fp w w') (hB : B ≤ w.heap.size) (hfp : ∀ k ∈ fp, B ≤ k) : Below B w w' :=
  ⟨h.os, h.tape, h.output, h.size, fun k hk => h.block k (by omega) fun e => by have := hfp k e; omega⟩
theorem ButF.own {k : IntKind} {e : TypeId} {B : Nat} {fp : List Nat} {w w' : World} {v : Value} {zs : List Int} (h : Own k e B w v zs) (hf : ButF fp w w') (hne : ∀ j, v.ownBlock = some j → j ∉ fp) : Own k e B w' v zs := by
  obtain ⟨h1, h2⟩ := h
  refine ⟨h1, ?_⟩
  rcases h2 with h2 | ⟨g, cap, cur, h2, h3, h4, h5⟩
  · exact .inl h2
  · refine .inr ⟨g, cap, cur, h2, h3, ?_, h5⟩
    rw [hf.block g (Array.getElem?_eq_some_iff.1 h4).1 (hne g (by rw [h2]; rfl))]
    exact h4
theorem ED (W : World) : Ext W W.drew := Ext.drewN W 1
theorem Lts.mono {fp : List Nat} {w w' : World} (h : Lts fp w) (hs : w.heap.size ≤ w'.heap.size) : Lts fp w' := fun k hk => Nat.lt_of_lt_of_le (h k hk) hs
theorem Dis.symm {fp gp : List Nat} (h : Dis fp gp) : Dis gp fp := fun k hk e => h k e hk
theorem Dis.grows {fp gp gp' : List Nat} {w : World} (h : Dis fp gp) (hl : Lts fp w) (hg : Grows w.heap.size gp gp') : Dis fp gp' := fun k hk e => by
  rcases hg k e with e2 | e2
  · exact h k hk e2
  · have := hl k hk; omega
theorem Dis.new {fp gp : List Nat} {w : World} (hl : Lts fp w) (hn : ∀ k ∈ gp, w.heap.size ≤ k) : Dis fp gp := fun k hk e => by
  have := hl k hk
  have := hn k e
  omega
theorem Grows.low {n B : Nat} {fp gp : List Nat} (h : Grows n fp gp) (hB : B ≤ n) (hf : ∀ k ∈ fp, B ≤ k) : ∀ k ∈ gp, B ≤ k := fun k hk => by
  rcases h k hk with e | e
  · exact hf k e
  · omega
theorem Own.lts {k : IntKind} {e : TypeId} {B : Nat} {w : World} {v : Value} {zs : List Int} (h : Own k e B w v zs) : ∀ j, v.ownBlock = some j → j < w.heap.size := fun j hj => (World.ownsRow.lt h j hj).2
/-- What is told by blocks that are as they were. -/
theorem ButF.same {fp gp : List Nat} {w w' : World} (h : ButF gp w w') (hl : Lts fp w) (hd : Dis fp gp) : ∀ k ∈ fp, w'.heap[k]? = w.heap[k]? := fun k hk => h.block k (hl k hk) (hd k hk)
theorem Ext.same {fp : List Nat} {w w' : World} (h : Ext w w') (hl : Lts fp w) : ∀ k ∈ fp, w'.heap[k]? = w.heap[k]? := fun k hk => h.block k (hl k hk)
theorem Own.same {k : IntKind} {e : TypeId} {B : Nat} {w w' : World} {v : Value} {zs : List Int} (h : Own k e B w v zs) (hs : ∀ j, v.ownBlock = some j → w'.heap[j]? = w.heap[j]?) : Own k e B w' v zs := by
  obtain ⟨h1, h2⟩ := h
  refine ⟨h1, ?_⟩
  rcases h2 with h2 | ⟨g, cap, cur, h2, h3, h4, h5⟩
  · exact .inl h2
  · refine .inr ⟨g, cap, cur, h2, h3, ?_, h5⟩
    rw [hs g (by rw [h2]; rfl)]
    exact h4
end Go.Proofs.YtlmbdafilboblaaGreat
