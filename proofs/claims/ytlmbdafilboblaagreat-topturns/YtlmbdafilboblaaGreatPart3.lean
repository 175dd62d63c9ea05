/- Texts laid together: ResMath, SaAns, TriMath, SkMath, SkTwo, SkAlike, SkName, BktKeys, BktPass, SkBy, SkRest, SlLen, SkLess, Two, RegApp, SkMerge, SkOrder, SkClose, SkAns, DbMath. -/
import Derived.Test.YtlmbdafilboblaaGreatPart2
import Derived.Test.YtlmbdafilboblaaGreatPart1
import Derived.Deep.RegionLaw
/- What sorters answer: a row and an error's number; bytes as numbers; rows of bytes made. No conditions. -/
namespace Go.Proofs.YtlmbdafilboblaaGreat
set_option linter.unusedVariables false
set_option linter.unusedSimpArgs false
open Go.RowKit

/-- What is answered: a row and an error's number. -/
def ResI (s : List Int) (k : Int) (L : List Int) (c : Int) : Prop :=
  (100000 < s.length ∧ L = [] ∧ c = 2) ∨ (s.length ≤ 100000 ∧ fitB s k = false ∧ L = [] ∧ c = 1) ∨ (s.length ≤ 100000 ∧ fitB s k = true ∧ c = 0 ∧ ∃ R, InOrd s R ∧ L = natL R)
theorem ResI.eq {s L L' : List Int} {k c c' : Int} (h : ResI s k L c) (h' : ResI s k L' c') : L = L' ∧ c = c' := by
  rcases h with ⟨h1, h2, h3⟩ | ⟨h1, h2, h3, h4⟩ | ⟨h1, h2, h3, R, h4, h5⟩ <;> rcases h' with ⟨g1, g2, g3⟩ | ⟨g1, g2, g3, g4⟩ | ⟨g1, g2, g3, R', g4, g5⟩
  · exact ⟨by rw [h2, g2], by rw [h3, g3]⟩
  · omega
  · omega
  · omega
  · exact ⟨by rw [h3, g3], by rw [h4, g4]⟩
  · rw [h2] at g2; cases g2
  · omega
  · rw [h2] at g2; cases g2
  · exact ⟨by rw [h5, g5, h4.eq g4], by rw [h3, g3]⟩
theorem ResI.ok {s L : List Int} {k c : Int} (h : ResI s k L c) (hl : s.length ≤ 100000) (hf : fitB s k = true) : c = 0 ∧ ∃ R, InOrd s R ∧ L = natL R := by
  rcases h with ⟨h1, h2, h3⟩ | ⟨h1, h2, h3, h4⟩ | ⟨h1, h2, h3, h4⟩
  · omega
  · rw [hf] at h2; cases h2
  · exact ⟨h3, h4⟩
theorem ResI.long {s L : List Int} {k c : Int} (h : ResI s k L c) (hl : 100000 < s.length) : c = 2 ∧ L = [] := by
  rcases h with ⟨h1, h2, h3⟩ | ⟨h1, h2, h3, h4⟩ | ⟨h1, h2, h3, h4⟩
  · exact ⟨h3, h2⟩
  · omega
  · omega
theorem ResI.len {s L : List Int} {k c : Int} (h : ResI s k L c) : L.length ≤ s.length := by
  rcases h with ⟨h1, h2, h3⟩ | ⟨h1, h2, h3, h4⟩ | ⟨h1, h2, h3, R, h4, h5⟩
  · rw [h2]; simp
  · rw [h3]; simp
  · rw [h5, natL_len, h4.len]; exact Nat.le_refl _

/-- A row of one kind as far as it is laid. -/
structure HalfI (zs : List Int) (i : Nat) (r : List Int) : Prop where
  len : r.length = zs.length
  at' : ∀ t, t < i → r.getD t 0 = zs.getD t 0
theorem HalfI.start (zs : List Int) : HalfI zs 0 (List.replicate zs.length 0) := ⟨List.length_replicate, fun t h => by omega⟩
theorem HalfI.next {zs r : List Int} {i : Nat} (h : HalfI zs i r) (hi : i < zs.length) : HalfI zs (i + 1) (r.set i (zs.getD i 0)) := by
  refine ⟨by rw [List.length_set]; exact h.len, fun t ht => ?_⟩
  by_cases e : t = i
  · subst e
    rw [setI_same (by rw [h.len]; exact hi)]
  · rw [setI_other (by omega)]
    exact h.at' t (by omega)
theorem HalfI.done {zs r : List Int} (h : HalfI zs zs.length r) : r = zs :=
  rowI_ext h.len fun i hi => h.at' i (by rw [h.len] at hi; exact hi)

theorem fit256 {zs : List Int} (h : Bytes8 zs) : fitB zs 256 = true := fitB_iff.2 ⟨by omega, by omega, goodI_iff.2 fun z hz => by have := h z hz; omega⟩

theorem Bytes8.rep {zs : List Int} (h : Bytes8 zs) (n : Nat) : Bytes8 (repI zs n) := by
  induction n with
  | zero => intro z hz; simp [repI] at hz
  | succ n ih => rw [repI_succ]; exact ih.app h

theorem zero_bytes (n : Nat) : Bytes8 (List.replicate n 0) := fun z hz => by
  rw [(List.mem_replicate.1 hz).2]
  omega

/-- Spread apart. -/
def sprI (b m : Int) (s : List Int) : List Int := s.map fun z => z * b + m
theorem sprI_len (b m : Int) (s : List Int) : (sprI b m s).length = s.length := List.length_map _
theorem sprI_snoc (b m : Int) {s : List Int} {i : Nat} (h : i < s.length) : sprI b m (s.take (i + 1)) = sprI b m (s.take i) ++ [s.getD i 0 * b + m] := by
  unfold sprI
  rw [takeI_succ h, List.map_append]
  rfl
theorem sprI_fit {b m : Int} {s : List Int} (hs : ∀ i, i < s.length → 0 ≤ s.getD i 0 ∧ s.getD i 0 ≤ 200) (hb0 : 1 ≤ b) (hb1 : b ≤ 9) (hm0 : 0 ≤ m) (hm1 : m ≤ 9) : fitB (sprI b m s) (200 * b + m + 1) = true := by
  refine fitB_iff.2 ⟨by omega, by omega, goodI_iff.2 fun z hz => ?_⟩
  obtain ⟨x, hx, rfl⟩ := List.mem_map.1 hz
  obtain ⟨i, hi, rfl⟩ := List.getElem_of_mem hx
  have h1 := hs i hi
  rw [show s.getD i 0 = s[i] by simp [List.getD, hi]] at h1
  have h2 := spread_in h1.1 h1.2 hb0 hb1
  omega
theorem plain_fit {s : List Int} (hs : ∀ i, i < s.length → 0 ≤ s.getD i 0 ∧ s.getD i 0 ≤ 200) : fitB s 201 = true :=
  fitB_iff.2 ⟨by omega, by omega, goodI_of fun j hj => by have := hs j hj; omega⟩
theorem banana_ord : InOrd [98, 97, 110, 97, 110, 97] [5, 3, 1, 0, 4, 2] := by
  refine ⟨by decide, ?_⟩
  show List.Pairwise (fun a b => cmpI (([98, 97, 110, 97, 110, 97] : List Int).drop a) (([98, 97, 110, 97, 110, 97] : List Int).drop b) < 0) [5, 3, 1, 0, 4, 2]
  decide
theorem banana_bytes : Bytes8 [98, 97, 110, 97, 110, 97] := by
  intro z hz
  simp only [List.mem_cons, List.not_mem_nil, or_false] at hz
  omega
end Go.Proofs.YtlmbdafilboblaaGreat

/- Contracts of sais.Ints, numbers and Bytes. -/
namespace Go.Proofs.YtlmbdafilboblaaGreat
set_option linter.unusedVariables false
set_option linter.unusedSimpArgs false
open Go.RowKit

theorem saInts_any (v : Value) (s : List Int) (k : Int) (w : World) (hv : Sl .i64 w v s) (hlen : s.length ≤ 1000000) :
    Calls Tryz.prog 27 #[v, .int .i64 k] w fun e w' => ∃ u L c, e = .returned (.tuple #[u, .int .i64 c]) ∧ ResI s k L c ∧ Own .i64 3 w.heap.size w' u L ∧ Ext w w' := by
  have HV := hide' hv
  have HLEN := hide' hlen
  obtain ⟨a, c, rfl, _⟩ := hv
  by_cases h1 : 100000 < s.length
  · have d1 : (100000 : Int) < (s.length : Int) := by omega
    have HR : Hid (ResI s k [] 2) := .inl ⟨h1, rfl, rfl⟩
    clear h1
    go_enter Tryz.func27, Tryz.ntmps27
    go_wp2
    go_ret2
    exact ⟨_, [], 2, rfl, HR.out, Own.nil _ _ _ _, Ext.refl _⟩
  · have d1 : decide ((100000 : Int) < (s.length : Int)) = false := by simp; omega
    have HC := hide' (counts_any _ s k w HV.out hlen)
    have HL1 : Hid (s.length ≤ 100000) := by show _ ≤ _; omega
    clear h1
    cases hf : fitB s k
    · have HR : Hid (ResI s k [] 1) := .inr (.inl ⟨HL1.out, hf, rfl, rfl⟩)
      rw [hf] at HC
      clear hf
      go_enter Tryz.func27, Tryz.ntmps27
      go_wp2_with fail
      refine HC.out.mono ?_
      rintro e w1 ⟨s1, rfl, _, he⟩
      have X1 := hide' he
      clear he HC
      go_wp2
      go_ret2
      exact ⟨_, [], 1, rfl, HR.out, Own.nil _ _ _ _, X1.out⟩
    · have HF := hide' hf
      rw [hf] at HC
      clear hf
      go_enter Tryz.func27, Tryz.ntmps27
      go_wp2_with fail
      refine HC.out.mono ?_
      rintro e w1 ⟨s1, rfl, _, he⟩
      have X1 := hide' he
      have hz := he.size
      clear he HC
      go_wp2_with fail
      refine (order_any (s.length + 1) _ s k w1 (by omega) (HV.out.ext X1.out) HF.out HLEN.out).mono ?_
      rintro e w2 ⟨u, R, rfl, hR, ho, he⟩
      have O2 := hide' (ho.low hz)
      have X2 := hide' (X1.out.trans he)
      have HR : Hid (ResI s k (natL R) 0) := .inr (.inr ⟨HL1.out, HF.out, rfl, R, hR, rfl⟩)
      clear ho he hR
      go_wp2
      go_ret2
      exact ⟨_, _, 0, rfl, HR.out, O2.out, X2.out⟩

set_option maxHeartbeats 1000000 in
theorem numbers_any (v : Value) (zs : List Int) (w : World) (hv : Sl .u8 w v zs) (h8 : Bytes8 zs) (hlen : zs.length ≤ 1000000) :
    Calls Tryz.prog 28 #[v] w fun e w' => ∃ u, e = .returned u ∧ Own .i64 3 w.heap.size w' u zs ∧ Ext w w' := by
  have HV := hide' hv
  have H8 := hide' h8
  obtain ⟨a, c, rfl, _⟩ := hv
  obtain ⟨n, HN⟩ : ∃ n, Hid (zs.length = n) := ⟨_, rfl⟩
  rw [HN.out] at HV hlen ⊢
  obtain ⟨w1, hmk, ho, he⟩ := make_ints w n hlen
  obtain ⟨g, HG⟩ : ∃ g, Hid (w.heap.size = g) := ⟨_, rfl⟩
  have hgw : w.heap.size ≤ g := by rw [HG.out]; exact Nat.le_refl _
  rw [HG.out] at ho hmk ⊢
  have O1 := hide' ho
  have X1 := hide' he
  have H0 : Hid (HalfI zs 0 (List.replicate n 0)) := by show HalfI _ _ _; rw [← HN.out]; exact HalfI.start zs
  clear ho he h8
  go_enter Tryz.func28, Tryz.ntmps28
  go_wp2
  go_loopw [11] (fun vi wr => ∃ (i : Nat) (r : List Int), i ≤ n ∧ vi = .int .i64 i ∧ Hid (HalfI zs i r) ∧ Hid (Own .i64 3 g wr (.slice (some ⟨g, 0, none⟩) n n) r) ∧ Hid (Ext w wr)) (fun vi _ => n - (intOf vi).toNat)
  case atStart => exact ⟨0, _, Nat.zero_le _, rfl, H0, O1, X1⟩
  case round =>
    clear O1 X1 H0 hmk
    obtain ⟨i, r, hi, rfl, HH, HO, HE⟩ := hrel
    have HRL : Hid (r.length = n) := by show _ = _; rw [HH.out.len, HN.out]
    by_cases hlt : i < n
    · have hlt' : (i : Int) < n := by omega
      have H1 := hide' (HH.out.next (by rw [HN.out]; exact hlt))
      obtain ⟨_, g1, o1, rfl, k1⟩ := HV.out.at (fun e => by have := HN.out; rw [e] at this; simp at this; omega)
      have c1 := HE.out.cellOf (k1 i hlt)
      have hz := H8.out.get i
      obtain ⟨z, HZ⟩ : ∃ z, Hid (zs.getD i 0 = z) := ⟨_, rfl⟩
      rw [HZ.out] at c1 H1 hz
      have hw : IntKind.i64.wrap z = z := by rw [IntKind.wrap_i64]; omega
      have c3 := HO.out.cell HRL.out i hlt
      have z3 := HO.out.frozen HRL.out i
      have O6 := hide' (HO.out.store HRL.out i z)
      have X6 : Hid (Ext w (wr.setCell ⟨g, i, none⟩ (.int .i64 z))) := Ext.but HE.out hgw (but_set _ _ _ _)
      clear k1 HO HE HH
      go_wp2
      go_roundw
      case rel => exact ⟨i + 1, _, by omega, by go_num, H1, O6, X6⟩
      case measure => simp [intOf] <;> omega
    · have d2 : decide ((i : Int) < n) = false := by simp; omega
      have hin : n = i := by omega
      have HD : Hid (r = zs) := by
        show _ = _
        have := HH.out
        rw [← hin, ← HN.out] at this
        exact this.done
      go_wp2
      go_ret
      refine ⟨_, rfl, ?_, HE.out⟩
      rw [← HD.out]
      exact HO.out

theorem saBytes_any (v : Value) (zs : List Int) (w : World) (hv : Sl .u8 w v zs) (h8 : Bytes8 zs) (hlen : zs.length ≤ 1000000) :
    Calls Tryz.prog 12 #[v] w fun e w' => ∃ u L c, e = .returned (.tuple #[u, .int .i64 c]) ∧ ResI zs 256 L c ∧ Own .i64 3 w.heap.size w' u L ∧ Ext w w' := by
  have HV := hide' hv
  have HLEN := hide' hlen
  have C := hide' (numbers_any v zs w hv h8 hlen)
  obtain ⟨a, c, rfl, _⟩ := hv
  by_cases h1 : 100000 < zs.length
  · have d1 : (100000 : Int) < (zs.length : Int) := by omega
    have HR : Hid (ResI zs 256 [] 2) := .inl ⟨h1, rfl, rfl⟩
    clear h1 C
    go_enter Tryz.func12, Tryz.ntmps12
    go_wp2
    go_ret2
    exact ⟨_, [], 2, rfl, HR.out, Own.nil _ _ _ _, Ext.refl _⟩
  · have d1 : decide ((100000 : Int) < (zs.length : Int)) = false := by simp; omega
    clear h1 h8
    go_enter Tryz.func12, Tryz.ntmps12
    go_wp2_with fail
    refine C.out.mono ?_
    rintro e w1 ⟨u, rfl, ho, he⟩
    have S1 := hide' ho.sl
    have X1 := hide' he
    have hz := he.size
    clear ho he C
    go_wp2_with fail
    refine (saInts_any _ zs 256 w1 S1.out HLEN.out).mono ?_
    rintro e w2 ⟨u2, L, c2, rfl, hR, ho, he⟩
    have O2 := hide' (ho.low hz)
    have X2 := hide' (X1.out.trans he)
    have HR := hide' hR
    clear ho he hR
    go_wp2
    go_ret2
    exact ⟨_, _, _, rfl, HR.out, O2.out, X2.out⟩
end Go.Proofs.YtlmbdafilboblaaGreat

/- Endings in order by thirds: triples, names of triples, ranks behind one or two numbers, two rows in order as one. Plain numbers, no conditions. -/
namespace Go.Proofs.YtlmbdafilboblaaGreat
set_option linter.unusedVariables false
set_option linter.unusedSimpArgs false

/-- A number, one more; behind the end nothing. -/
def padI (s : List Int) (i : Nat) : Int := if i < s.length then s.getD i 0 + 1 else 0
theorem padI_in {s : List Int} {i : Nat} (h : i < s.length) : padI s i = s.getD i 0 + 1 := if_pos h
theorem padI_out {s : List Int} {i : Nat} (h : s.length ≤ i) : padI s i = 0 := if_neg (by omega)
/-- No number is below 0. -/
def NonNeg (s : List Int) : Prop := ∀ i, i < s.length → 0 ≤ s.getD i 0
theorem padI_pos {s : List Int} (hs : NonNeg s) {i : Nat} : 0 < padI s i ↔ i < s.length := by
  by_cases h : i < s.length
  · rw [padI_in h]
    have := hs i h
    exact ⟨fun _ => h, fun _ => by omega⟩
  · rw [padI_out (by omega)]
    omega
theorem pad_lt {s : List Int} (hs : NonNeg s) {a b : Nat} (h : padI s a < padI s b) : ltE s a b := by
  by_cases hb : b < s.length
  · by_cases ha : a < s.length
    · rw [padI_in ha, padI_in hb] at h
      exact ltE_less ha hb (by omega)
    · exact ltE_end (by omega) hb
  · rw [padI_out (s := s) (i := b) (by omega)] at h
    by_cases ha : a < s.length
    · have := (padI_pos hs).2 ha
      omega
    · rw [padI_out (by omega)] at h
      omega
theorem pad_same {s : List Int} (hs : NonNeg s) {a b : Nat} (ha : a < s.length) (h : padI s a = padI s b) : b < s.length ∧ (ltE s a b ↔ ltE s (a + 1) (b + 1)) := by
  have hb : b < s.length := (padI_pos hs).1 (by rw [← h]; exact (padI_pos hs).2 ha)
  rw [padI_in ha, padI_in hb] at h
  exact ⟨hb, ltE_same ha hb (by omega)⟩
/-- By the first number, then by what stands behind it. -/
theorem pad_iff {s : List Int} (hs : NonNeg s) {a b : Nat} (h : a < s.length ∨ b < s.length) : ltE s a b ↔ padI s a < padI s b ∨ (padI s a = padI s b ∧ ltE s (a + 1) (b + 1)) := by
  rcases Int.lt_trichotomy (padI s a) (padI s b) with g | g | g
  · exact ⟨fun _ => .inl g, fun _ => pad_lt hs g⟩
  · have ha : a < s.length := by
      rcases h with h | h
      · exact h
      · exact (padI_pos hs).1 (by rw [g]; exact (padI_pos hs).2 h)
    rw [(pad_same hs ha g).2]
    exact ⟨fun k => .inr ⟨g, k⟩, fun k => by rcases k with k | k; exact absurd k (by omega); exact k.2⟩
  · refine ⟨fun k => absurd (ltE_trans k (pad_lt hs g)) ltE_irrefl, fun k => ?_⟩
    rcases k with k | k
    · omega
    · omega
/-- Is one triple less, are two the same? -/
def triLt (s : List Int) (a b : Nat) : Prop := padI s a < padI s b ∨ (padI s a = padI s b ∧ (padI s (a + 1) < padI s (b + 1) ∨ (padI s (a + 1) = padI s (b + 1) ∧ padI s (a + 2) < padI s (b + 2))))
def triEq (s : List Int) (a b : Nat) : Prop := padI s a = padI s b ∧ padI s (a + 1) = padI s (b + 1) ∧ padI s (a + 2) = padI s (b + 2)
theorem tri_lt {s : List Int} (hs : NonNeg s) {a b : Nat} (h : triLt s a b) : ltE s a b := by
  rcases h with h | ⟨h1, h⟩
  · exact pad_lt hs h
  · by_cases ha : a < s.length
    · rw [(pad_same hs ha h1).2]
      rcases h with h | ⟨h2, h⟩
      · exact pad_lt hs h
      · by_cases ha1 : a + 1 < s.length
        · rw [(pad_same hs ha1 h2).2]
          exact pad_lt hs h
        · rw [padI_out (s := s) (i := a + 2) (by omega)] at h
          have hb := (padI_pos hs).1 h
          have := (padI_pos hs).2 (show b + 1 < s.length by omega)
          rw [← h2, padI_out (by omega)] at this
          omega
    · have hb : ¬ b < s.length := fun hb => by
        have := (padI_pos hs).2 hb
        rw [← h1, padI_out (by omega)] at this
        omega
      rw [padI_out (s := s) (i := a + 1) (by omega), padI_out (s := s) (i := a + 2) (by omega), padI_out (s := s) (i := b + 1) (by omega), padI_out (s := s) (i := b + 2) (by omega)] at h
      omega
/-- Where two triples are the same, all of their numbers are there or the places are one. -/
theorem tri_same {s : List Int} (hs : NonNeg s) {a b : Nat} (ha : a < s.length) (hab : a ≠ b) (h : triEq s a b) : a + 2 < s.length ∧ b + 2 < s.length ∧ (ltE s a b ↔ ltE s (a + 3) (b + 3)) := by
  obtain ⟨h1, h2, h3⟩ := h
  obtain ⟨hb, e1⟩ := pad_same hs ha h1
  have step : ∀ {x y : Nat}, x < s.length → y < s.length → x ≠ y → padI s (x + 1) = padI s (y + 1) → x + 1 < s.length := fun {x y} hx hy hne h => by
    apply Nat.lt_of_not_le
    intro hle
    rw [padI_out hle] at h
    have : ¬ 0 < padI s (y + 1) := by omega
    rw [padI_pos hs] at this
    omega
  have ha1 := step ha hb hab h2
  obtain ⟨hb1, e2⟩ := pad_same hs ha1 h2
  have ha2 := step ha1 hb1 (by omega) h3
  obtain ⟨hb2, e3⟩ := pad_same hs ha2 h3
  exact ⟨ha2, hb2, by rw [e1, e2, e3]⟩

/-- A row of names: less ones are of less endings, same ones go on three places on. -/
structure Names3 (s N : List Int) (pl : Nat → Nat) : Prop where
  less : ∀ i j, i < N.length → j < N.length → N.getD i 0 < N.getD j 0 → ltE s (pl i) (pl j)
  same : ∀ i j, i < N.length → j < N.length → i ≠ j → N.getD i 0 = N.getD j 0 → (i + 1 < N.length ∧ j + 1 < N.length ∧ (ltE s (pl i) (pl j) ↔ ltE s (pl (i + 1)) (pl (j + 1)))) ∨ (i + 1 = N.length ∧ ltE s (pl i) (pl j)) ∨ (j + 1 = N.length ∧ ltE s (pl j) (pl i))
theorem ltE_no {s : List Int} {a b : Nat} (hb : s.length ≤ b) : ¬ ltE s a b := by
  unfold ltE
  rw [List.drop_of_length_le hb]
  cases s.drop a with
  | nil => decide
  | cons x l => simp [cmpI]
theorem Names3.lt {s N : List Int} {pl : Nat → Nat} (h : Names3 s N pl) : ∀ d i j, N.length - i = d → i < N.length → j < N.length → ltE N i j → ltE s (pl i) (pl j) := by
  intro d
  induction d with
  | zero => intro i j h1 h2; omega
  | succ d ih =>
    intro i j hd hi hj hlt
    rcases Int.lt_trichotomy (N.getD i 0) (N.getD j 0) with g | g | g
    · exact h.less i j hi hj g
    · have hne : i ≠ j := fun e => by
        subst e
        exact ltE_irrefl hlt
      rw [ltE_same hi hj g] at hlt
      rcases h.same i j hi hj hne g with ⟨h1, h2, h3⟩ | ⟨h1, h2⟩ | ⟨h1, h2⟩
      · exact h3.2 (ih (i + 1) (j + 1) (by omega) h1 h2 hlt)
      · exact h2
      · exact absurd hlt (ltE_no (by omega))
    · exact absurd (ltE_trans hlt (ltE_less hj hi g)) ltE_irrefl
theorem Names3.ord {s N : List Int} {pl : Nat → Nat} (h : Names3 s N pl) {R : List Nat} (hR : InOrd N R) : (R.map pl).Pairwise (ltE s) ∧ (R.map pl).Perm ((List.range N.length).map pl) := by
  refine ⟨?_, hR.1.map _⟩
  rw [List.pairwise_map]
  exact hR.2.imp_of_mem fun ha hb hlt => h.lt _ _ _ rfl (List.mem_range.1 (hR.1.mem_iff.1 ha)) (List.mem_range.1 (hR.1.mem_iff.1 hb)) hlt

/-- Two rows in order, laid together as far as the first i of the one and the first j of the other. -/
structure Merge (lt : Nat → Nat → Prop) (A B : List Nat) (i j : Nat) (out : List Nat) : Prop where
  perm : out.Perm (A.take i ++ B.take j)
  sorted : out.Pairwise lt
  lowA : ∀ x ∈ out, ∀ t, i ≤ t → t < A.length → lt x (A.getD t 0)
  lowB : ∀ x ∈ out, ∀ t, j ≤ t → t < B.length → lt x (B.getD t 0)
theorem Merge.start (lt : Nat → Nat → Prop) (A B : List Nat) : Merge lt A B 0 0 [] := ⟨List.Perm.refl _, List.Pairwise.nil, (fun x hx => by cases hx), (fun x hx => by cases hx)⟩
theorem Merge.len {lt : Nat → Nat → Prop} {A B out : List Nat} {i j : Nat} (h : Merge lt A B i j out) (hi : i ≤ A.length) (hj : j ≤ B.length) : out.length = i + j := by
  rw [h.perm.length_eq, List.length_append, List.length_take, List.length_take]
  omega
theorem Merge.swap {lt : Nat → Nat → Prop} {A B out : List Nat} {i j : Nat} (h : Merge lt A B i j out) : Merge lt B A j i out := ⟨h.perm.trans List.perm_append_comm, h.sorted, h.lowB, h.lowA⟩
/-- The next of the first row comes, if it is less than the next of the second, or there is none. -/
theorem Merge.left {lt : Nat → Nat → Prop} {A B out : List Nat} {i j : Nat} (tr : ∀ a b c, lt a b → lt b c → lt a c) (hA : A.Pairwise lt) (hB : B.Pairwise lt) (h : Merge lt A B i j out) (hi : i < A.length) (hl : j < B.length → lt (A.getD i 0) (B.getD j 0)) : Merge lt A B (i + 1) j (out ++ [A.getD i 0]) := by
  refine ⟨?_, ?_, fun x hx t h1 h2 => ?_, fun x hx t h1 h2 => ?_⟩
  · rw [takeN_succ hi]
    have h1 := h.perm.append_right [A.getD i 0]
    refine h1.trans ?_
    rw [List.append_assoc, List.append_assoc]
    exact List.Perm.append_left _ List.perm_append_comm
  · rw [List.pairwise_append]
    exact ⟨h.sorted, List.pairwise_singleton _ _, fun x hx y hy => by rw [List.mem_singleton.1 hy]; exact h.lowA x hx i (Nat.le_refl _) hi⟩
  · rcases List.mem_append.1 hx with g | g
    · exact h.lowA x g t (by omega) h2
    · rw [List.mem_singleton.1 g]
      exact pairN_at hA (show i < t by omega) h2
  · rcases List.mem_append.1 hx with g | g
    · exact h.lowB x g t h1 h2
    · rw [List.mem_singleton.1 g]
      by_cases e : t = j
      · subst e
        exact hl h2
      · exact tr _ _ _ (hl (by omega)) (pairN_at hB (show j < t by omega) h2)
theorem Merge.right {lt : Nat → Nat → Prop} {A B out : List Nat} {i j : Nat} (tr : ∀ a b c, lt a b → lt b c → lt a c) (hA : A.Pairwise lt) (hB : B.Pairwise lt) (h : Merge lt A B i j out) (hj : j < B.length) (hl : i < A.length → lt (B.getD j 0) (A.getD i 0)) : Merge lt A B i (j + 1) (out ++ [B.getD j 0]) :=
  (h.swap.left tr hB hA hj hl).swap
theorem Merge.done {lt : Nat → Nat → Prop} {A B out : List Nat} (h : Merge lt A B A.length B.length out) : out.Pairwise lt ∧ out.Perm (A ++ B) := by
  have := h.perm
  rw [List.take_length, List.take_length] at this
  exact ⟨h.sorted, this⟩
/-- All that is left of one row, where nothing is left of the other. -/
theorem Merge.rest_left {lt : Nat → Nat → Prop} {A B : List Nat} (tr : ∀ a b c, lt a b → lt b c → lt a c) (hA : A.Pairwise lt) (hB : B.Pairwise lt) : ∀ (d : Nat) {i : Nat} {out : List Nat}, Merge lt A B i B.length out → i + d = A.length → Merge lt A B A.length B.length (out ++ A.drop i) := by
  intro d
  induction d with
  | zero =>
    intro i out h hi
    rw [List.drop_eq_nil_of_le (by omega), List.append_nil]
    rw [show A.length = i by omega]
    exact h
  | succ d ih =>
    intro i out h hi
    have h1 := h.left tr hA hB (show i < A.length by omega) (fun g => by omega)
    have h2 := ih h1 (by omega)
    rw [List.append_assoc, List.singleton_append] at h2
    rw [dropN_cons (show i < A.length by omega)]
    exact h2
theorem Merge.rest_right {lt : Nat → Nat → Prop} {A B : List Nat} (tr : ∀ a b c, lt a b → lt b c → lt a c) (hA : A.Pairwise lt) (hB : B.Pairwise lt) (d : Nat) {j : Nat} {out : List Nat} (h : Merge lt A B A.length j out) (hj : j + d = B.length) : Merge lt A B A.length B.length (out ++ B.drop j) :=
  (Merge.rest_left tr hB hA d h.swap hj).swap
end Go.Proofs.YtlmbdafilboblaaGreat

/- Thirds: the sample's places, triples' names, ranks, what is left, and all as one. Plain numbers, no conditions. -/
namespace Go.Proofs.YtlmbdafilboblaaGreat
set_option linter.unusedVariables false
set_option linter.unusedSimpArgs false

/-- The numbers, one more, and three noughts behind them. -/
def tailI (s : List Int) : List Int := s.map (fun z => z + 1) ++ [0, 0, 0]
theorem tailI_len (s : List Int) : (tailI s).length = s.length + 3 := by simp [tailI]
theorem tailI_at (s : List Int) (i : Nat) : (tailI s).getD i 0 = padI s i := by
  unfold tailI padI
  by_cases h : i < s.length
  · rw [if_pos h, List.getD, List.getElem?_append_left (by rw [List.length_map]; exact h)]
    simp [List.getD, h]
  · rw [if_neg h, List.getD, List.getElem?_append_right (by rw [List.length_map]; omega), List.length_map]
    rcases i - s.length with _ | _ | _ | d <;> simp
theorem tailI_drop (s : List Int) (a i : Nat) : ((tailI s).drop a).getD i 0 = padI s (i + a) := by
  rw [← tailI_at, List.getD, List.getElem?_drop, List.getD, Nat.add_comm]
theorem padI_ge {s : List Int} (hs : NonNeg s) (i : Nat) : 0 ≤ padI s i := by
  by_cases h : i < s.length
  · rw [padI_in h]
    have := hs i h
    omega
  · rw [padI_out (by omega)]
    exact Int.le_refl _

/-- The sample's places. -/
def sampAt (A i : Nat) : Nat := if i < A then 3 * i + 1 else 3 * (i - A) + 2
def twoN (n : Nat) : List Nat := (List.range ((n + 1) / 3 + n / 3)).map (sampAt ((n + 1) / 3))
theorem twoN_len (n : Nat) : (twoN n).length = (n + 1) / 3 + n / 3 := by simp [twoN]
theorem twoN_at {n i : Nat} (h : i < (n + 1) / 3 + n / 3) : (twoN n).getD i 0 = sampAt ((n + 1) / 3) i := mapI_at _ _ h
theorem twoN_mem {n p : Nat} : p ∈ twoN n ↔ p < n ∧ p % 3 ≠ 0 := by
  unfold twoN
  rw [List.mem_map]
  constructor
  · rintro ⟨i, hi, rfl⟩
    have := List.mem_range.1 hi
    unfold sampAt
    split <;> omega
  · rintro ⟨h1, h2⟩
    by_cases h3 : p % 3 = 1
    · refine ⟨p / 3, List.mem_range.2 (by omega), ?_⟩
      unfold sampAt
      rw [if_pos (by omega)]
      omega
    · refine ⟨(n + 1) / 3 + p / 3, List.mem_range.2 (by omega), ?_⟩
      unfold sampAt
      rw [if_neg (by omega)]
      omega
theorem sampAt_inj {A i j : Nat} (h : sampAt A i = sampAt A j) : i = j := by
  unfold sampAt at h
  split at h <;> split at h <;> omega
theorem twoN_nodup (n : Nat) : (twoN n).Nodup := by
  unfold twoN
  unfold List.Nodup
  rw [List.pairwise_map]
  exact List.nodup_range.imp fun h e => h (sampAt_inj e)
/-- How far the sample of n numbers goes: n itself is in it where it is 1 modulo 3. -/
def sampK (n : Nat) : Nat := if n % 3 = 1 then n + 1 else n
def sampA (n : Nat) : Nat := (sampK n + 1) / 3
def sampM (n : Nat) : Nat := (sampK n + 1) / 3 + sampK n / 3
def samp (n : Nat) : List Nat := (List.range (sampM n)).map (sampAt (sampA n))
theorem samp_two (n : Nat) : samp n = twoN (sampK n) := rfl
theorem samp_len (n : Nat) : (samp n).length = sampM n := by simp [samp]
theorem samp_at {n i : Nat} (h : i < sampM n) : (samp n).getD i 0 = sampAt (sampA n) i := mapI_at _ _ h
theorem samp_mem {n p : Nat} : p ∈ samp n ↔ p % 3 ≠ 0 ∧ (p < n ∨ (p = n ∧ n % 3 = 1)) := by
  rw [samp_two, twoN_mem]
  unfold sampK
  split <;> omega
theorem sampM_le (n : Nat) : sampM n ≤ n := by
  unfold sampM sampK
  split <;> omega
theorem sampM_lt {n : Nat} (h : 2 ≤ n) : sampM n < n := by
  unfold sampM sampK
  split <;> omega
theorem sampAt_mem {n i : Nat} (h : i < sampM n) : sampAt (sampA n) i % 3 ≠ 0 ∧ sampAt (sampA n) i ≤ n := by
  have h1 : sampAt (sampA n) i ∈ samp n := by
    rw [← samp_at h]
    exact getN_mem (by rw [samp_len]; exact h)
  have := samp_mem.1 h1
  omega
theorem sampAt_step {n i : Nat} (h : i < sampM n) (h2 : sampAt (sampA n) i + 2 < n) : (i + 1 < sampM n ∧ sampAt (sampA n) (i + 1) = sampAt (sampA n) i + 3) ∨ (i + 1 = sampM n ∧ sampAt (sampA n) i + 3 = n) := by
  have hK : (n % 3 = 1 ∧ sampK n = n + 1) ∨ (n % 3 ≠ 1 ∧ sampK n = n) := by
    unfold sampK
    split
    · exact .inl ⟨by assumption, rfl⟩
    · exact .inr ⟨by assumption, rfl⟩
  have hA : sampA n = (sampK n + 1) / 3 := rfl
  have hM : sampM n = (sampK n + 1) / 3 + sampK n / 3 := rfl
  generalize sampM n = M at *
  generalize sampA n = A at *
  generalize sampK n = K at *
  unfold sampAt at *
  by_cases g : i < A
  · rw [if_pos g] at h2 ⊢
    rw [if_pos (by omega)]
    omega
  · rw [if_neg g] at h2 ⊢
    rw [if_neg (by omega)]
    omega

/-- Are two triples the same? -/
def triB (s : List Int) (a b : Nat) : Bool := decide (padI s a = padI s b ∧ padI s (a + 1) = padI s (b + 1) ∧ padI s (a + 2) = padI s (b + 2))
theorem triB_iff {s : List Int} {a b : Nat} : triB s a b = true ↔ triEq s a b := decide_eq_true_iff
/-- The names of triples in order. -/
def nmT (s : List Int) (G : List Nat) : Nat → Nat
  | 0 => 0
  | t + 1 => nmT s G t + if triB s (G.getD t 0) (G.getD (t + 1) 0) = true then 0 else 1
theorem nmT_same {s : List Int} {G : List Nat} {t : Nat} (h : triB s (G.getD t 0) (G.getD (t + 1) 0) = true) : nmT s G (t + 1) = nmT s G t := by
  show nmT s G t + _ = _
  rw [if_pos h]
  rfl
theorem nmT_other {s : List Int} {G : List Nat} {t : Nat} (h : triB s (G.getD t 0) (G.getD (t + 1) 0) = false) : nmT s G (t + 1) = nmT s G t + 1 := by
  show nmT s G t + _ = _
  rw [if_neg (by rw [h]; simp)]
theorem nmT_add (s : List Int) (G : List Nat) (t : Nat) : ∀ d, nmT s G (t + d) ≤ nmT s G t + d ∧ nmT s G t ≤ nmT s G (t + d) := by
  intro d
  induction d with
  | zero => exact ⟨Nat.le_refl _, Nat.le_refl _⟩
  | succ d ih =>
    cases e : triB s (G.getD (t + d) 0) (G.getD (t + d + 1) 0)
    · rw [← Nat.add_assoc, nmT_other e]
      omega
    · rw [← Nat.add_assoc, nmT_same e]
      omega
theorem nmT_le (s : List Int) (G : List Nat) (t : Nat) : nmT s G t ≤ t := by
  have := (nmT_add s G 0 t).1
  rw [Nat.zero_add] at this
  exact Nat.le_trans this (by show 0 + t ≤ t; omega)
/-- In order of triples. -/
def SortT (s : List Int) (G : List Nat) : Prop := G.Pairwise fun a b => triLt s a b ∨ triEq s a b
theorem nmT_tell {s : List Int} {G : List Nat} (h : SortT s G) (t : Nat) : ∀ d, t + d < G.length → (nmT s G t = nmT s G (t + d) ∧ triEq s (G.getD t 0) (G.getD (t + d) 0)) ∨ (nmT s G t < nmT s G (t + d) ∧ triLt s (G.getD t 0) (G.getD (t + d) 0)) := by
  intro d
  induction d with
  | zero => intro _; exact .inl ⟨rfl, rfl, rfl, rfl⟩
  | succ d ih =>
    intro hl
    have h1 := ih (by omega)
    have h2 := pairN_at h (show t + d < t + d + 1 by omega) (by omega)
    rw [← Nat.add_assoc]
    cases e : triB s (G.getD (t + d) 0) (G.getD (t + d + 1) 0)
    · rw [nmT_other e]
      have h3 : ¬ triEq s (G.getD (t + d) 0) (G.getD (t + d + 1) 0) := fun g => by
        rw [triB_iff.2 g] at e
        cases e
      have h4 : triLt s (G.getD (t + d) 0) (G.getD (t + d + 1) 0) := by
        rcases h2 with g | g
        · exact g
        · exact absurd g h3
      right
      refine ⟨by omega, ?_⟩
      clear h2 h3 e
      rcases h1 with ⟨_, g⟩ | ⟨_, g⟩ <;> unfold triLt triEq at * <;> omega
    · rw [nmT_same e]
      have h4 := triB_iff.1 e
      clear h2 e
      rcases h1 with ⟨g0, g⟩ | ⟨g0, g⟩
      · left
        refine ⟨g0, ?_⟩
        unfold triEq at *
        omega
      · right
        refine ⟨g0, ?_⟩
        unfold triLt triEq at *
        omega
theorem nmT_less {s : List Int} {G : List Nat} (h : SortT s G) {t u : Nat} (ht : t < G.length) (hu : u < G.length) (hn : nmT s G t < nmT s G u) : triLt s (G.getD t 0) (G.getD u 0) := by
  by_cases hle : t ≤ u
  · have := nmT_tell h t (u - t) (by omega)
    rw [show t + (u - t) = u by omega] at this
    rcases this with g | g
    · omega
    · exact g.2
  · have := (nmT_add s G u (t - u)).2
    rw [show u + (t - u) = t by omega] at this
    omega
theorem nmT_eq {s : List Int} {G : List Nat} (h : SortT s G) {t u : Nat} (ht : t < G.length) (hu : u < G.length) (hn : nmT s G t = nmT s G u) : triEq s (G.getD t 0) (G.getD u 0) := by
  by_cases hle : t ≤ u
  · have := nmT_tell h t (u - t) (by omega)
    rw [show t + (u - t) = u by omega] at this
    rcases this with g | g
    · exact g.2
    · omega
  · have := nmT_tell h u (t - u) (by omega)
    rw [show u + (t - u) = t by omega] at this
    rcases this with g | g
    · exact ⟨g.2.1.symm, g.2.2.1.symm, g.2.2.2.symm⟩
    · omega

/-- Names as far as the first i places of the row. -/
structure NamedT (s : List Int) (G : List Nat) (L i : Nat) (A : List Int) (c : Nat) : Prop where
  len : A.length = L
  name : ∀ t, t < i → A.getD (G.getD t 0) 0 = (nmT s G t : Int) + 1
  zero : i = 0 → c = 0
  count : ∀ t, i = t + 1 → c = nmT s G t + 1
theorem NamedT.start (s : List Int) (G : List Nat) (L : Nat) : NamedT s G L 0 (List.replicate L 0) 0 := ⟨List.length_replicate, fun t h => by omega, fun _ => rfl, fun t h => by omega⟩
theorem NamedT.next {s : List Int} {G : List Nat} {L i c : Nat} {A : List Int} (h : NamedT s G L i A c) (hn : G.Nodup) (hi : i < G.length) (hL : G.getD i 0 < L) : NamedT s G L (i + 1) (A.set (G.getD i 0) ((nmT s G i : Int) + 1)) (nmT s G i + 1) := by
  refine ⟨by rw [List.length_set]; exact h.len, fun t ht => ?_, fun h0 => by omega, fun t ht => by rw [show i = t by omega]⟩
  by_cases e : t = i
  · subst e
    rw [setI_same (by rw [h.len]; exact hL)]
  · rw [setI_other (fun e2 => e (nodup_getN hn (by omega) hi e2.symm))]
    exact h.name t (by omega)
theorem NamedT.le {s : List Int} {G : List Nat} {L i c : Nat} {A : List Int} (h : NamedT s G L i A c) : c ≤ i := by
  by_cases h0 : i = 0
  · rw [h.zero h0]; omega
  · rw [h.count (i - 1) (by omega)]
    have := nmT_le s G (i - 1)
    omega

/-- A row with its tail, as far as it is laid. -/
structure HalfT (f : Nat → Int) (m i : Nat) (r : List Int) : Prop where
  len : r.length = m + 3
  at' : ∀ t, t < i → r.getD t 0 = f t
  zero : ∀ t, i ≤ t → r.getD t 0 = 0
theorem HalfT.start (f : Nat → Int) (m : Nat) : HalfT f m 0 (List.replicate (m + 3) 0) := ⟨List.length_replicate, (fun t h => by omega), fun t _ => by
  by_cases h : t < m + 3
  · simp [List.getD, h]
  · simp [List.getD, List.getElem?_eq_none (show (List.replicate (m + 3) (0 : Int)).length ≤ t by rw [List.length_replicate]; omega)]⟩
theorem HalfT.next {f : Nat → Int} {m i : Nat} {r : List Int} (h : HalfT f m i r) (hi : i < m) : HalfT f m (i + 1) (r.set i (f i)) := by
  refine ⟨by rw [List.length_set]; exact h.len, fun t ht => ?_, fun t ht => ?_⟩
  · by_cases e : t = i
    · subst e
      rw [setI_same (by rw [h.len]; omega)]
    · rw [setI_other (by omega)]
      exact h.at' t (by omega)
  · rw [setI_other (by omega)]
    exact h.zero t (by omega)
theorem HalfT.done {f : Nat → Int} {m : Nat} {r N : List Int} (h : HalfT f m m r) (hN : N.length = m) (hf : ∀ t, t < m → N.getD t 0 + 1 = f t) : r = tailI N := by
  refine rowI_ext (by rw [h.len, tailI_len, hN]) fun t ht => ?_
  rw [tailI_at]
  by_cases e : t < m
  · rw [h.at' t e, padI_in (by rw [hN]; exact e), hf t e]
  · rw [h.zero t (by omega), padI_out (by rw [hN]; omega)]

/-- The row of names. -/
def namI (n : Nat) (A : List Int) : List Int := (List.range (sampM n)).map fun i => A.getD (sampAt (sampA n) i) 0 - 1
theorem namI_len (n : Nat) (A : List Int) : (namI n A).length = sampM n := by simp [namI]
theorem namI_at {n : Nat} (A : List Int) {i : Nat} (h : i < sampM n) : (namI n A).getD i 0 = A.getD (sampAt (sampA n) i) 0 - 1 := mapI_at _ _ h
theorem NamedT.find {s : List Int} {G : List Nat} {L c : Nat} {A : List Int} (h : NamedT s G L G.length A c) (hG : G.Perm (samp s.length)) {i : Nat} (hi : i < sampM s.length) : ∃ t, t < G.length ∧ G.getD t 0 = sampAt (sampA s.length) i ∧ (namI s.length A).getD i 0 = (nmT s G t : Int) := by
  have hm : sampAt (sampA s.length) i ∈ G := hG.mem_iff.2 (by rw [← samp_at hi]; exact getN_mem (by rw [samp_len]; exact hi))
  obtain ⟨t, ht, et⟩ := mem_getN hm
  refine ⟨t, ht, et, ?_⟩
  rw [namI_at A hi, ← et, h.name t ht]
  omega
theorem NamedT.names {s : List Int} (hs : NonNeg s) {G : List Nat} {L c : Nat} {A : List Int} (h : NamedT s G L G.length A c) (hG : G.Perm (samp s.length)) (ho : SortT s G) : Names3 s (namI s.length A) (sampAt (sampA s.length)) := by
  refine ⟨fun i j hi hj hlt => ?_, fun i j hi hj hne he => ?_⟩
  · rw [namI_len] at hi hj
    obtain ⟨t, ht, et, nt⟩ := h.find hG hi
    obtain ⟨u, hu, eu, nu⟩ := h.find hG hj
    rw [nt, nu] at hlt
    rw [← et, ← eu]
    exact tri_lt hs (nmT_less ho ht hu (by omega))
  · rw [namI_len] at hi hj ⊢
    obtain ⟨t, ht, et, nt⟩ := h.find hG hi
    obtain ⟨u, hu, eu, nu⟩ := h.find hG hj
    rw [nt, nu] at he
    have hq := nmT_eq ho ht hu (by omega)
    rw [et, eu] at hq
    have mi := sampAt_mem hi
    have mj := sampAt_mem hj
    have hpl : sampAt (sampA s.length) i ≠ sampAt (sampA s.length) j := fun e => hne (sampAt_inj e)
    have hin : sampAt (sampA s.length) i < s.length := by
      apply Nat.lt_of_not_le
      intro hle
      have h1 := hq.1
      rw [padI_out hle] at h1
      have h2 : ¬ 0 < padI s (sampAt (sampA s.length) j) := by omega
      rw [padI_pos hs] at h2
      omega
    obtain ⟨h1, h2, h3⟩ := tri_same hs hin hpl hq
    rcases sampAt_step hi h1 with ⟨a1, a2⟩ | ⟨a1, a2⟩
    · rcases sampAt_step hj h2 with ⟨b1, b2⟩ | ⟨b1, b2⟩
      · exact .inl ⟨a1, b1, by rw [a2, b2]; exact h3⟩
      · refine .inr (.inr ⟨b1, ?_⟩)
        have h4 := tri_same hs (a := sampAt (sampA s.length) j) (by omega) hpl.symm ⟨hq.1.symm, hq.2.1.symm, hq.2.2.symm⟩
        exact h4.2.2.2 (ltE_end (by omega) (by omega))
    · exact .inr (.inl ⟨a1, h3.2 (ltE_end (by omega) (by omega))⟩)
theorem NamedT.fit {s : List Int} {G : List Nat} {L c : Nat} {A : List Int} (h : NamedT s G L G.length A c) (hG : G.Perm (samp s.length)) (hc : c ≤ 1000000) : fitB (tailI (namI s.length A)) ((c : Int) + 1) = true ∧ NonNeg (namI s.length A) := by
  have hl : G.length = sampM s.length := by rw [hG.length_eq, samp_len]
  have key : ∀ i, i < sampM s.length → 0 ≤ (namI s.length A).getD i 0 ∧ (namI s.length A).getD i 0 + 1 ≤ c := fun i hi => by
    obtain ⟨t, ht, et, nt⟩ := h.find hG hi
    have h1 := h.count (G.length - 1) (by omega)
    have h2 := (nmT_add s G t (G.length - 1 - t)).2
    rw [show t + (G.length - 1 - t) = G.length - 1 by omega] at h2
    rw [nt]
    omega
  refine ⟨fitB_iff.2 ⟨by omega, by omega, goodI_of fun j hj => ?_⟩, fun i hi => (key i (by rw [namI_len] at hi; exact hi)).1⟩
  rw [tailI_at]
  by_cases e : j < sampM s.length
  · rw [padI_in (by rw [namI_len]; exact e)]
    have := key j e
    omega
  · rw [padI_out (by rw [namI_len]; omega)]
    omega
/-- The sample in order of its endings. -/
structure InSamp (s : List Int) (G : List Nat) : Prop where
  perm : G.Perm (samp s.length)
  ord : G.Pairwise (ltE s)
theorem InSamp.len {s : List Int} {G : List Nat} (h : InSamp s G) : G.length = sampM s.length := by rw [h.perm.length_eq, samp_len]
theorem InSamp.mem {s : List Int} {G : List Nat} (h : InSamp s G) {p : Nat} : p ∈ G ↔ p % 3 ≠ 0 ∧ (p < s.length ∨ (p = s.length ∧ s.length % 3 = 1)) := by rw [h.perm.mem_iff, samp_mem]
theorem NamedT.apart {s : List Int} (hs : NonNeg s) {G : List Nat} {L c : Nat} {A : List Int} (h : NamedT s G L G.length A c) (hG : G.Perm (samp s.length)) (ho : SortT s G) (hc : G.length ≤ c) : InSamp s G := by
  refine ⟨hG, ?_⟩
  rw [List.pairwise_iff_getElem]
  intro i j hi hj hij
  have key : ∀ t, t < G.length → nmT s G t = t := fun t ht => by
    have h1 := h.count (G.length - 1) (by omega)
    have h2 := (nmT_add s G t (G.length - 1 - t)).1
    rw [show t + (G.length - 1 - t) = G.length - 1 by omega] at h2
    have h3 := nmT_le s G t
    omega
  have h1 := nmT_less ho hi hj (by rw [key i hi, key j hj]; exact hij)
  rw [show G.getD i 0 = G[i] by simp [List.getD, hi], show G.getD j 0 = G[j] by simp [List.getD, hj]] at h1
  exact tri_lt hs h1
theorem NamedT.back {s : List Int} (hs : NonNeg s) {G R : List Nat} {L c : Nat} {A : List Int} (h : NamedT s G L G.length A c) (hG : G.Perm (samp s.length)) (ho : SortT s G) (hR : InOrd (namI s.length A) R) : InSamp s (R.map (sampAt (sampA s.length))) := by
  have h1 := (h.names hs hG ho).ord hR
  refine ⟨?_, h1.1⟩
  have h2 := h1.2
  rw [namI_len] at h2
  exact h2

/-- Three passes: in order of triples. -/
theorem sort3 {s : List Int} (hs : NonNeg s) {k : Nat} (hk : ∀ i, padI s i < k) (P : List Nat) :
    SortT s (csort k (csort k (csort k P fun p => (padI s (p + 2)).toNat) fun p => (padI s (p + 1)).toNat) fun p => (padI s p).toNat) ∧ (csort k (csort k (csort k P fun p => (padI s (p + 2)).toNat) fun p => (padI s (p + 1)).toNat) fun p => (padI s p).toNat).Perm P := by
  have hlt : ∀ i, (padI s i).toNat < k := fun i => by
    have := hk i
    have := padI_ge hs i
    omega
  constructor
  · have h0 : P.Pairwise fun _ _ => True := List.pairwise_of_forall fun _ _ => trivial
    have h3 := csort_sorted k (fun p => (padI s p).toNat) (csort_sorted k (fun p => (padI s (p + 1)).toNat) (csort_sorted k (fun p => (padI s (p + 2)).toNat) h0))
    refine h3.imp fun {a b} h => ?_
    have a0 := padI_ge hs a
    have a1 := padI_ge hs (a + 1)
    have a2 := padI_ge hs (a + 2)
    have b0 := padI_ge hs b
    have b1 := padI_ge hs (b + 1)
    have b2 := padI_ge hs (b + 2)
    unfold triLt triEq
    generalize padI s a = x0 at *
    generalize padI s (a + 1) = x1 at *
    generalize padI s (a + 2) = x2 at *
    generalize padI s b = y0 at *
    generalize padI s (b + 1) = y1 at *
    generalize padI s (b + 2) = y2 at *
    omega
  · exact (csort_perm fun p _ => hlt _).trans ((csort_perm fun p _ => hlt _).trans (csort_perm fun p _ => hlt _))

/-- The places ahead of the sample's first third, as they stand there. -/
def restOf (G : List Nat) : List Nat := (G.filter fun p => p % 3 == 1).map fun p => p - 1
theorem restOf_yes {G : List Nat} {i : Nat} (hi : i < G.length) (h : G.getD i 0 % 3 = 1) : restOf (G.take (i + 1)) = restOf (G.take i) ++ [G.getD i 0 - 1] := by
  rw [takeN_succ hi]
  unfold restOf
  rw [List.filter_append, List.map_append, List.filter_cons_of_pos (by simpa using h)]
  rfl
theorem restOf_no {G : List Nat} {i : Nat} (hi : i < G.length) (h : G.getD i 0 % 3 ≠ 1) : restOf (G.take (i + 1)) = restOf (G.take i) := by
  rw [takeN_succ hi]
  unfold restOf
  rw [List.filter_append, List.filter_cons_of_neg (by simpa using h), List.filter_nil, List.append_nil]
theorem restOf_len (G : List Nat) : (restOf G).length ≤ G.length := by
  unfold restOf
  rw [List.length_map]
  exact List.length_filter_le _ _
theorem restOf_mem {s : List Int} {G : List Nat} (h : InSamp s G) {a : Nat} : a ∈ restOf G ↔ a < s.length ∧ a % 3 = 0 := by
  unfold restOf
  rw [List.mem_map]
  constructor
  · rintro ⟨p, hp, rfl⟩
    obtain ⟨h1, h2⟩ := List.mem_filter.1 hp
    have h3 := h.mem.1 h1
    have h4 : p % 3 = 1 := by simpa using h2
    omega
  · rintro ⟨h1, h2⟩
    exact ⟨a + 1, List.mem_filter.2 ⟨h.mem.2 (by omega), by simp; omega⟩, by omega⟩
/-- The rest in order of its endings. -/
structure InRest (s : List Int) (T : List Nat) : Prop where
  mem : ∀ a, a ∈ T ↔ a < s.length ∧ a % 3 = 0
  ord : T.Pairwise (ltE s)
  len : T.length ≤ s.length
theorem rest_ord {s : List Int} (hs : NonNeg s) {k : Nat} (hk : ∀ i, padI s i < k) {G : List Nat} (h : InSamp s G) : InRest s (csort k (restOf G) fun p => (padI s p).toNat) := by
  have hlt : ∀ i, (padI s i).toNat < k := fun i => by
    have := hk i
    have := padI_ge hs i
    omega
  have hp : (csort k (restOf G) fun p => (padI s p).toNat).Perm (restOf G) := csort_perm fun p _ => hlt p
  refine ⟨fun a => by rw [hp.mem_iff, restOf_mem h], ?_, ?_⟩
  · have h0 : (restOf G).Pairwise fun a b => ltE s (a + 1) (b + 1) := by
      unfold restOf
      rw [List.pairwise_map]
      refine (h.ord.filter _).imp_of_mem fun {a b} ha hb hab => ?_
      have ha2 : a % 3 = 1 := by simpa using (List.mem_filter.1 ha).2
      have hb2 : b % 3 = 1 := by simpa using (List.mem_filter.1 hb).2
      rw [show a - 1 + 1 = a by omega, show b - 1 + 1 = b by omega]
      exact hab
    refine (csort_sorted k (fun p => (padI s p).toNat) h0).imp_of_mem fun {a b} ha hb hab => ?_
    have h1 := ((restOf_mem h).1 (hp.mem_iff.1 ha)).1
    have a0 := padI_ge hs a
    have b0 := padI_ge hs b
    refine (pad_iff hs (.inl h1)).2 ?_
    rcases hab with g | ⟨g, g2⟩
    · exact .inl (by omega)
    · exact .inr ⟨by omega, g2⟩
  · rw [hp.length_eq]
    have h1 := restOf_len G
    have h2 := sampM_le s.length
    rw [h.len] at h1
    omega

/-- Ranks of the first i places. -/
structure RankT (G : List Nat) (L i : Nat) (r : List Int) : Prop where
  len : r.length = L
  at' : ∀ t, t < i → r.getD (G.getD t 0) 0 = (t : Int) + 1
  no : ∀ p, (∀ t, t < i → G.getD t 0 ≠ p) → r.getD p 0 = 0
theorem RankT.start (G : List Nat) (L : Nat) : RankT G L 0 (List.replicate L 0) := ⟨List.length_replicate, (fun t h => by omega), fun p _ => by
  by_cases h : p < L
  · simp [List.getD, h]
  · simp [List.getD, List.getElem?_eq_none (show (List.replicate L (0 : Int)).length ≤ p by rw [List.length_replicate]; omega)]⟩
theorem RankT.next {G : List Nat} {L i : Nat} {r : List Int} (h : RankT G L i r) (hn : G.Nodup) (hi : i < G.length) (hL : G.getD i 0 < L) : RankT G L (i + 1) (r.set (G.getD i 0) ((i : Int) + 1)) := by
  refine ⟨by rw [List.length_set]; exact h.len, fun t ht => ?_, fun p hp => ?_⟩
  · by_cases e : t = i
    · subst e
      rw [setI_same (by rw [h.len]; exact hL)]
    · rw [setI_other (fun e2 => e (nodup_getN hn (by omega) hi e2.symm))]
      exact h.at' t (by omega)
  · rw [setI_other (hp i (by omega))]
    exact h.no p fun t ht => hp t (by omega)
theorem rankT_iff {s : List Int} {G : List Nat} {L : Nat} {r : List Int} (h : RankT G L G.length r) (hG : InSamp s G) {a b : Nat} (ha : a ≤ s.length) (hb : b ≤ s.length) (hab : a ≠ b) (ha3 : a % 3 ≠ 0) (hb3 : b % 3 ≠ 0) : r.getD a 0 < r.getD b 0 ↔ ltE s a b := by
  have key : ∀ p, p ≤ s.length → p % 3 ≠ 0 → (∃ t, t < G.length ∧ G.getD t 0 = p ∧ r.getD p 0 = (t : Int) + 1) ∨ (p = s.length ∧ r.getD p 0 = 0) := fun p h1 h2 => by
    by_cases hm : p ∈ G
    · obtain ⟨t, ht, et⟩ := mem_getN hm
      exact .inl ⟨t, ht, et, by rw [← et]; exact h.at' t ht⟩
    · right
      refine ⟨?_, h.no p fun t ht e => hm (by rw [← e]; exact getN_mem ht)⟩
      rw [hG.mem] at hm
      omega
  rcases key a ha ha3 with ⟨t, ht, et, rt⟩ | ⟨ea, ra⟩
  · rcases key b hb hb3 with ⟨u, hu, eu, ru⟩ | ⟨eb, rb⟩
    · rw [rt, ru]
      constructor
      · intro g
        rw [← et, ← eu]
        exact pairN_at hG.ord (show t < u by omega) hu
      · intro g
        rcases Nat.lt_trichotomy t u with g2 | g2 | g2
        · omega
        · subst g2
          omega
        · have := pairN_at hG.ord g2 ht
          rw [et, eu] at this
          exact absurd (ltE_trans g this) ltE_irrefl
    · rw [rt, rb]
      exact ⟨fun g => by omega, fun g => absurd g (ltE_no (by omega))⟩
  · rcases key b hb hb3 with ⟨u, hu, eu, ru⟩ | ⟨eb, rb⟩
    · rw [ra, ru]
      exact ⟨fun _ => ltE_end (by omega) (by omega), fun _ => by omega⟩
    · omega
/-- One ending less than another, as a test. -/
def ltB (s : List Int) (a b : Nat) : Bool := decide (cmpI (s.drop a) (s.drop b) < 0)
theorem ltB_iff {s : List Int} {a b : Nat} : ltB s a b = true ↔ ltE s a b := decide_eq_true_iff
theorem ltB_eq {s : List Int} {a b : Nat} {p : Prop} [Decidable p] (h : p ↔ ltE s a b) : decide p = ltB s a b := by
  rw [Bool.eq_iff_iff, ltB_iff, decide_eq_true_iff]
  exact h
theorem ltB_same {s : List Int} {a b a' b' : Nat} (h : ltE s a b ↔ ltE s a' b') : ltB s a b = ltB s a' b' := by
  rw [Bool.eq_iff_iff, ltB_iff, ltB_iff]
  exact h

/-- The place behind the last number is the first of the sample, if it is in it. -/
theorem samp_first {s : List Int} {G : List Nat} (h : InSamp s G) (hm : s.length ∈ G) : 0 < G.length ∧ G.getD 0 0 = s.length := by
  obtain ⟨t, ht, et⟩ := mem_getN hm
  refine ⟨by omega, ?_⟩
  by_cases e : t = 0
  · subst e; exact et
  · have := pairN_at h.ord (show 0 < t by omega) ht
    rw [et] at this
    exact absurd this (ltE_no (Nat.le_refl _))
/-- The sample without the place behind the last number. -/
structure InTwo (s : List Int) (G : List Nat) : Prop where
  mem : ∀ a, a ∈ G ↔ a < s.length ∧ a % 3 ≠ 0
  ord : G.Pairwise (ltE s)
  len : G.length ≤ s.length
theorem two_drop {s : List Int} {G : List Nat} (h : InSamp s G) (h0 : 0 < G.length) (he : G.getD 0 0 = s.length) : InTwo s (G.drop 1) := by
  have hc : G = s.length :: G.drop 1 := by
    have := dropN_cons h0
    rw [he] at this
    exact this
  have hn : G.Nodup := h.perm.nodup_iff.2 (by rw [samp_two]; exact twoN_nodup _)
  have hn2 := hn
  rw [hc] at hn2
  have hni := (List.nodup_cons.1 hn2).1
  refine ⟨fun a => ⟨fun ha => ?_, fun ha => ?_⟩, h.ord.sublist (List.drop_sublist _ _), ?_⟩
  · have h1 := h.mem.1 (List.mem_of_mem_drop ha)
    have h2 : a ≠ s.length := fun e => hni (by rw [← e]; exact ha)
    omega
  · have h1 := h.mem.2 (show a % 3 ≠ 0 ∧ (a < s.length ∨ (a = s.length ∧ s.length % 3 = 1)) by omega)
    rw [hc] at h1
    rcases List.mem_cons.1 h1 with g | g
    · omega
    · exact g
  · have h1 := sampM_le s.length
    rw [List.length_drop, h.len]
    omega
theorem twoT_all {s : List Int} {G : List Nat} (h : InSamp s G) (hno : ¬ (0 < G.length ∧ G.getD 0 0 = s.length)) : InTwo s G := by
  have hni : s.length ∉ G := fun hm => hno (samp_first h hm)
  refine ⟨fun a => ?_, h.ord, by have := sampM_le s.length; rw [h.len]; exact this⟩
  rw [h.mem]
  constructor
  · rintro ⟨h1, h2 | ⟨h2, h3⟩⟩
    · exact ⟨h2, h1⟩
    · exact absurd (h.mem.2 ⟨by omega, .inr ⟨rfl, h3⟩⟩) hni
  · rintro ⟨h1, h2⟩
    exact ⟨h2, .inl h1⟩
/-- Both as one: all places in order. -/
theorem merge_ord {s : List Int} {G T out : List Nat} (hG : InTwo s G) (hT : InRest s T) (ho : out.Pairwise (ltE s)) (hp : out.Perm (G ++ T)) : InOrd s out := by
  refine ⟨?_, ho⟩
  have hn : out.Nodup := ho.imp fun h e => by
    rw [e] at h
    exact ltE_irrefl h
  refine (List.perm_ext_iff_of_nodup hn List.nodup_range).2 fun a => ?_
  rw [hp.mem_iff, List.mem_append, hG.mem, hT.mem, List.mem_range]
  omega
end Go.Proofs.YtlmbdafilboblaaGreat

/- Contracts of skew.twoThirds and sampleOf. -/
namespace Go.Proofs.YtlmbdafilboblaaGreat
set_option linter.unusedVariables false
set_option linter.unusedSimpArgs false
open Go.RowKit

/-- How many places stand ahead of a third. -/
def bas (n : Nat) : Nat → Nat
  | 0 => 0
  | 1 => (n + 1) / 3
  | _ => (n + 1) / 3 + n / 3
theorem bas_lt {n i q : Nat} (hi : i < 2) : 3 * q + (i + 1) < n ↔ bas n i + q < bas n (i + 1) := by
  match i, hi with
  | 0, _ => show 3 * q + (0 + 1) < n ↔ 0 + q < (n + 1) / 3; omega
  | 1, _ => show 3 * q + (1 + 1) < n ↔ (n + 1) / 3 + q < (n + 1) / 3 + n / 3; omega
theorem bas_at {n i q : Nat} (hi : i < 2) (h : bas n i + q < bas n (i + 1)) : sampAt ((n + 1) / 3) (bas n i + q) = 3 * q + (i + 1) := by
  match i, hi with
  | 0, _ =>
    have h' : 0 + q < (n + 1) / 3 := h
    show sampAt ((n + 1) / 3) (0 + q) = _
    unfold sampAt
    rw [if_pos h']
    omega
  | 1, _ =>
    show sampAt ((n + 1) / 3) ((n + 1) / 3 + q) = _
    unfold sampAt
    rw [if_neg (by omega)]
    omega
theorem bas_le {n i : Nat} (hi : i < 2) : bas n i ≤ bas n (i + 1) ∧ bas n (i + 1) ≤ n := by
  match i, hi with
  | 0, _ => show 0 ≤ (n + 1) / 3 ∧ (n + 1) / 3 ≤ n; omega
  | 1, _ => show (n + 1) / 3 ≤ (n + 1) / 3 + n / 3 ∧ (n + 1) / 3 + n / 3 ≤ n; omega
/-- The first t of the sample. -/
def firT (n t : Nat) : List Int := natL ((List.range t).map (sampAt ((n + 1) / 3)))
theorem firT_len (n t : Nat) : (firT n t).length = t := by simp [firT, natL_len]
theorem firT_succ {n i q p : Nat} (hi : i < 2) (h : bas n i + q < bas n (i + 1)) (hp : p = 3 * q + (i + 1)) : firT n (bas n i + q) ++ [(p : Int)] = firT n (bas n i + (q + 1)) := by
  rw [hp, ← bas_at hi h]
  unfold firT natL
  rw [← Nat.add_assoc, List.range_succ, List.map_append, List.map_append]
  rfl
theorem firT_all (n : Nat) : firT n (bas n 2) = natL (twoN n) := rfl

theorem pickF (i : Nat) (hi : i < 2) : ∀ W, (Instr.index 36 (.agg #[.int .i64 1, .int .i64 2]) (.int .i64 (i : Int))).run Tryz.prog W = .ok (.int .i64 ((i + 1 : Nat) : Int)) W := by
  match i, hi with
  | 0, _ => intro w; kernel_rfl
  | 1, _ => intro w; kernel_rfl

set_option maxHeartbeats 1000000 in
theorem twoThirds_any (n : Nat) (w : World) (hn : n ≤ 1000000) :
    Calls Tryz.prog 112 #[.int .i64 (n : Int)] w fun e w' => ∃ u, e = .returned u ∧ Own .i64 3 w.heap.size w' u (natL (twoN n)) ∧ Ext w w' := by
  have hd1 : ((n : Int) + 1).tdiv 3 = (((n + 1) / 3 : Nat) : Int) := by rw [Int.tdiv_eq_ediv_of_nonneg (by omega)]; omega
  have hd2 : (n : Int).tdiv 3 = ((n / 3 : Nat) : Int) := by rw [Int.tdiv_eq_ediv_of_nonneg (by omega)]; omega
  obtain ⟨A, HA⟩ : ∃ A, Hid ((n + 1) / 3 = A) := ⟨_, rfl⟩
  obtain ⟨B, HB⟩ : ∃ A, Hid (n / 3 = A) := ⟨_, rfl⟩
  have hA : A ≤ 1000000 := by rw [← HA.out]; omega
  have hB : B ≤ 1000000 := by rw [← HB.out]; omega
  have hAB : A + B ≤ 1000000 := by rw [← HA.out, ← HB.out]; omega
  rw [HA.out] at hd1
  rw [HB.out] at hd2
  have hs : (A : Int) + (B : Int) = ((A + B : Nat) : Int) := by omega
  obtain ⟨M, HM⟩ : ∃ M, Hid (A + B = M) := ⟨_, rfl⟩
  rw [HM.out] at hs hAB
  obtain ⟨w1, hmk, ho, he⟩ := make_roomI w M hAB
  have O1 := hide' ho
  have X1 := hide' he
  clear ho he
  go_enter Tryz.func112, Tryz.ntmps112
  go_wp2
  go_loopw [3, 15] (fun ov vi wr => ∃ (i : Nat), i ≤ 2 ∧ vi = .int .i64 i ∧ Hid (Own .i64 3 w.heap.size wr ov (firT n (bas n i))) ∧ Hid (Ext w wr)) (fun _ vi _ => 2 - (intOf vi).toNat)
  case atStart => exact ⟨0, Nat.zero_le _, rfl, O1, X1⟩
  case round =>
    clear O1 X1 hmk
    obtain ⟨i, hi, rfl, HO, HE⟩ := hrel
    by_cases hlt : i < 2
    · have hlt' : (i : Int) < 2 := by omega
      have hpk := pickF i hlt
      have HBL := hide' (bas_le (n := n) hlt)
      obtain ⟨b1, HB1⟩ : ∃ b, Hid (bas n (i + 1) = b) := ⟨_, rfl⟩
      have HP0 : Hid (i + 1 = 3 * 0 + (i + 1)) := by show _ = _; omega
      obtain ⟨r, HR⟩ : ∃ r, Hid (i + 1 = r) := ⟨_, rfl⟩
      have hr : r ≤ 2 := by rw [← HR.out]; omega
      rw [HR.out] at hpk
      go_wp2
      go_loopw [3, 6] (fun ov vp wr => ∃ (q p : Nat), p ≤ n + 3 ∧ Hid (p = 3 * q + (i + 1)) ∧ Hid (bas n i + q ≤ bas n (i + 1)) ∧ vp = .int .i64 p ∧ Hid (Own .i64 3 w.heap.size wr ov (firT n (bas n i + q))) ∧ Hid (Ext w wr)) (fun _ vp _ => n + 3 - (intOf vp).toNat)
      case atStart => exact ⟨0, r, by omega, (show _ = _ by rw [← HR.out]; omega), (show _ ≤ _ by have := HBL.out; omega), rfl, HO, HE⟩
      case round =>
        clear HO HE hpk
        obtain ⟨q, p, hp, HP, HQ, rfl, HO, HE⟩ := hrel
        have hsz := HE.out.size
        by_cases hpn : p < n
        · have hpn' : (p : Int) < n := by omega
          have HB2 : Hid (bas n i + q < bas n (i + 1)) := (bas_lt hlt).1 (by rw [← HP.out]; exact hpn)
          have HL : Hid ((firT n (bas n i + q)).length ≤ 1000000) := by
            show _ ≤ _
            rw [firT_len]
            have := HB2.out
            have := HBL.out
            omega
          have HZ := hide' (firT_succ hlt HB2.out HP.out)
          obtain ⟨Z, HZZ⟩ : ∃ Z, Hid (firT n (bas n i + q) = Z) := ⟨_, rfl⟩
          rw [HZZ.out] at HL HZ HO
          go_wp2_with (at_builtin; refine wpList_snoc _ rfl _ _ 32 rfl 3 .i64 8 Tryz.underlying32 infoI64 w.heap.size _ Z (p : Int) ⟨wr.heap.size, 0, none⟩ rfl rfl ?c4 (HO.out.alloc _) ?c3 ?c5 ?_)
          case c3 => have := HL.out; unfold maxLen; omega
          case c5 => simp; omega
          case c4 => simp only [World.cell?, heap_alloc_top]; simp
          intro v1 w4 ho1 hb1
          have HO1 : Hid (Own .i64 3 w.heap.size w4 v1 (firT n (bas n i + (q + 1)))) := by rw [← HZ.out]; exact ho1
          have HE1 : Hid (Ext w w4) := Below.trans (HE.out.trans (ext_alloc _ _)) hb1
          clear ho1 hb1
          go_wp2
          go_roundw
          case rel => exact ⟨q + 1, p + 3, by omega, (show _ = _ by rw [HP.out]; omega), (show _ ≤ _ by have := HB2.out; omega), by go_num, HO1, HE1⟩
          case measure => simp [intOf] <;> omega
        · have d1 : decide ((p : Int) < n) = false := by simp; omega
          have HB2 : Hid (bas n i + q = bas n (i + 1)) := by
            show _ = _
            have h1 := HQ.out
            have h2 : ¬ bas n i + q < bas n (i + 1) := fun g => by
              have := (bas_lt hlt).2 g
              rw [← HP.out] at this
              omega
            omega
          rw [HB2.out] at HO
          go_wp2
          go_roundw
          case rel => exact ⟨i + 1, by omega, by go_num, HO, HE⟩
          case measure => simp [intOf] <;> omega
    · have d1 : decide ((i : Int) < 2) = false := by simp; omega
      have hi2 : i = 2 := by omega
      subst hi2
      go_wp2
      go_ret
      exact ⟨_, rfl, by rw [← firT_all]; exact HO.out, HE.out⟩

theorem sampleOf_any (n : Nat) (w : World) (hn : n < 1000000) :
    Calls Tryz.prog 107 #[.int .i64 (n : Int)] w fun e w' => ∃ u, e = .returned u ∧ Own .i64 3 w.heap.size w' u (natL (samp n)) ∧ Ext w w' := by
  have hm : (n : Int).tmod 3 = ((n % 3 : Nat) : Int) := by rw [Int.tmod_eq_emod_of_nonneg (by omega)]; omega
  by_cases h : n % 3 = 1
  · have C := hide' (twoThirds_any (n + 1) w (by omega))
    have HS : Hid (samp n = twoN (n + 1)) := by show _ = _; rw [samp_two]; unfold sampK; rw [if_pos h]
    rw [HS.out]
    have hc : ((n + 1 : Nat) : Int) = (n : Int) + 1 := by omega
    rw [h] at hm
    rw [hc] at C
    go_enter Tryz.func107, Tryz.ntmps107
    go_wp2_with fail
    refine C.out.mono ?_
    rintro e w1 ⟨u, rfl, ho, he⟩
    have O1 := hide' ho
    have X1 := hide' he
    clear ho he C
    go_wp2
    go_ret
    exact ⟨_, rfl, O1.out, X1.out⟩
  · have C := hide' (twoThirds_any n w (by omega))
    have HS : Hid (samp n = twoN n) := by show _ = _; rw [samp_two]; unfold sampK; rw [if_neg h]
    rw [HS.out]
    obtain ⟨r, hr⟩ : ∃ r, n % 3 = r := ⟨_, rfl⟩
    rw [hr] at hm h
    have d1 : ((r : Int) == 1) = false := by simp; omega
    clear hr
    go_enter Tryz.func107, Tryz.ntmps107
    go_wp2_with fail
    refine C.out.mono ?_
    rintro e w1 ⟨u, rfl, ho, he⟩
    have O1 := hide' ho
    have X1 := hide' he
    clear ho he C
    go_wp2
    go_ret
    exact ⟨_, rfl, O1.out, X1.out⟩
end Go.Proofs.YtlmbdafilboblaaGreat

/- Contract of skew.alike: are two triples the same? -/
namespace Go.Proofs.YtlmbdafilboblaaGreat
set_option linter.unusedVariables false
set_option linter.unusedSimpArgs false
open Go.RowKit

/-- Three numbers of a row. -/
def cut3 (z : List Int) (a : Nat) : List Int := (z.take (a + 3)).drop a
theorem cut3_eq {z : List Int} {a : Nat} (h : a + 3 ≤ z.length) : cut3 z a = [z.getD a 0, z.getD (a + 1) 0, z.getD (a + 2) 0] := by
  unfold cut3
  rw [List.drop_take, show a + 3 - a = 3 by omega, drop_getD (show a < z.length by omega), drop_getD (show a + 1 < z.length by omega), drop_getD (show a + 1 + 1 < z.length by omega)]
  rfl
theorem cut3_tri {s : List Int} {a b : Nat} (ha : a ≤ s.length) (hb : b ≤ s.length) : decide (cut3 (tailI s) a = cut3 (tailI s) b) = triB s a b := by
  rw [cut3_eq (by rw [tailI_len]; omega), cut3_eq (by rw [tailI_len]; omega)]
  unfold triB
  refine decide_eq_decide.2 ?_
  simp only [tailI_at, List.cons.injEq, and_true]

set_option maxHeartbeats 1000000 in
theorem alike3_any (sv : Value) (s : List Int) (i j : Nat) (w : World) (hs : Sl .i64 w sv (tailI s)) (hi : i ≤ s.length) (hj : j ≤ s.length) (hlen : s.length ≤ 200000) :
    Calls Tryz.prog 113 #[sv, .int .i64 i, .int .i64 j] w fun e w' => e = .returned (.bool (triB s i j)) ∧ ∃ m, w' = w.drewN m := by
  have HV := hide' hs
  obtain ⟨a, c, rfl, _⟩ := hs
  have HTL := hide' (tailI_len s)
  have HA := hide' (cut3_tri hi hj)
  rw [HTL.out] at HV ⊢
  obtain ⟨n, HN⟩ : ∃ n, Hid (s.length = n) := ⟨_, rfl⟩
  rw [HN.out] at HV hlen HTL hi hj ⊢
  obtain ⟨L, HL⟩ : ∃ L, Hid (n + 3 = L) := ⟨_, rfl⟩
  have hL : L ≤ 200003 := by rw [← HL.out]; omega
  have hiL : i + 3 ≤ L := by rw [← HL.out]; omega
  have hjL : j + 3 ≤ L := by rw [← HL.out]; omega
  rw [HL.out] at HV HTL ⊢
  obtain ⟨D, HD⟩ : ∃ D, Hid (triB s i j = D) := ⟨_, rfl⟩
  rw [HD.out] at HA ⊢
  obtain ⟨p1, r1, s1⟩ := HV.out.runCut (P := Tryz.prog) 32 3 Tryz.underlying32 sizeI64 i (i + 3) (by omega) (by rw [HTL.out]; omega)
  obtain ⟨p2, r2, s2⟩ := HV.out.runCut (P := Tryz.prog) 32 3 Tryz.underlying32 sizeI64 j (j + 3) (by omega) (by rw [HTL.out]; omega)
  rw [show i + 3 - i = 3 by omega] at r1 s1
  rw [show j + 3 - j = 3 by omega] at r2 s2
  have HW : Hid (∀ m, Calls Tryz.prog 54 #[.slice p1 3 (c - i), .slice p2 3 (c - j)] (w.drewN m) fun e w' => e = .returned (.bool D) ∧ ∃ k, w' = (w.drewN m).drewN k) := fun m => by
    have := equalI_any _ _ (cut3 (tailI s) i) (cut3 (tailI s) j) (w.drewN m) (s1.drewN m) (s2.drewN m) (by unfold cut3; rw [List.length_drop, List.length_take]; omega) (by unfold cut3; rw [List.length_drop, List.length_take]; omega)
    rw [HA.out] at this
    exact this
  have e1 : ((i : Int) + 3) = ((i + 3 : Nat) : Int) := by omega
  have e2 : ((j : Int) + 3) = ((j + 3 : Nat) : Int) := by omega
  generalize c - i = q2 at *
  generalize c - j = q4 at *
  generalize hI : i + 3 = I at *
  generalize hJ : j + 3 = J at *
  clear s1 s2 hI hJ
  go_enter Tryz.func113, Tryz.ntmps113
  go_wp2_with fail
  go_quiet ((go_at_call 54; exact Calls.quiet_of (HW.out _)))
  go_wp2
  go_ret
  exact ⟨rfl, _, by first | rfl | rw [World.drewN_drewN]⟩
end Go.Proofs.YtlmbdafilboblaaGreat

/- Contract of skew.nameAll: names of the triples, with a tail. -/
namespace Go.Proofs.YtlmbdafilboblaaGreat
set_option linter.unusedVariables false
set_option linter.unusedSimpArgs false
open Go.RowKit

theorem samp_nodup (n : Nat) : (samp n).Nodup := by rw [samp_two]; exact twoN_nodup _

set_option maxHeartbeats 2000000 in
theorem nameT_any (sv fv pv : Value) (s : List Int) (G : List Nat) (w : World) (hs : Sl .i64 w sv (tailI s)) (hf : Sl .i64 w fv (natL (samp s.length))) (hp : Sl .i64 w pv (natL G)) (hG : G.Perm (samp s.length)) (hlen : s.length ≤ 200000) :
    Calls Tryz.prog 109 #[sv, fv, pv] w fun e w' => ∃ (u : Value) (A : List Int) (c : Nat), e = .returned (.tuple #[u, .int .i64 c]) ∧ NamedT s G (s.length + 3) G.length A c ∧ Own .i64 3 w.heap.size w' u (tailI (namI s.length A)) ∧ Ext w w' := by
  have HV := hide' hs
  have HLEN := hide' hlen
  have HND : Hid G.Nodup := hG.nodup_iff.2 (samp_nodup _)
  have HGM : Hid (∀ i, i < G.length → G.getD i 0 ≤ s.length) := fun i hi => by
    have := samp_mem.1 (hG.mem_iff.1 (getN_mem hi))
    omega
  have HGL : Hid (G.length = sampM s.length) := by show _ = _; rw [hG.length_eq, samp_len]
  have hml := sampM_le s.length
  have HSM : Hid (∀ i, i < sampM s.length → (samp s.length).getD i 0 = sampAt (sampA s.length) i ∧ sampAt (sampA s.length) i ≤ s.length) := fun i hi => ⟨samp_at hi, (sampAt_mem hi).2⟩
  obtain ⟨va, vc, hve, _⟩ := id hs
  subst hve
  obtain ⟨fa, fc, hfe, _⟩ := id hf
  subst hfe
  obtain ⟨pa, pc, hpe, _⟩ := id hp
  subst hpe
  have HTL := hide' (tailI_len s)
  rw [HTL.out] at HV ⊢
  rw [natL_len, samp_len] at hf ⊢
  rw [natL_len, HGL.out] at hp ⊢
  obtain ⟨_, _, _, hcf⟩ := hf.nat
  obtain ⟨_, _, _, hcp⟩ := hp.nat
  have CF := hide' hcf
  have CP := hide' hcp
  obtain ⟨n, HN⟩ : ∃ n, Hid (s.length = n) := ⟨_, rfl⟩
  rw [HN.out] at HV hlen HTL HGM HGL hml HSM CF CP ⊢
  obtain ⟨m, HM⟩ : ∃ m, Hid (sampM n = m) := ⟨_, rfl⟩
  rw [HM.out] at HGL hml HSM CF CP ⊢
  obtain ⟨L, HL⟩ : ∃ L, Hid (n + 3 = L) := ⟨_, rfl⟩
  have hL : L ≤ 200003 := by rw [← HL.out]; omega
  have hnL : n + 3 ≤ L := by rw [← HL.out]; exact Nat.le_refl _
  rw [HL.out] at HV HTL ⊢
  obtain ⟨w1, hmk, ho, he⟩ := make_ints w L (by omega)
  obtain ⟨g, HG⟩ : ∃ g, Hid (w.heap.size = g) := ⟨_, rfl⟩
  have hgw : w.heap.size ≤ g := by rw [HG.out]; exact Nat.le_refl _
  rw [HG.out] at ho hmk ⊢
  have O1 := hide' ho
  have X1 := hide' he
  have N0 : Hid (NamedT s G L 0 (List.replicate L 0) 0) := NamedT.start s G L
  clear ho he hp hcp hs hf hcf hG
  go_enter Tryz.func109, Tryz.ntmps109
  go_wp2
  go_loopw [7, 18] (fun vc vi wr => ∃ (i c : Nat) (N : List Int), i ≤ m ∧ c ≤ m ∧ vi = .int .i64 i ∧ vc = .int .i64 c ∧ Hid (NamedT s G L i N c) ∧ Hid (Own .i64 3 g wr (.slice (some ⟨g, 0, none⟩) L L) N) ∧ Hid (Ext w wr)) (fun _ vi _ => m - (intOf vi).toNat)
  case atStart => exact ⟨0, 0, _, Nat.zero_le _, Nat.zero_le _, rfl, rfl, N0, O1, X1⟩
  case round =>
    clear O1 X1 N0 hmk
    obtain ⟨i, c, N, hi, hcm, rfl, rfl, HNM, HO, HE⟩ := hrel
    have HNL : Hid (N.length = L) := HNM.out.len
    by_cases hlt : i < m
    · have hlt' : (i : Int) < m := by omega
      have hiG : i < G.length := by rw [HGL.out]; exact hlt
      have hp1 := HGM.out i hiG
      have N1 := hide' (HNM.out.next HND.out hiG (by omega))
      obtain ⟨g1, o1, rfl, k1⟩ := CP.out (by omega)
      have K1 := hide' k1
      have c1 := HE.out.cellOf (k1 i hlt)
      have hm := nmT_le s G i
      obtain ⟨p, HP⟩ : ∃ p, Hid (G.getD i 0 = p) := ⟨_, rfl⟩
      obtain ⟨t, HT⟩ : ∃ t, Hid (nmT s G i + 1 = t) := ⟨_, rfl⟩
      have htm : t ≤ m := by rw [← HT.out]; omega
      have HTT : Hid ((nmT s G i : Int) + 1 = (t : Int)) := by show _ = _; rw [← HT.out]; omega
      rw [HP.out] at c1 N1 hp1
      rw [HTT.out, HT.out] at N1
      have hp1' : (p : Int) < L := by omega
      clear k1
      have fin : Hid (∀ wr', Ext wr wr' → wr'.cell? ⟨g, p, none⟩ = some (.int .i64 (N.getD p 0)) ∧ wr'.frozen? ⟨g, p, none⟩ = false ∧ Own .i64 3 g (wr'.setCell ⟨g, p, none⟩ (.int .i64 (t : Int))) (.slice (some ⟨g, 0, none⟩) L L) (N.set p (t : Int)) ∧ Ext w (wr'.setCell ⟨g, p, none⟩ (.int .i64 (t : Int)))) := fun wr' hx => by
        have h1 := HO.out.ext hx
        exact ⟨h1.cell HNL.out p (by omega), h1.frozen HNL.out p, h1.store HNL.out p _, Ext.but (HE.out.trans hx) hgw (but_set _ _ _ _)⟩
      by_cases hi0 : i = 0
      · have hc0 := HNM.out.zero hi0
        have hct : (c : Int) + 1 = (t : Int) := by
          rw [← HT.out, hi0]
          show (c : Int) + 1 = ((0 + 1 : Nat) : Int)
          omega
        have d0 : ((i : Int) == 0) = true := by simp; omega
        clear hi0 hc0 hiG
        obtain ⟨z1, z2, z3, z4⟩ := fin.out wr (Ext.refl _)
        have Z3 := hide' z3
        have Z4 := hide' z4
        clear z3 z4 HO HE fin HNM
        go_wp2
        go_roundw
        case rel => exact ⟨i + 1, t, _, by omega, htm, by go_num, by go_num, N1, Z3, Z4⟩
        case measure => simp [intOf] <;> omega
      · obtain ⟨j, HJ⟩ : ∃ j, Hid (i = j + 1) := ⟨i - 1, by show _ = _; omega⟩
        have hj : (i : Int) - 1 = (j : Int) := by have := HJ.out; omega
        have hjf : j < m := by have := HJ.out; omega
        have hjf' : (j : Int) < m := by omega
        have d0 : ((i : Int) == 0) = false := by simp; omega
        have hjG : j < G.length := by rw [HGL.out]; exact hjf
        have c2 := HE.out.cellOf (K1.out j hjf)
        have hq1 := HGM.out j hjG
        have HCC := hide' (HNM.out.count j HJ.out)
        have CA := hide' (toExt (alike3_any _ s (G.getD j 0) p wr (HV.out.ext HE.out) (by rw [HN.out]; exact hq1) (by rw [HN.out]; exact hp1) HLEN.out))
        have HGP : Hid (G.getD (j + 1) 0 = p) := by show _ = _; rw [← HJ.out]; exact HP.out
        have HTS : Hid (triB s (G.getD j 0) p = true → t = c) := fun g => by
          rw [← HGP.out] at g
          rw [← HT.out, HJ.out, nmT_same g, HCC.out]
        have HTO : Hid (triB s (G.getD j 0) p = false → t = c + 1) := fun g => by
          rw [← HGP.out] at g
          rw [← HT.out, HJ.out, nmT_other g, HCC.out]
        obtain ⟨q, HQ⟩ : ∃ q, Hid (G.getD j 0 = q) := ⟨_, rfl⟩
        rw [HQ.out] at c2 CA HTS HTO
        cases hcut : triB s q p
        · have hct : (c : Int) + 1 = (t : Int) := by have := HTO.out hcut; omega
          rw [hcut] at CA
          clear hcut hi0 HNM HQ hq1 hjG HCC HTS HTO hiG
          go_wp2_with fail
          refine CA.out.mono ?_
          rintro e wr' ⟨rfl, hx⟩
          obtain ⟨z1, z2, z3, z4⟩ := fin.out wr' hx
          have Z3 := hide' z3
          have Z4 := hide' z4
          clear z3 z4 HO HE fin hx CA
          go_wp2
          go_roundw
          case rel => exact ⟨i + 1, t, _, by omega, htm, by go_num, by go_num, N1, Z3, Z4⟩
          case measure => simp [intOf] <;> omega
        · have hct := HTS.out hcut
          subst hct
          rw [hcut] at CA
          clear hcut hi0 HNM HQ hq1 hjG HCC HTS HTO hiG
          go_wp2_with fail
          refine CA.out.mono ?_
          rintro e wr' ⟨rfl, hx⟩
          obtain ⟨z1, z2, z3, z4⟩ := fin.out wr' hx
          have Z3 := hide' z3
          have Z4 := hide' z4
          clear z3 z4 HO HE fin hx CA
          go_wp2
          go_roundw
          case rel => exact ⟨i + 1, t, _, by omega, htm, by go_num, by go_num, N1, Z3, Z4⟩
          case measure => simp [intOf] <;> omega
    · have d1 : decide ((i : Int) < m) = false := by simp; omega
      have hin : m = i := by omega
      have HF : Hid (NamedT s G L m N c) := by have := HNM.out; rw [← hin] at this; exact this
      have KN : Hid (∀ j, j < L → wr.cell? ⟨g, j, none⟩ = some (.int .i64 (N.getD j 0))) := fun j hj => HO.out.cell HNL.out j hj
      have X2 := hide' HE.out
      have hz2 := HE.out.size
      have hm3 : (m : Int) + 3 = ((m + 3 : Nat) : Int) := by omega
      obtain ⟨M, HMM⟩ : ∃ M, Hid (m + 3 = M) := ⟨_, rfl⟩
      have hM : M ≤ 200003 := by rw [← HMM.out]; omega
      have hmM : m + 3 ≤ M := by rw [← HMM.out]; exact Nat.le_refl _
      rw [HMM.out] at hm3
      obtain ⟨w3, hmk, ho, he⟩ := make_ints wr M (by omega)
      obtain ⟨f, HFF⟩ : ∃ f, Hid (f = fun (t : Nat) => N.getD (sampAt (sampA n) t) 0) := ⟨_, rfl⟩
      have H0 : Hid (HalfT f m 0 (List.replicate M 0)) := by rw [← HMM.out]; exact HalfT.start f m
      have hzz : w.heap.size ≤ wr.heap.size := hz2
      obtain ⟨h, HH⟩ : ∃ h, Hid (wr.heap.size = h) := ⟨_, rfl⟩
      have hhw : wr.heap.size ≤ h := by rw [HH.out]; exact Nat.le_refl _
      rw [HH.out] at hmk ho
      have O3 := hide' ho
      have X3 := hide' he
      clear ho he HO HE HNM hin
      go_wp2
      generalize HGW : wr = W at *
      clear HGW
      go_loopw [49] (fun vi wq => ∃ (i : Nat) (r : List Int), i ≤ m ∧ vi = .int .i64 i ∧ Hid (HalfT f m i r) ∧ Hid (Own .i64 3 h wq (.slice (some ⟨h, 0, none⟩) M M) r) ∧ Hid (Ext W wq)) (fun vi _ => m - (intOf vi).toNat)
      case atStart => exact ⟨0, _, Nat.zero_le _, rfl, H0, O3, X3⟩
      case round =>
        clear O3 X3 H0 hmk
        obtain ⟨i, r, hi, rfl, HR, HO, HE⟩ := hrel
        have HRL : Hid (r.length = M) := by show _ = _; rw [HR.out.len, HMM.out]
        by_cases hlt : i < m
        · have hlt' : (i : Int) < m := by omega
          obtain ⟨g1, o1, rfl, k1⟩ := CF.out (by omega)
          have c1 := HE.out.cellOf (X2.out.cellOf (k1 i hlt))
          obtain ⟨q1, q2⟩ := HSM.out i hlt
          rw [q1] at c1
          have c2 := HE.out.cellOf (KN.out (sampAt (sampA n) i) (by omega))
          have H1 := hide' (HR.out.next hlt)
          have HFI : Hid (f i = N.getD (sampAt (sampA n) i) 0) := by show _ = _; rw [HFF.out]
          rw [HFI.out] at H1
          obtain ⟨p, HP⟩ : ∃ p, Hid (sampAt (sampA n) i = p) := ⟨_, rfl⟩
          rw [HP.out] at c1 c2 H1 q2
          obtain ⟨x, HX⟩ : ∃ x, Hid (N.getD p 0 = x) := ⟨_, rfl⟩
          rw [HX.out] at c2 H1
          have hp' : (p : Int) < L := by omega
          have hiM : (i : Int) < M := by omega
          have c3 := HO.out.cell HRL.out i (by omega)
          have z3 := HO.out.frozen HRL.out i
          have O6 := hide' (HO.out.store HRL.out i x)
          have X6 : Hid (Ext W (wr.setCell ⟨h, i, none⟩ (.int .i64 x))) := Ext.but HE.out hhw (but_set _ _ _ _)
          clear k1 q1 HO HE HR
          go_wp2
          go_roundw
          case rel => exact ⟨i + 1, _, by omega, by go_num, H1, O6, X6⟩
          case measure => simp [intOf] <;> omega
        · have d2 : decide ((i : Int) < m) = false := by simp; omega
          have hin : m = i := by omega
          have HD : Hid (r = tailI (namI n N)) := by
            show _ = _
            have h1 := HR.out
            rw [← hin] at h1
            refine h1.done (by rw [namI_len, HM.out]) fun t ht => ?_
            rw [namI_at N (by rw [HM.out]; exact ht), HFF.out]
            show N.getD (sampAt (sampA n) t) 0 - 1 + 1 = N.getD (sampAt (sampA n) t) 0
            omega
          go_wp2
          first | go_ret2 | go_ret
          refine ⟨_, N, c, rfl, HF.out, ?_, X2.out.trans HE.out⟩
          rw [← HD.out]
          exact HO.out.low (by have := HH.out; have := HG.out; omega)
end Go.Proofs.YtlmbdafilboblaaGreat

/- Contract of bucket.keysOf. -/
namespace Go.Proofs.YtlmbdafilboblaaGreat
set_option linter.unusedVariables false
set_option linter.unusedSimpArgs false
open Go.RowKit

set_option maxHeartbeats 400000 in
theorem keysOf_any (v u : Value) (os ks : List Int) (w : World) (hv : Sl .i64 w v os) (hu : Sl .i64 w u ks) (hlen : os.length ≤ 1000000) (hlen2 : ks.length ≤ 1000000) :
    Calls Tryz.prog 94 #[v, u] w fun e w' => ∃ s, e = .returned (.tuple #[s, .bool (goodI (ks.length : Int) os)]) ∧ (goodI (ks.length : Int) os = true → Own .i64 3 w.heap.size w' s (ownI os ks)) ∧ Ext w w' := by
  have HV := hide' hv
  have HU := hide' hu
  obtain ⟨a, c, rfl, _⟩ := hv
  obtain ⟨a', c', rfl, _⟩ := hu
  obtain ⟨_, _, _, hcv⟩ := HV.out.int
  obtain ⟨_, _, _, hcu⟩ := HU.out.int
  have CV := hide' hcv
  have CU := hide' hcu
  obtain ⟨n, HN⟩ : ∃ n, Hid (os.length = n) := ⟨_, rfl⟩
  obtain ⟨m, HM⟩ : ∃ n, Hid (ks.length = n) := ⟨_, rfl⟩
  rw [HN.out] at CV hlen ⊢
  rw [HM.out] at CU hlen2 ⊢
  clear hcv hcu HV HU
  obtain ⟨w1, hmk, ho, he⟩ := make_intsB w n (by omega)
  have HO := hide' ho
  have HE := hide' he
  clear ho he
  go_enter Tryz.func94, Tryz.ntmps94
  go_wp2
  clear hmk
  go_loopw [14] (fun vi wr => ∃ (i : Nat) (bs : List Int), i ≤ n ∧ vi = .int .i64 i ∧ Hid (bs.length = n) ∧ Hid (∀ j, j < i → (0 ≤ os.getD j 0 ∧ os.getD j 0 < m) ∧ bs.getD j 0 = ks.getD (os.getD j 0).toNat 0) ∧
    Hid (Own .i64 3 w.heap.size wr (.slice (some ⟨w.heap.size, 0, none⟩) n n) bs) ∧ Hid (Ext w wr)) (fun vi _ => n - (intOf vi).toNat)
  case atStart => exact ⟨0, List.replicate n 0, Nat.zero_le _, rfl, List.length_replicate, (fun j hj => by omega), HO, HE⟩
  case round =>
    clear HO HE
    obtain ⟨i, bs, hi, rfl, HL, HB, HO, HE⟩ := hrel
    by_cases hlt : i < n
    · have hlt' : (i : Int) < n := by omega
      obtain ⟨g1, o1, rfl, k1⟩ := CV.out (by omega)
      have c1 := HE.out.cellOf (k1 i hlt)
      clear k1
      obtain ⟨z, HZ⟩ : ∃ z, Hid (os.getD i 0 = z) := ⟨_, rfl⟩
      rw [HZ.out] at c1
      by_cases hz : z < 0
      · have HG : Hid (goodI (m : Int) os = false) := goodI_bad (j := i) (by rw [HN.out]; exact hlt) (by rw [HZ.out]; exact .inl hz)
        go_wp2
        go_ret2
        rw [HG.out]
        exact ⟨_, rfl, (fun h => by cases h), HE.out⟩
      · have dz : decide (z < 0) = false := by simp; omega
        by_cases hzm : (m : Int) ≤ z
        · have HG : Hid (goodI (m : Int) os = false) := goodI_bad (j := i) (by rw [HN.out]; exact hlt) (by rw [HZ.out]; exact .inr hzm)
          go_wp2
          go_ret2
          rw [HG.out]
          exact ⟨_, rfl, (fun h => by cases h), HE.out⟩
        · obtain ⟨q, rfl⟩ := Int.eq_ofNat_of_zero_le (show 0 ≤ z by omega)
          have hq : q < m := by omega
          have hq' : (q : Int) < m := by omega
          have dm : decide ((m : Int) ≤ q) = false := by simp; omega
          have dm2 : decide (m ≤ q) = false := by simp; omega
          clear hzm hz
          obtain ⟨g2, o2, rfl, k2⟩ := CU.out (by omega)
          have c2 := HE.out.cellOf (k2 q hq)
          clear k2
          obtain ⟨y, HY⟩ : ∃ y, Hid (ks.getD q 0 = y) := ⟨_, rfl⟩
          rw [HY.out] at c2
          have hfz := HO.out.frozen HL.out i
          have hci := HO.out.cell HL.out i hlt
          have HO2 := hide' (HO.out.store HL.out i y)
          go_wp2
          go_roundw
          case rel =>
            refine ⟨i + 1, bs.set i y, by omega, by go_num, (show _ = _ by rw [List.length_set]; exact HL.out), fun j hj => ?_, HO2, Ext.but HE.out (Nat.le_refl _) (but_set _ _ _ _)⟩
            by_cases hji : j = i
            · subst hji
              rw [setI_same (by rw [HL.out]; exact hlt), HZ.out]
              refine ⟨by omega, ?_⟩
              rw [Int.toNat_natCast, HY.out]
            · rw [setI_other (by omega)]
              exact HB.out j (by omega)
          case measure => simp [intOf]; omega
    · have hlt' : decide ((i : Int) < n) = false := by simp; omega
      have hin : i = n := by omega
      subst hin
      have HG : Hid (goodI (m : Int) os = true) := goodI_of fun j hj => (HB.out j (by rw [HN.out] at hj; exact hj)).1
      have HQ : Hid (bs = ownI os ks) := getD_ext (by rw [HL.out, ownI_len, HN.out]) fun j hj => by
        rw [HL.out] at hj
        rw [(HB.out j hj).2, ownI_at os ks (by rw [HN.out]; exact hj)]
      go_wp2
      go_ret2
      rw [HG.out]
      exact ⟨_, rfl, (fun _ => by rw [← HQ.out]; exact HO.out), HE.out⟩
end Go.Proofs.YtlmbdafilboblaaGreat

/- Contract of bucket.Pass. -/
namespace Go.Proofs.YtlmbdafilboblaaGreat
set_option linter.unusedVariables false
set_option linter.unusedSimpArgs false
open Go.RowKit

/-- What stands ahead of each key of an order's places. -/
theorem starts_offs {ps : List Nat} {ks : List Int} {K : Nat} (h : passB (natL ps) ks (K : Int) = true) :
    (∀ q, q ≤ K → sumI (natL (cntsI (ownI (natL ps) ks) K)) q = (offs ps (keyN ks) q : Int)) ∧ startsI (natL (cntsI (ownI (natL ps) ks) K)) = natL ((List.range K).map (offs ps (keyN ks))) := by
  have h1 : ∀ q, q ≤ K → sumI (natL (cntsI (ownI (natL ps) ks) K)) q = (offs ps (keyN ks) q : Int) := by
    refine sum_offs fun q hq => ?_
    rw [cntsI_at _ hq, ownI_len, natL_len, cntI_pick (ps := ps) (key := keyN ks) (fun j hj => ?_) q _ (Nat.le_refl _), List.take_length]
    rw [ownI_key h (by rw [natL_len]; exact hj), toN_nat]
  refine ⟨h1, ?_⟩
  refine getD_ext (by rw [startsI_len, natL_len, natL_len, cntsI_len]; simp) fun q hq => ?_
  rw [startsI_len, natL_len, cntsI_len] at hq
  rw [startsI_at _ (by rw [natL_len, cntsI_len]; exact hq), h1 q (by omega), natL_at, mapI_at _ _ hq]

set_option maxHeartbeats 1000000 in
theorem pass_any (v u : Value) (os ks : List Int) (k : Int) (w : World) (hv : Sl .i64 w v os) (hu : Sl .i64 w u ks) (hlen : os.length ≤ 1000000) (hlen2 : ks.length ≤ 1000000) :
    Calls Tryz.prog 83 #[v, u, .int .i64 k] w fun e w' => ∃ s, e = .returned (.tuple #[s, .bool (passB os ks k)]) ∧ Own .i64 3 w.heap.size w' s (passI os ks k) ∧ Ext w w' := by
  have HV := hide' hv
  have HU := hide' hu
  by_cases hp : passB os ks k = true
  · obtain ⟨hf, hg⟩ := passB_iff.1 hp
    obtain ⟨h0, h1, _⟩ := fitB_iff.1 hf
    obtain ⟨K, rfl⟩ := Int.eq_ofNat_of_zero_le h0
    obtain ⟨ps, rfl⟩ : ∃ ps, os = natL ps := ⟨toN os, (natL_toN hg).symm⟩
    have HKM : Hid (∀ p ∈ ps, keyN ks p < K) := fun p hp2 => by
      have := passB_key hp p (by rw [toN_nat]; exact hp2)
      simpa using this
    have HPI : Hid (passI (natL ps) ks (K : Int) = natL (csort K ps (keyN ks))) := by
      show _ = _
      rw [passI_yes hp, toN_nat, Int.toNat_natCast]
    obtain ⟨hso1, hso2⟩ := starts_offs hp
    have HCY : Hid (countsI (ownI (natL ps) ks) (K : Int) = natL (cntsI (ownI (natL ps) ks) K)) := by
      show _ = _
      rw [countsI_yes (ownI_fit hp), Int.toNat_natCast]
    have HSB : Hid (∀ i, i ≤ (natL (cntsI (ownI (natL ps) ks) K)).length → -4611686018427387904 ≤ sumI (natL (cntsI (ownI (natL ps) ks) K)) i ∧ sumI (natL (cntsI (ownI (natL ps) ks) K)) i ≤ 4611686018427387904) := fun i hi => by
      rw [natL_len, cntsI_len] at hi
      rw [hso1 i hi]
      have h3 := offs_mono ps (keyN ks) hi
      rw [csort_len HKM.out] at h3
      rw [natL_len] at hlen
      omega
    have HOK : Hid (∀ j, j < ps.length → (ownI (natL ps) ks).getD j 0 = (keyN ks (ps.getD j 0) : Int)) := fun j hj => by
      rw [ownI_key hp (by rw [natL_len]; exact hj), toN_nat]
    have HOL : Hid ((ownI (natL ps) ks).length = ps.length) := by show _ = _; rw [ownI_len, natL_len]
    have HSO := hide' hso2
    have HOF := hide' (ownI_fit hp)
    have HP := hide' hp
    have HF := hide' hf
    have HG := hide' hg
    have HLK := hide' hlen2
    have HLO := hide' hlen
    rw [natL_len] at hlen
    obtain ⟨a, c, rfl, _⟩ := hv
    obtain ⟨a', c', rfl, _⟩ := hu
    obtain ⟨_, _, _, hcv⟩ := HV.out.nat
    have CV := hide' hcv
    obtain ⟨n, HN⟩ : ∃ n, Hid (ps.length = n) := ⟨_, rfl⟩
    obtain ⟨OW, HOW⟩ : ∃ l, Hid (ownI (natL ps) ks = l) := ⟨_, rfl⟩
    rw [HPI.out, HP.out]
    rw [HOW.out] at HCY HSB HOK HOL HSO HOF
    rw [natL_len, HN.out] at CV HV ⊢
    rw [HN.out] at hlen HOK HOL
    clear hcv hp hf hg hso1 hso2 h0 hlen2
    go_enter Tryz.func83, Tryz.ntmps83
    go_wp2_with fail
    refine (fit_any _ ks _ _ HU.out HLK.out).mono ?_
    rw [HF.out]
    rintro e _ ⟨rfl, hw⟩
    rw [hw]
    clear hw
    go_wp2_with fail
    refine (keysOf_any _ _ (natL ps) ks _ HV.out HU.out HLO.out HLK.out).mono ?_
    rw [HG.out]
    rintro e w2 ⟨s2, rfl, ho2, he2⟩
    have HO2 := hide' (ho2 rfl)
    have HE2 := hide' he2
    rw [HOW.out] at HO2
    clear ho2 he2
    go_wp2_with fail
    refine (counts_any _ OW _ _ HO2.out.sl (by rw [HOL.out]; exact hlen)).mono ?_
    rw [HOF.out, HCY.out]
    rintro e w3 ⟨s3, rfl, ho3, he3⟩
    have HO3 := hide' ho3
    have HE3 := hide' he3
    clear ho3 he3
    go_wp2_with fail
    refine (starts_any _ _ _ HO3.out.sl (by rw [natL_len, cntsI_len]; omega) HSB.out).mono ?_
    rw [HSO.out]
    rintro e w4 ⟨s4, rfl, ho4, he4⟩
    have HO4 := hide' ho4
    have HE4 := hide' (HE3.out.trans he4)
    have hB3 : w2.heap.size ≤ w3.heap.size := HE3.out.size
    have hG2 : w2.heap.size ≤ w4.heap.size := HE4.out.size
    clear ho4 he4 HO3 HE3
    obtain ⟨w5, hmk, ho, he⟩ := make_nats w4 n hlen
    have HO5 := hide' ho
    have HN4 := hide' (HO4.out.ext he)
    have HE5 := hide' (HE4.out.trans he)
    have HSH : Hid (0 < K → ∃ g cap, s4 = .slice (some ⟨g, 0, none⟩) K cap ∧ w3.heap.size ≤ g ∧ g < w4.heap.size) := fun hK => by
      have hl : (natL ((List.range K).map (offs ps (keyN ks)))).length = K := by rw [natL_len]; simp
      obtain ⟨g, cap, h3, h4, _⟩ := HO4.out.shape (fun e => by rw [e] at hl; simp at hl; omega)
      rw [hl] at h3
      exact ⟨g, cap, h3, h4, (World.ownsRow.lt HO4.out g (by rw [h3]; rfl)).2⟩
    have HF0 : Hid (Fill ps (keyN ks) K 0 ((List.range K).map (offs ps (keyN ks))) (List.replicate n 0)) := Fill.start fun q hq => mapI_at _ _ hq
    have HL0 : Hid (((List.range K).map (offs ps (keyN ks))).length = K) := by show _ = _; simp
    have HSL2 := hide' HO2.out.sl
    obtain ⟨a2, c2, rfl, _⟩ := HO2.out.sl
    obtain ⟨_, _, _, hc2⟩ := HSL2.out.int
    have C2 := hide' hc2
    rw [HOL.out] at C2 ⊢
    have HE02 := hide' HE2.out
    clear ho he HO4 HE4 hc2 HO2 HSL2
    go_wp2
    clear hmk
    generalize hG : w4.heap.size = G at *
    go_loopw [42] (fun vi wq => ∃ (t : Nat) (fr row : List Nat), t ≤ n ∧ vi = .int .i64 t ∧ Hid (fr.length = K) ∧ Hid (row.length = n) ∧ Hid (Fill ps (keyN ks) K t fr row) ∧
      Hid (Own .i64 3 w3.heap.size wq s4 (natL fr)) ∧ Hid (Own .i64 3 G wq (.slice (some ⟨G, 0, none⟩) n n) (natL row)) ∧ Hid (Ext w2 wq)) (fun vi _ => n - (intOf vi).toNat)
    case atStart => exact ⟨0, _, List.replicate n 0, Nat.zero_le _, rfl, HL0, List.length_replicate, HF0, HN4, HO5, HE5⟩
    case round =>
      clear HF0 HO5 HN4 HE5 HL0
      obtain ⟨t, fr, row, ht, rfl, HL1, HL2, HFI, HO1, HO2, HE⟩ := hrel
      by_cases hlt : t < n
      · have hlt' : (t : Int) < n := by omega
        obtain ⟨g1, o1, rfl, k1⟩ := CV.out (by omega)
        obtain ⟨g2, o2, rfl, k2⟩ := C2.out (by omega)
        have c1 := HE.out.cellOf (HE2.out.cellOf (k1 t hlt))
        have c2 := HE.out.cellOf (k2 t hlt)
        rw [HOK.out t hlt] at c2
        clear k1 k2
        have hfa := HFI.out.at HKM.out (by rw [HN.out]; exact hlt)
        have hkp := HKM.out _ (getN_mem (l := ps) (i := t) (by rw [HN.out]; exact hlt))
        have HF2 := hide' (HFI.out.next HKM.out (by rw [HN.out]; exact hlt) (by rw [HL2.out, HN.out]) (by rw [HL1.out]; omega))
        rw [HN.out] at hfa
        obtain ⟨p, HPP⟩ : ∃ p, Hid (ps.getD t 0 = p) := ⟨_, rfl⟩
        rw [HPP.out] at c1 c2 hkp hfa HF2
        obtain ⟨q, HQ⟩ : ∃ q, Hid (keyN ks p = q) := ⟨_, rfl⟩
        rw [HQ.out] at c2 hkp hfa HF2
        obtain ⟨g, cap, rfl, hg3, hgG⟩ := HSH.out (by omega)
        have hne : g ≠ G := by omega
        have c3 := HO1.out.intCell HL1.out q (by omega)
        obtain ⟨f, HFF⟩ : ∃ f, Hid (fr.getD q 0 = f) := ⟨_, rfl⟩
        rw [HFF.out] at c3 hfa HF2
        have z2 := HO2.out.frozen (by rw [natL_len]; exact HL2.out) f
        have c4 := HO2.out.intCell HL2.out f hfa
        have P2 := hide' (HO2.out.storeN HL2.out f p)
        have P1 := hide' (HO1.out.keep hne (but_set wr G f (.int .i64 (p : Int))))
        have z1 := P1.out.frozen (by rw [natL_len]; exact HL1.out) q
        have c5 := P1.out.intCell HL1.out q (by omega)
        rw [HFF.out] at c5
        have R1 := hide' (P1.out.storeN HL1.out q (f + 1))
        have R2 := hide' (P2.out.keep (Ne.symm hne) (but_set (wr.setCell ⟨G, f, none⟩ (.int .i64 (p : Int))) g q (.int .i64 ((f + 1 : Nat) : Int))))
        have b2 : (q : Int) < K := by omega
        have b4 : (f : Int) < n := by omega
        have XE : Hid (Ext w2 ((wr.setCell ⟨G, f, none⟩ (.int .i64 (p : Int))).setCell ⟨g, q, none⟩ (.int .i64 ((f + 1 : Nat) : Int)))) := by
          refine Ext.but (Ext.but HE.out hG2 (but_set wr G f (.int .i64 (p : Int)))) (by omega) (but_set _ g q _)
        go_wp2
        go_roundw
        case rel => exact ⟨t + 1, _, _, by omega, by go_num, (show _ = _ by rw [List.length_set]; exact HL1.out), (show _ = _ by rw [List.length_set]; exact HL2.out), HF2, R1, R2, XE⟩
        case measure => simp [intOf]; omega
      · have hlt' : decide ((t : Int) < n) = false := by simp; omega
        have hti : t = n := by omega
        subst hti
        have HQ : Hid (row = csort K ps (keyN ks)) := by
          have := HFI.out
          rw [← HN.out] at this
          exact this.done HKM.out (by rw [HL2.out, HN.out])
        have hB : w.heap.size ≤ G := by have := HE2.out.size; omega
        go_wp2
        go_ret2
        exact ⟨_, rfl, by rw [← HQ.out]; exact HO2.out.low hB, HE2.out.trans HE.out⟩
  · have hp' : passB os ks k = false := by simpa using hp
    have HP := hide' hp'
    have HPI : Hid (passI os ks k = []) := passI_no hp'
    have HLK := hide' hlen2
    have HLO := hide' hlen
    rw [HPI.out, HP.out]
    by_cases hf : fitB ks k = true
    · have HG : Hid (goodI (ks.length : Int) os = false) := by
        show _ = _
        rw [Bool.eq_false_iff]
        intro hg
        exact hp (passB_iff.2 ⟨hf, hg⟩)
      have HF := hide' hf
      obtain ⟨a, c, rfl, _⟩ := hv
      obtain ⟨a', c', rfl, _⟩ := hu
      clear hp hp' hf
      go_enter Tryz.func83, Tryz.ntmps83
      go_wp2_with fail
      refine (fit_any _ ks _ _ HU.out HLK.out).mono ?_
      rw [HF.out]
      rintro e _ ⟨rfl, hw⟩
      rw [hw]
      clear hw
      go_wp2_with fail
      refine (keysOf_any _ _ os ks _ HV.out HU.out HLO.out HLK.out).mono ?_
      rw [HG.out]
      rintro e w2 ⟨s2, rfl, _, he2⟩
      have HE2 := hide' he2
      clear he2
      go_wp2
      go_ret2
      exact ⟨_, rfl, Own.nil _ _ _ _, HE2.out⟩
    · have HF : Hid (fitB ks k = false) := by show _ = _; simpa using hf
      obtain ⟨a, c, rfl, _⟩ := hv
      obtain ⟨a', c', rfl, _⟩ := hu
      clear hp hp' hf
      go_enter Tryz.func83, Tryz.ntmps83
      go_wp2_with fail
      refine (fit_any _ ks _ _ HU.out HLK.out).mono ?_
      rw [HF.out]
      rintro e _ ⟨rfl, hw⟩
      rw [hw]
      clear hw
      go_wp2
      go_ret2
      exact ⟨_, rfl, Own.nil _ _ _ _, Ext.refl _⟩
end Go.Proofs.YtlmbdafilboblaaGreat

/- Contract of skew.byTriples: places in order of their triples. -/
namespace Go.Proofs.YtlmbdafilboblaaGreat
set_option linter.unusedVariables false
set_option linter.unusedSimpArgs false
open Go.RowKit

/-- One pass by the numbers a places on. -/
def pas (s : List Int) (k : Nat) (P : List Nat) (a : Nat) : List Nat := csort k P fun p => (padI s (p + a)).toNat
theorem tail_lt {s : List Int} {k : Int} (h : fitB (tailI s) k = true) (i : Nat) : padI s i < k := by
  obtain ⟨h0, h1, hg⟩ := fitB_iff.1 h
  by_cases e : i < s.length
  · have := goodI_at hg (j := i) (by rw [tailI_len]; omega)
    rw [tailI_at] at this
    omega
  · rw [padI_out (by omega)]
    have := goodI_at hg (j := s.length) (by rw [tailI_len]; omega)
    omega
theorem tail_nonneg {s : List Int} {k : Int} (h : fitB (tailI s) k = true) (hs : NonNeg s) (i : Nat) : 0 ≤ padI s i := padI_ge hs i
theorem drop_fit {s : List Int} {k : Int} (h : fitB (tailI s) k = true) (a : Nat) : fitB ((tailI s).drop a) k = true := by
  obtain ⟨h0, h1, hg⟩ := fitB_iff.1 h
  exact fitB_iff.2 ⟨h0, h1, goodI_iff.2 fun z hz => goodI_iff.1 hg z (List.mem_of_mem_drop hz)⟩
theorem pas_pass {s : List Int} {k : Nat} (h : fitB (tailI s) (k : Int) = true) {P : List Nat} {a : Nat} (ha : a ≤ 2) (hP : ∀ p ∈ P, p ≤ s.length) : passI (natL P) ((tailI s).drop a) (k : Int) = natL (pas s k P a) := by
  have hb : passB (natL P) ((tailI s).drop a) (k : Int) = true := by
    refine passB_iff.2 ⟨drop_fit h a, ?_⟩
    rw [List.length_drop, tailI_len]
    exact good_nat fun p hp => by have := hP p hp; omega
  rw [passI_yes hb, toN_nat, Int.toNat_natCast]
  unfold pas
  congr 1
  have he : keyN ((tailI s).drop a) = fun p => (padI s (p + a)).toNat := by
    funext p
    unfold keyN
    rw [tailI_drop]
  rw [he]
theorem pas_perm {s : List Int} {k : Nat} (h : fitB (tailI s) (k : Int) = true) (hs : NonNeg s) (P : List Nat) (a : Nat) : (pas s k P a).Perm P := by
  unfold pas
  refine csort_perm fun p _ => ?_
  have := tail_lt h (p + a)
  have := padI_ge hs (p + a)
  omega
/-- What the passes have come to ahead of the pass a. -/
def pasI (s : List Int) (k : Nat) (P : List Nat) : Nat → List Nat
  | 0 => P
  | 1 => pas s k P 2
  | 2 => pas s k (pas s k P 2) 1
  | _ => pas s k (pas s k (pas s k P 2) 1) 0
theorem pasI_succ (s : List Int) (k : Nat) (P : List Nat) {i : Nat} (hi : i < 3) : pasI s k P (i + 1) = pas s k (pasI s k P i) (2 - i) := by
  match i, hi with
  | 0, _ => rfl
  | 1, _ => rfl
  | 2, _ => rfl
theorem pasI_perm {s : List Int} {k : Nat} (h : fitB (tailI s) (k : Int) = true) (hs : NonNeg s) (P : List Nat) : ∀ i, i ≤ 3 → (pasI s k P i).Perm P := by
  intro i
  induction i with
  | zero => intro _; exact List.Perm.refl _
  | succ i ih =>
    intro hi
    rw [pasI_succ s k P (by omega)]
    exact (pas_perm h hs _ _).trans (ih (by omega))
theorem pasI_sort {s : List Int} {k : Nat} (h : fitB (tailI s) (k : Int) = true) (hs : NonNeg s) (P : List Nat) : SortT s (pasI s k P 3) := (sort3 hs (tail_lt h) P).1

set_option maxHeartbeats 1000000 in
theorem byTriples_any (sv pv : Value) (s : List Int) (P : List Nat) (k : Nat) (w : World) (hs : Sl .i64 w sv (tailI s)) (hp : Sl .i64 w pv (natL P)) (hnn : NonNeg s) (hfit : fitB (tailI s) (k : Int) = true) (hP : ∀ p ∈ P, p ≤ s.length) (hlen : s.length ≤ 200000) (hlenP : P.length ≤ 200000) :
    Calls Tryz.prog 108 #[sv, .int .i64 (k : Int), pv] w fun e w' => ∃ u G, e = .returned u ∧ G.Perm P ∧ SortT s G ∧ Own .i64 3 w.heap.size w' u (natL G) ∧ Ext w w' := by
  have HV := hide' hs
  have HP := hide' hp
  have HNN := hide' hnn
  have HFIT := hide' hfit
  have HPM := hide' hP
  have hk := (fitB_iff.1 hfit).2.1
  obtain ⟨a, c, rfl, _⟩ := hs
  have HTL := hide' (tailI_len s)
  rw [HTL.out] at HV ⊢
  obtain ⟨n, HN⟩ : ∃ n, Hid (s.length = n) := ⟨_, rfl⟩
  rw [HN.out] at HV hlen HTL ⊢
  obtain ⟨L, HL⟩ : ∃ L, Hid (n + 3 = L) := ⟨_, rfl⟩
  have hL : L ≤ 200003 := by rw [← HL.out]; omega
  have hL3 : 3 ≤ L := by rw [← HL.out]; omega
  rw [HL.out] at HV HTL ⊢
  clear hp hnn hfit hP
  go_enter Tryz.func108, Tryz.ntmps108
  go_wp2
  go_loopw [2, 7] (fun ov vj wr => ∃ (i : Nat) (j : Int), i ≤ 3 ∧ -1 ≤ j ∧ j ≤ 2 ∧ Hid (j = 2 - (i : Int)) ∧ vj = .int .i64 j ∧ Hid (Sl .i64 wr ov (natL (pasI s k P i))) ∧ Hid (i = 0 ∨ Own .i64 3 w.heap.size wr ov (natL (pasI s k P i))) ∧ Hid (Ext w wr)) (fun _ vj _ => (intOf vj + 1).toNat)
  case atStart => exact ⟨0, 2, Nat.zero_le _, by omega, by omega, rfl, rfl, HP, .inl rfl, Ext.refl _⟩
  case round =>
    obtain ⟨i, j, hi, hj1, hj2, HJ, rfl, HS, HO, HE⟩ := hrel
    by_cases hlt : i < 3
    · have hj0 : 0 ≤ j := by have := HJ.out; omega
      obtain ⟨J, rfl⟩ := Int.eq_ofNat_of_zero_le hj0
      have HJ2 : Hid (J = 2 - i) := by show _ = _; have := HJ.out; omega
      have hJL : J ≤ L := by omega
      obtain ⟨da, ra, sa, _⟩ := HV.out.runDrop (P := Tryz.prog) 32 3 Tryz.underlying32 sizeI64 J (by rw [HTL.out]; exact hJL)
      have SA := hide' (sa.ext HE.out)
      have hsz := HE.out.size
      have HM2 : Hid (∀ p ∈ pasI s k P i, p ≤ s.length) := fun p hp => HPM.out p ((pasI_perm HFIT.out HNN.out P i (by omega)).mem_iff.1 hp)
      have HPL : Hid ((natL (pasI s k P i)).length ≤ 1000000) := by show _ ≤ _; rw [natL_len, (pasI_perm HFIT.out HNN.out P i (by omega)).length_eq]; omega
      have HDL : Hid (((tailI s).drop J).length ≤ 1000000) := by show _ ≤ _; rw [List.length_drop, HTL.out]; omega
      have HQ : Hid (passI (natL (pasI s k P i)) ((tailI s).drop J) (k : Int) = natL (pasI s k P (i + 1))) := by
        show _ = _
        rw [pas_pass HFIT.out (by omega) HM2.out, pasI_succ s k P hlt, HJ2.out]
      have C := hide' (pass_any _ _ _ _ (k : Int) wr HS.out SA.out HPL.out HDL.out)
      rw [HQ.out] at C
      clear sa HJ
      go_wp2_with fail
      refine C.out.mono ?_
      rintro e w1 ⟨u, rfl, ho, he⟩
      have S1 := hide' ho.sl
      have O1 : Hid (i + 1 = 0 ∨ Own .i64 3 w.heap.size w1 u (natL (pasI s k P (i + 1)))) := .inr (ho.low hsz)
      have X1 := hide' (HE.out.trans he)
      clear ho he C
      go_wp2
      go_roundw
      case rel => exact ⟨i + 1, (J : Int) - 1, by omega, by omega, by omega, (show _ = _ by have := HJ2.out; omega), by go_num, S1, O1, X1⟩
      case measure => simp [intOf] <;> omega
    · have hj : j < 0 := by have := HJ.out; omega
      have d1 : decide (0 ≤ j) = false := by simp; omega
      have hi3 : i = 3 := by omega
      subst hi3
      have HO2 : Hid (Own .i64 3 w.heap.size wr u2 (natL (pasI s k P 3))) := by
        rcases HO.out with g | g
        · omega
        · exact g
      go_wp2
      go_ret
      exact ⟨_, _, rfl, pasI_perm HFIT.out HNN.out P 3 (by omega), pasI_sort HFIT.out HNN.out P, HO2.out, HE.out⟩
end Go.Proofs.YtlmbdafilboblaaGreat

/- Contracts of skew.restInOrder and ranksOf. -/
namespace Go.Proofs.YtlmbdafilboblaaGreat
set_option linter.unusedVariables false
set_option linter.unusedSimpArgs false
open Go.RowKit

theorem rest_pass {s : List Int} (hs : NonNeg s) {k : Nat} (h : fitB (tailI s) (k : Int) = true) {G : List Nat} (hG : InSamp s G) : ∃ T, passI (natL (restOf G)) (tailI s) (k : Int) = natL T ∧ InRest s T := by
  have h1 := pas_pass h (P := restOf G) (a := 0) (by omega) (fun p hp => by have := (restOf_mem hG).1 hp; omega)
  rw [List.drop_zero] at h1
  exact ⟨_, h1, rest_ord hs (tail_lt h) hG⟩

set_option maxHeartbeats 1000000 in
theorem rest_any (sv pv : Value) (s : List Int) (G : List Nat) (k : Nat) (w : World) (hs : Sl .i64 w sv (tailI s)) (hp : Sl .i64 w pv (natL G)) (hnn : NonNeg s) (hfit : fitB (tailI s) (k : Int) = true) (hG : InSamp s G) (hlen : s.length ≤ 200000) :
    Calls Tryz.prog 97 #[sv, .int .i64 (k : Int), pv] w fun e w' => ∃ u T, e = .returned u ∧ InRest s T ∧ Own .i64 3 w.heap.size w' u (natL T) ∧ Ext w w' := by
  have HV := hide' hs
  have HLEN := hide' hlen
  obtain ⟨T, ht1, ht2⟩ := rest_pass hnn hfit hG
  have HT1 := hide' ht1
  have HT2 := hide' ht2
  have hml := sampM_le s.length
  have hgl := hG.len
  have HMM : Hid (∀ i, i < G.length → G.getD i 0 ≤ s.length) := fun i hi => by
    have := hG.mem.1 (getN_mem hi)
    omega
  obtain ⟨pa, pc, hpe, _⟩ := id hp
  subst hpe
  rw [natL_len] at hp ⊢
  obtain ⟨_, _, _, hcp⟩ := hp.nat
  have CP := hide' hcp
  have HTL : Hid ((tailI s).length ≤ 1000000) := by show _ ≤ _; rw [tailI_len]; omega
  obtain ⟨m, HM⟩ : ∃ m, Hid (G.length = m) := ⟨_, rfl⟩
  have hm : m ≤ 200000 := by rw [← HM.out, hgl]; omega
  rw [HM.out] at CP HMM ⊢
  clear hs hp hnn hfit hG ht1 ht2 hml hgl hcp
  go_enter Tryz.func97, Tryz.ntmps97
  go_wp2
  go_loopw [7, 12] (fun ov vi wr => ∃ (i : Nat), i ≤ m ∧ vi = .int .i64 i ∧ Hid (Own .i64 3 w.heap.size wr ov (natL (restOf (G.take i)))) ∧ Hid (Ext w wr)) (fun _ vi _ => m - (intOf vi).toNat)
  case atStart => exact ⟨0, Nat.zero_le _, rfl, Own.nil _ _ _ _, Ext.refl _⟩
  case round =>
    obtain ⟨i, hi, rfl, HO, HE⟩ := hrel
    have hsz := HE.out.size
    by_cases hlt : i < m
    · have hlt' : (i : Int) < m := by omega
      obtain ⟨g1, o1, rfl, k1⟩ := CP.out (by omega)
      have c1 := HE.out.cellOf (k1 i hlt)
      have hpn := HMM.out i hlt
      have hiG : i < G.length := by rw [HM.out]; exact hlt
      have HY := hide' (fun h => restOf_yes (G := G) (i := i) hiG h)
      have HNO := hide' (fun h => restOf_no (G := G) (i := i) hiG h)
      obtain ⟨p, HP⟩ : ∃ p, Hid (G.getD i 0 = p) := ⟨_, rfl⟩
      rw [HP.out] at c1 hpn HY HNO
      have hpl : p ≤ 200000 := by have := HLEN.out; omega
      have m1 : (p : Int).tmod 3 = ((p % 3 : Nat) : Int) := by rw [Int.tmod_eq_emod_of_nonneg (by omega)]; omega
      obtain ⟨r, HR⟩ : ∃ r, Hid (p % 3 = r) := ⟨_, rfl⟩
      rw [HR.out] at m1 HY HNO
      clear k1 hiG
      by_cases hr : r = 1
      · have d1 : ((r : Int) == 1) = true := by simp; omega
        have HZ := hide' (HY.out hr)
        have hp1 : (p : Int) - 1 = ((p - 1 : Nat) : Int) := by have := HR.out; omega
        obtain ⟨y, HYY⟩ : ∃ y, Hid (p - 1 = y) := ⟨_, rfl⟩
        rw [HYY.out] at hp1 HZ
        have HL : Hid ((natL (restOf (G.take i))).length ≤ 1000000) := by
          show _ ≤ _
          rw [natL_len]
          have := restOf_len (G.take i)
          rw [List.length_take] at this
          omega
        clear hr HY HNO
        go_wp2_with (at_builtin; refine wpList_snoc _ rfl _ _ 32 rfl 3 .i64 8 Tryz.underlying32 infoI64 w.heap.size _ (natL (restOf (G.take i))) (y : Int) ⟨wr.heap.size, 0, none⟩ rfl rfl ?c4 (HO.out.alloc _) ?c3 ?c5 ?_)
        case c3 => have := HL.out; unfold maxLen; omega
        case c5 => simp; omega
        case c4 => simp only [World.cell?, heap_alloc_top]; simp
        intro v1 w4 ho1 hb1
        have HO1 : Hid (Own .i64 3 w.heap.size w4 v1 (natL (restOf (G.take (i + 1))))) := by rw [HZ.out, ← natL_snoc]; exact ho1
        have HE1 : Hid (Ext w w4) := Below.trans (HE.out.trans (ext_alloc _ _)) hb1
        clear ho1 hb1
        go_wp2
        go_roundw
        case rel => exact ⟨i + 1, by omega, by go_num, HO1, HE1⟩
        case measure => simp [intOf] <;> omega
      · have d1 : ((r : Int) == 1) = false := by simp; omega
        have HZ := hide' (HNO.out hr)
        rw [← HZ.out] at HO
        clear hr HY HNO
        go_wp2
        go_roundw
        case rel => exact ⟨i + 1, by omega, by go_num, HO, HE⟩
        case measure => simp [intOf] <;> omega
    · have d1 : decide ((i : Int) < m) = false := by simp; omega
      have hin : i = m := by omega
      have HG : Hid (restOf (G.take i) = restOf G) := by
        show _ = _
        rw [List.take_of_length_le (by rw [HM.out]; omega)]
      rw [HG.out] at HO
      have HL : Hid ((natL (restOf G)).length ≤ 1000000) := by
        show _ ≤ _
        rw [natL_len]
        have := restOf_len G
        rw [HM.out] at this
        omega
      have C := hide' (pass_any _ _ _ _ (k : Int) wr HO.out.sl (HV.out.ext HE.out) HL.out HTL.out)
      rw [HT1.out] at C
      go_wp2_with fail
      refine C.out.mono ?_
      rintro e w1 ⟨u, rfl, ho, he⟩
      have O1 := hide' (ho.low hsz)
      have X1 := hide' (HE.out.trans he)
      clear ho he C
      go_wp2
      go_ret
      exact ⟨_, T, rfl, HT2.out, O1.out, X1.out⟩

set_option maxHeartbeats 1000000 in
theorem ranks_any (pv : Value) (s : List Int) (G : List Nat) (w : World) (hp : Sl .i64 w pv (natL G)) (hG : InSamp s G) (hlen : s.length ≤ 200000) :
    Calls Tryz.prog 98 #[pv, .int .i64 ((s.length + 3 : Nat) : Int)] w fun e w' => ∃ u r, e = .returned u ∧ RankT G (s.length + 3) G.length r ∧ Own .i64 3 w.heap.size w' u r ∧ Ext w w' := by
  have hml := sampM_le s.length
  have hgl := hG.len
  have HND : Hid G.Nodup := hG.ord.imp fun h e => by
    rw [e] at h
    exact ltE_irrefl h
  have HMM : Hid (∀ i, i < G.length → G.getD i 0 ≤ s.length) := fun i hi => by
    have := hG.mem.1 (getN_mem hi)
    omega
  obtain ⟨pa, pc, hpe, _⟩ := id hp
  subst hpe
  rw [natL_len] at hp ⊢
  obtain ⟨_, _, _, hcp⟩ := hp.nat
  have CP := hide' hcp
  obtain ⟨m, HM⟩ : ∃ m, Hid (G.length = m) := ⟨_, rfl⟩
  have hm : m ≤ 200000 := by rw [← HM.out, hgl]; omega
  rw [HM.out] at CP HMM ⊢
  obtain ⟨L, HL⟩ : ∃ L, Hid (s.length + 3 = L) := ⟨_, rfl⟩
  have hL : L ≤ 200003 := by rw [← HL.out]; omega
  have HML : Hid (∀ i, i < m → G.getD i 0 < L) := fun i hi => by
    have := HMM.out i hi
    have := HL.out
    omega
  rw [HL.out]
  obtain ⟨w1, hmk, ho, he⟩ := make_ints w L (by omega)
  obtain ⟨g, HG⟩ : ∃ g, Hid (w.heap.size = g) := ⟨_, rfl⟩
  have hgw : w.heap.size ≤ g := by rw [HG.out]; exact Nat.le_refl _
  rw [HG.out] at ho hmk ⊢
  have O1 := hide' ho
  have X1 := hide' he
  have N0 : Hid (RankT G L 0 (List.replicate L 0)) := RankT.start G L
  clear ho he hp hcp hG hml hgl
  go_enter Tryz.func98, Tryz.ntmps98
  go_wp2
  go_loopw [12] (fun vi wr => ∃ (i : Nat) (r : List Int), i ≤ m ∧ vi = .int .i64 i ∧ Hid (RankT G L i r) ∧ Hid (Own .i64 3 g wr (.slice (some ⟨g, 0, none⟩) L L) r) ∧ Hid (Ext w wr)) (fun vi _ => m - (intOf vi).toNat)
  case atStart => exact ⟨0, _, Nat.zero_le _, rfl, N0, O1, X1⟩
  case round =>
    clear O1 X1 N0 hmk
    obtain ⟨i, r, hi, rfl, HR, HO, HE⟩ := hrel
    have HRL : Hid (r.length = L) := HR.out.len
    by_cases hlt : i < m
    · have hlt' : (i : Int) < m := by omega
      have hiG : i < G.length := by rw [HM.out]; exact hlt
      have hp1 := HML.out i hlt
      have N1 := hide' (HR.out.next HND.out hiG hp1)
      obtain ⟨g1, o1, rfl, k1⟩ := CP.out (by omega)
      have c1 := HE.out.cellOf (k1 i hlt)
      obtain ⟨p, HP⟩ : ∃ p, Hid (G.getD i 0 = p) := ⟨_, rfl⟩
      rw [HP.out] at c1 N1 hp1
      have hp1' : (p : Int) < L := by omega
      have c3 := HO.out.cell HRL.out p hp1
      have z3 := HO.out.frozen HRL.out p
      have O6 := hide' (HO.out.store HRL.out p ((i : Int) + 1))
      have X6 : Hid (Ext w (wr.setCell ⟨g, p, none⟩ (.int .i64 ((i : Int) + 1)))) := Ext.but HE.out hgw (but_set _ _ _ _)
      clear k1 HO HE HR hiG
      go_wp2
      go_roundw
      case rel => exact ⟨i + 1, _, by omega, by go_num, N1, O6, X6⟩
      case measure => simp [intOf] <;> omega
    · have d1 : decide ((i : Int) < m) = false := by simp; omega
      have hin : m = i := by omega
      have HF : Hid (RankT G L m r) := by have := HR.out; rw [← hin] at this; exact this
      go_wp2
      go_ret
      exact ⟨_, r, rfl, HF.out, HO.out, HE.out⟩
end Go.Proofs.YtlmbdafilboblaaGreat

/- A slice's length, for a loop's measure. -/
namespace Go.Proofs.YtlmbdafilboblaaGreat
set_option linter.unusedVariables false
set_option linter.unusedSimpArgs false
open Go.RowKit

/-- A slice's length. -/
def slLen : Value → Nat
  | .slice _ n _ => n
  | _ => 0
theorem slLen_eq (a : Option Addr) (n c : Nat) : slLen (.slice a n c) = n := rfl
end Go.Proofs.YtlmbdafilboblaaGreat

/- Contract of skew.less: an ending of the sample against one of the rest. -/
namespace Go.Proofs.YtlmbdafilboblaaGreat
set_option linter.unusedVariables false
set_option linter.unusedSimpArgs false
open Go.RowKit

/-- Which places are compared. -/
def Comp (n a b : Nat) : Prop := a ≤ n ∧ b ≤ n ∧ a ≠ b ∧ ((b % 3 = 0 ∧ a % 3 ≠ 0) ∨ (b % 3 = 1 ∧ a % 3 = 0))
theorem Comp.other {s : List Int} (hs : NonNeg s) {a b : Nat} (h : Comp s.length a b) (hne : padI s a ≠ padI s b) : decide (padI s a < padI s b) = ltB s a b := by
  obtain ⟨h1, h2, h3, h4⟩ := h
  refine ltB_eq ?_
  rw [pad_iff hs (show a < s.length ∨ b < s.length by omega)]
  exact ⟨fun g => .inl g, fun g => by rcases g with g | g; exact g; exact absurd g.1 hne⟩
theorem Comp.same {s : List Int} (hs : NonNeg s) {a b : Nat} (h : Comp s.length a b) (he : padI s a = padI s b) : a < s.length ∧ b < s.length ∧ ltB s a b = ltB s (a + 1) (b + 1) := by
  obtain ⟨h1, h2, h3, h4⟩ := h
  have ha : a < s.length := by
    apply Nat.lt_of_not_le
    intro hle
    rw [padI_out hle] at he
    have h5 : ¬ 0 < padI s b := by omega
    rw [padI_pos hs] at h5
    omega
  obtain ⟨hb, he2⟩ := pad_same hs ha he
  exact ⟨ha, hb, ltB_same he2⟩
theorem Comp.stop {s : List Int} {G : List Nat} {L : Nat} {r : List Int} (hr : RankT G L G.length r) (hG : InSamp s G) {a b : Nat} (h : Comp s.length a b) (ha : a < s.length) (hb : b < s.length) (h3 : (a + 1) % 3 ≠ 0 ∧ (b + 1) % 3 ≠ 0) : decide (r.getD (a + 1) 0 < r.getD (b + 1) 0) = ltB s (a + 1) (b + 1) := by
  obtain ⟨h1, h2, h4, h5⟩ := h
  exact ltB_eq (rankT_iff hr hG (by omega) (by omega) (by omega) h3.1 h3.2)
theorem Comp.next {n a b : Nat} (h : Comp n a b) (ha : a < n) (hb : b < n) (h3 : ¬ ((a + 1) % 3 ≠ 0 ∧ (b + 1) % 3 ≠ 0)) : Comp n (a + 1) (b + 1) ∧ b % 3 = 0 ∧ (a + 1) % 3 = 0 := by
  obtain ⟨h1, h2, h4, h5⟩ := h
  refine ⟨⟨by omega, by omega, by omega, by omega⟩, by omega, by omega⟩

set_option maxHeartbeats 1000000 in
theorem less_any (sv rv : Value) (s r : List Int) (G : List Nat) (a b : Nat) (w : World) (hs : Sl .i64 w sv (tailI s)) (hrv : Sl .i64 w rv r) (hnn : NonNeg s) (hr : RankT G (s.length + 3) G.length r) (hG : InSamp s G) (hc : Comp s.length a b) (hlen : s.length ≤ 200000) :
    Calls Tryz.prog 110 #[sv, rv, .int .i64 a, .int .i64 b] w fun e w' => e = .returned (.bool (ltB s a b)) ∧ ∃ m, w' = w.drewN m := by
  have HNN := hide' hnn
  have HR := hide' hr
  have HG := hide' hG
  have HC := hide' hc
  have HTL := hide' (tailI_len s)
  have HRL := hide' hr.len
  obtain ⟨va, vc, rfl, _⟩ := id hs
  obtain ⟨ra, rc, rfl, _⟩ := id hrv
  rw [HTL.out] at hs ⊢
  rw [HRL.out] at hrv ⊢
  obtain ⟨_, _, _, k1⟩ := hs.int
  obtain ⟨_, _, _, k2⟩ := hrv.int
  obtain ⟨n, HN⟩ : ∃ n, Hid (s.length = n) := ⟨_, rfl⟩
  rw [HN.out] at hlen HTL HRL HC k1 k2 ⊢
  obtain ⟨g1, o1, rfl, kk1⟩ := k1 (by omega)
  obtain ⟨g2, o2, rfl, kk2⟩ := k2 (by omega)
  have K1 : Hid (∀ i, i ≤ n → w.cell? ⟨g1, o1 + i, none⟩ = some (.int .i64 (padI s i))) := fun i hi => by
    have := kk1 i (by omega)
    rw [tailI_at] at this
    exact this
  have K2 : Hid (∀ i, i ≤ n → w.cell? ⟨g2, o2 + i, none⟩ = some (.int .i64 (r.getD i 0))) := fun i hi => kk2 i (by omega)
  obtain ⟨L, HL⟩ : ∃ L, Hid (n + 3 = L) := ⟨_, rfl⟩
  have hL : L ≤ 200003 := by rw [← HL.out]; omega
  have hnL : n + 3 ≤ L := by rw [← HL.out]; exact Nat.le_refl _
  rw [HL.out]
  obtain ⟨D, HD⟩ : ∃ D, Hid (ltB s a b = D) := ⟨_, rfl⟩
  rw [HD.out]
  have ha0 : a ≤ n := HC.out.1
  have hb0 : b ≤ n := HC.out.2.1
  clear hs hrv kk1 kk2 hnn hr hG hc
  go_enter Tryz.func110, Tryz.ntmps110
  go_wp2
  go_loopw [2, 3] (fun va vb wr => ∃ (a b : Nat), a ≤ n ∧ b ≤ n ∧ va = .int .i64 a ∧ vb = .int .i64 b ∧ Hid (Comp s.length a b) ∧ Hid (ltB s a b = D) ∧ ∃ m, wr = w.drewN m) (fun _ vb _ => 1 - (intOf vb).toNat % 3)
  case atStart => exact ⟨a, b, ha0, hb0, rfl, rfl, (show Comp _ _ _ by rw [HN.out]; exact HC.out), HD, 0, rfl⟩
  case round =>
    clear HC HD ha0 hb0
    obtain ⟨a, b, ha, hb, rfl, rfl, HC, HD, m, rfl⟩ := hrel
    have c1 := K1.out a ha
    have c2 := K1.out b hb
    have hne := HC.out.2.2.1
    have HOT := hide' (fun h => HC.out.other HNN.out h)
    have HSA := hide' (fun h => HC.out.same HNN.out h)
    obtain ⟨x, HX⟩ : ∃ x, Hid (padI s a = x) := ⟨_, rfl⟩
    obtain ⟨y, HY⟩ : ∃ x, Hid (padI s b = x) := ⟨_, rfl⟩
    rw [HX.out] at c1 HOT HSA
    rw [HY.out] at c2 HOT HSA
    have haL : (a : Int) < L := by omega
    have hbL : (b : Int) < L := by omega
    by_cases hxy : x = y
    · have d1 : (x != y) = false := by simp [hxy]
      obtain ⟨q1, q2, q3⟩ := HSA.out hxy
      rw [HN.out] at q1 q2
      have HD1 : Hid (ltB s (a + 1) (b + 1) = D) := by show _ = _; rw [← q3]; exact HD.out
      have m1 : ((a : Int) + 1).tmod 3 = (((a + 1) % 3 : Nat) : Int) := by rw [Int.tmod_eq_emod_of_nonneg (by omega)]; omega
      have m2 : ((b : Int) + 1).tmod 3 = (((b + 1) % 3 : Nat) : Int) := by rw [Int.tmod_eq_emod_of_nonneg (by omega)]; omega
      have c3 := K2.out (a + 1) (by omega)
      have c4 := K2.out (b + 1) (by omega)
      have HST := hide' (fun h => HC.out.stop HR.out HG.out (by rw [HN.out]; exact q1) (by rw [HN.out]; exact q2) h)
      have HNX := hide' (fun h => HC.out.next (by rw [HN.out]; exact q1) (by rw [HN.out]; exact q2) h)
      rw [HD1.out] at HST
      have e1 : ((a : Int) + 1) = ((a + 1 : Nat) : Int) := by omega
      have e2 : ((b : Int) + 1) = ((b + 1 : Nat) : Int) := by omega
      obtain ⟨A, hA⟩ : ∃ A, a + 1 = A := ⟨_, rfl⟩
      obtain ⟨B, hB⟩ : ∃ A, b + 1 = A := ⟨_, rfl⟩
      obtain ⟨ma, HMA⟩ : ∃ x, Hid (A % 3 = x) := ⟨_, rfl⟩
      obtain ⟨mb, HMB⟩ : ∃ x, Hid (B % 3 = x) := ⟨_, rfl⟩
      rw [hA] at e1 c3 m1 HST HD1 HNX
      rw [hB] at e2 c4 m2 HST HD1 HNX
      rw [e1] at m1
      rw [e2] at m2
      rw [HMA.out] at m1 HST HNX
      rw [HMB.out] at m2 HST HNX
      have hAn : A ≤ n := by omega
      have hBn : B ≤ n := by omega
      have HAA := hide' hA
      have HBB := hide' hB
      clear q1 q2 q3 hA hB HOT HSA
      subst hxy
      by_cases h3 : ma ≠ 0 ∧ mb ≠ 0
      · have t1 : ((ma : Int) != 0) = true := by simp; exact h3.1
        have t2 : ((mb : Int) != 0) = true := by simp; exact h3.2
        have HS := hide' (HST.out h3)
        obtain ⟨z1, HZ1⟩ : ∃ x, Hid (r.getD A 0 = x) := ⟨_, rfl⟩
        obtain ⟨z2, HZ2⟩ : ∃ x, Hid (r.getD B 0 = x) := ⟨_, rfl⟩
        rw [HZ1.out] at c3 HS
        rw [HZ2.out] at c4 HS
        have hAL : (A : Int) < L := by omega
        have hBL : (B : Int) < L := by omega
        clear h3 HST HNX
        go_wp2_with fail
        go_quiet (fail)
        go_wp2_with fail
        go_quiet (fail)
        go_wp2
        go_ret
        rw [HS.out]
        exact ⟨rfl, _, by first | exact World.drewN_drewN _ _ _ | rfl | (rw [World.drewN_drewN]; exact World.drewN_drewN _ _ _)⟩
      · obtain ⟨hc1, hc2, hc3⟩ := HNX.out h3
        have HC1 : Hid (Comp s.length A B) := hc1
        have hma : ma = 0 := hc3
        have hb3 : b % 3 = 0 := hc2
        have t1 : ((ma : Int) != 0) = false := by simp; exact hma
        have HMM : Hid (B % 3 = 1 ∧ b % 3 = 0) := by
          show _ ∧ _
          have := HBB.out
          omega
        clear h3 HST HNX hc1 hc2 hc3 hma hb3 HMA HMB
        go_wp2_with fail
        go_quiet (fail)
        go_wp2
        go_roundw
        case rel => exact ⟨A, B, hAn, hBn, by go_num, by go_num, HC1, HD1, _, by first | exact World.drewN_drewN _ _ _ | rfl | (rw [World.drewN_drewN]; exact World.drewN_drewN _ _ _)⟩
        case measure =>
          have := HMM.out
          simp [intOf] <;> omega
    · have d1 : (x != y) = true := by simpa using hxy
      have d2 : (x == y) = false := by simpa using hxy
      have HS := hide' (HOT.out hxy)
      rw [HD.out] at HS
      clear hxy HOT HSA
      go_wp2_with fail
      go_quiet (fail)
      go_wp2_with fail
      go_quiet (fail)
      go_wp2
      go_ret
      rw [HS.out]
      exact ⟨rfl, _, by first | exact World.drewN_drewN _ _ _ | rfl | (rw [World.drewN_drewN]; exact World.drewN_drewN _ _ _)⟩
end Go.Proofs.YtlmbdafilboblaaGreat

/- Two rows of the call's own, grown side by side: rows of two types lie apart. Over any program, no conditions. -/
namespace Go.Proofs.YtlmbdafilboblaaGreat
set_option linter.unusedVariables false
set_option linter.unusedSimpArgs false
open Go.RowKit

theorem grown_refl (w : World) (row : Option Nat) : w.grownBy w row := ⟨rfl, rfl, rfl, Nat.le_refl _, fun _ _ _ => rfl⟩

/-- 'append(s, x)', s the call's own: all but s's block is as it was. -/
theorem wpList_snocG {P : Program} (w : World) {ops : Array Oper} {rest : List Oper} {o : Oper} {a : Act} {Q : Exit → Act → World → Prop} (hgd : o.guard = none) (s x : Operand) (t : TypeId)
    (ho : o.op = .call { callee := .builtin .append, args := #[s, x], argTypes := #[t, t] }) (e : TypeId) (k : IntKind) (bytes : Nat) (ht : P.underlying t = some (.slice e))
    (hinfo : (P.info? e).map (fun i => (i.zero, i.size, i.bytes)) = some (some (.int k 0), 1, bytes)) (B : Nat) (v : Value) (zs : List Int) (z : Int) (ad : Addr) (hs : a.eval s = v) (hx : a.eval x = .slice (some ad) 1 1)
    (hcell : w.cell? ad = some (.int k z)) (hown : Own k e B w v zs) (hlen : (zs.length + 1) * bytes ≤ 140737488355328 ∧ zs.length + 1 ≤ maxLen) (hB : B ≤ w.heap.size)
    (h : ∀ v' w', Own k e B w' v' (zs ++ [z]) → w.grownBy w' v.ownBlock → wpList P ops Q rest (a.put o.dst v') w') : wpList P ops Q (o :: rest) a w := by
  obtain ⟨i0, hi, hz0, hz1, hz2⟩ := info_parts hinfo
  refine wpList_append_own w hgd s x t ho B e i0 (.int k 0) 1 bytes ht hi hz0 hz1 hz2 rfl (by decide) v _ _ hs hown ad 1 1 [.int k z] hx rfl ?_ one1 hlen.2 hlen.1 hB ?_
  · intro j u hj
    match j, hj with
    | 0, hj => simp at hj; subst hj; simpa [Addr.add] using hcell
  · intro v' w' h1 h2 _
    exact h v' w' (Own.snoc h1) h2

/-- 'append(s, xs...)', s the call's own, xs whatever numbers: all but s's block is as it was. -/
theorem wpList_joinG {P : Program} (w : World) {ops : Array Oper} {rest : List Oper} {o : Oper} {a : Act} {Q : Exit → Act → World → Prop} (hgd : o.guard = none) (s x : Operand) (t : TypeId)
    (ho : o.op = .call { callee := .builtin .append, args := #[s, x], argTypes := #[t, t] }) (e : TypeId) (k : IntKind) (bytes : Nat) (ht : P.underlying t = some (.slice e))
    (hinfo : (P.info? e).map (fun i => (i.zero, i.size, i.bytes)) = some (some (.int k 0), 1, bytes)) (B : Nat) (v u : Value) (zs ys : List Int) (hs : a.eval s = v) (hx : a.eval x = u)
    (hown : Own k e B w v zs) (hsl : Sl k w u ys) (hlen : (zs.length + ys.length) * bytes ≤ 140737488355328 ∧ zs.length + ys.length ≤ maxLen) (hB : B ≤ w.heap.size)
    (h : ∀ v' w', Own k e B w' v' (zs ++ ys) → w.grownBy w' v.ownBlock → wpList P ops Q rest (a.put o.dst v') w') : wpList P ops Q (o :: rest) a w := by
  obtain ⟨i0, hi, hz0, hz1, hz2⟩ := info_parts hinfo
  obtain ⟨ad, c, rfl, h1, h2, h3, h4⟩ := hsl
  cases ad with
  | none =>
    have hc := h3 rfl
    subst hc
    have hy : ys = [] := List.length_eq_zero_iff.1 (by omega)
    subst hy
    refine wpList_append_own_none hgd s x t ho B e i0 1 ht hi v _ _ hs hown hx ?_
    refine h v w ?_ (grown_refl _ _)
    rw [List.append_nil]; exact hown
  | some ad =>
    refine wpList_append_own w hgd s x t ho B e i0 (.int k 0) 1 bytes ht hi hz0 hz1 hz2 rfl (by decide) v _ _ hs hown ad ys.length c (ys.map (Value.int k)) hx (by simp) ?_ (ints_one ys) hlen.2 hlen.1 hB (fun v' w' g1 g2 _ => h v' w' (by unfold Own; simpa using g1) g2)
    intro j u hj
    rcases h4 with rfl | ⟨b, off, hb, h5⟩
    · simp at hj
    · simp only [Option.some.injEq] at hb
      subst hb
      have hjl : j < ys.length := by
        rcases Nat.lt_or_ge j ys.length with g | g
        · exact g
        · simp [List.getElem?_eq_none (show (ys.map (Value.int k)).length ≤ j by simpa using g)] at hj
      rw [Go.WideShapes.add_plain, h5 j hjl]
      simp [List.getElem?_eq_getElem hjl] at hj
      subst hj
      simp [List.getD, List.getElem?_eq_getElem hjl]

/-- A block has one type. -/
theorem Own.other {k k' : IntKind} {e e' : TypeId} {B B' : Nat} {w w' : World} {v x : Value} {zs ys : List Int} (hv : Own k e B w v zs) (hx : Own k' e' B' w x ys) (he : e ≠ e') (hg : w.grownBy w' v.ownBlock) : Own k' e' B' w' x ys := by
  refine World.ownsRow.kept (row := v.ownBlock) hx hg ?_
  rcases hx.2 with ⟨h, _⟩ | ⟨g, cap, cur, h, _, hb, _⟩
  · rw [h]; exact .inl rfl
  · refine .inr fun e1 => ?_
    rcases hv.2 with ⟨h', _⟩ | ⟨g', cap', cur', h', _, hb', _⟩
    · rw [h, h'] at e1; simp [Value.ownBlock] at e1
    · rw [h, h'] at e1
      simp only [Value.ownBlock, Option.some.injEq] at e1
      subst e1
      rw [hb] at hb'
      cases hb'
      exact he rfl

theorem Own.grown {k : IntKind} {e : TypeId} {B : Nat} {w w' : World} {v : Value} {zs : List Int} (h : Own k e B w v zs) (hB : B ≤ w.heap.size) (hg : w.grownBy w' v.ownBlock) : Below B w w' :=
  (Below.refl _ _).grown hg hB (fun k hk => (World.ownsRow.lt h k hk).1)
/-- 'T{}' of a slice type, made. -/
theorem emptyOwn (k : IntKind) (e : TypeId) (w : World) : Own k e w.heap.size (w.alloc (.cells #[] e)) (.slice (some ⟨w.heap.size, 0, none⟩) 0 0) [] := ⟨rfl, .inr ⟨w.heap.size, 0, _, rfl, Nat.le_refl _, heap_alloc_top _ _, Nat.le_refl _, by decide, rfl, rfl⟩⟩
end Go.Proofs.YtlmbdafilboblaaGreat

/- An append of the call's own row as one step of a region that draws its order. Over any program; no conditions. -/
namespace Go.Proofs.YtlmbdafilboblaaGreat
set_option linter.unusedVariables false
set_option linter.unusedSimpArgs false
open Go.RowKit

/-- The step, its run known ahead. -/
theorem step_append_run {P : Program} {ops : Array Oper} {o : Oper} {a : Act} {w w' : World} {K : Act → World → Prop} {Q : Exit → Act → World → Prop} {E : Prop} (v u r : Value) (ty : TypeId)
    (hg : o.guard = none) (s x : Operand) (t : TypeId) (hop : o.op = Op.call { callee := Callee.builtin Builtin.append, args := #[s, x], argTypes := #[t, t] }) (hty : o.type = ty)
    (hs : a.eval s = v) (hx : a.eval x = u) (hrun : (Builtin.append_ #[t, t] ty #[v, u]).run P w = .ok r w')
    (hK : K (a.put o.dst r) w') : if Region.wanted o (yielded ops a.tmps) = true then Oper.wp P o a w K Q else E := by
  have hw : Region.wanted o (yielded ops a.tmps) = true := by simp [Region.wanted, hg]
  rw [if_pos hw]
  subst hty
  unfold Oper.wp
  simp [execOp, hop, resolve, invoke, builtin, hs, hx, hrun, Result.andThen]
  exact hK

/-- 'append(v, z)' behind the laying of z. -/
theorem run_snoc {P : Program} {k : IntKind} (w : World) (t ty e : TypeId) (bytes : Nat) (ht : P.underlying t = some (.slice e)) (hinfo : (P.info? e).map (fun i => (i.zero, i.size, i.bytes)) = some (some (.int k 0), 1, bytes)) (B : Nat) (v : Value) (zs : List Int) (z : Int)
    (hown : Own k e B w v zs) (hlen : (zs.length + 1) * bytes ≤ 140737488355328 ∧ zs.length + 1 ≤ maxLen) (hB : B ≤ w.heap.size) :
    ∃ v' w', (Builtin.append_ #[t, t] ty #[v, .slice (some ⟨w.heap.size, 0, none⟩) 1 1]).run P (w.alloc (.cells #[.int k z] e)) = .ok v' w' ∧ Own k e B w' v' (zs ++ [z]) ∧ Below B w w' := by
  obtain ⟨i0, hi, hz0, hz1, hz2⟩ := info_parts hinfo
  have ho1 : Own k e B (w.alloc (.cells #[.int k z] e)) v zs := hown.alloc _
  have hB1 : B ≤ (w.alloc (.cells #[.int k z] e)).heap.size := by simp; omega
  have hc : (w.alloc (.cells #[.int k z] e)).cell? ⟨w.heap.size, 0, none⟩ = some (.int k z) := by
    simp only [World.cell?, heap_alloc_top]
    simp
  obtain ⟨v', w', h1, h2, h3, _⟩ := run_append_own (P := P) (w.alloc (.cells #[.int k z] e)) B t ty e i0 (.int k 0) 1 bytes ht hi hz0 hz1 hz2 rfl (by decide) v _ _ ho1 ⟨w.heap.size, 0, none⟩ 1 1 [.int k z] rfl (fun j u hj => by
    match j, hj with
    | 0, hj =>
      simp at hj
      subst hj
      simp [Addr.add, hc]) one1 hlen.2 hlen.1 hB1
  exact ⟨v', w', h1, Own.snoc h2, Below.trans (((Below.refl _ _).alloc hB _)) ((Below.refl _ _).grown h3 hB1 (fun k hk => (World.ownsRow.lt ho1 k hk).1))⟩
end Go.Proofs.YtlmbdafilboblaaGreat

/- Contract of skew.merge: the sample and the rest, both in order, as one order. -/
namespace Go.Proofs.YtlmbdafilboblaaGreat
set_option linter.unusedVariables false
set_option linter.unusedSimpArgs false
open Go.RowKit

theorem natL_drop (l : List Nat) (i : Nat) : natL (l.drop i) = (natL l).drop i := by simp [natL]


set_option maxHeartbeats 2000000 in
theorem merge_any (sv rv av bv : Value) (s r : List Int) (G A T : List Nat) (w : World) (hs : Sl .i64 w sv (tailI s)) (hrv : Sl .i64 w rv r) (ha : Sl .i64 w av (natL A)) (hb : Sl .i64 w bv (natL T)) (hnn : NonNeg s) (hr : RankT G (s.length + 3) G.length r) (hG : InSamp s G) (hA : InTwo s A) (hT : InRest s T) (hlen : s.length ≤ 200000) :
    Calls Tryz.prog 99 #[sv, rv, av, bv] w fun e w' => ∃ u R, e = .returned u ∧ InOrd s R ∧ Own .i64 3 w.heap.size w' u (natL R) ∧ Ext w w' := by
  have HS := hide' hs
  have HRV := hide' hrv
  have HNN := hide' hnn
  have HR := hide' hr
  have HG := hide' hG
  have HA := hide' hA
  have HT := hide' hT
  have HLEN := hide' hlen
  have hal := hA.len
  have htl := hT.len
  have HAV : Hid (Sl .i64 w av (natL (A.drop 0))) := ha
  have HBV : Hid (Sl .i64 w bv (natL (T.drop 0))) := hb
  obtain ⟨aa, ac, hae, _⟩ := id ha
  obtain ⟨ba, bc, hbe, _⟩ := id hb
  rw [natL_len] at hae hbe
  subst hae
  subst hbe
  obtain ⟨na, HNA⟩ : ∃ n, Hid (A.length = n) := ⟨_, rfl⟩
  obtain ⟨nb, HNB⟩ : ∃ n, Hid (T.length = n) := ⟨_, rfl⟩
  rw [HNA.out] at HAV hal ⊢
  rw [HNB.out] at HBV htl ⊢
  have hsum : (na : Int) + (nb : Int) = ((na + nb : Nat) : Int) := by omega
  obtain ⟨C, HC⟩ : ∃ C, Hid (na + nb = C) := ⟨_, rfl⟩
  have hC : C ≤ 400000 := by rw [← HC.out]; omega
  rw [HC.out] at hsum
  obtain ⟨w1, hmk, ho, he⟩ := make_roomI w C (by omega)
  obtain ⟨g, HGG⟩ : ∃ g, Hid (w.heap.size = g) := ⟨_, rfl⟩
  have hgw : w.heap.size ≤ g := by rw [HGG.out]; exact Nat.le_refl _
  rw [HGG.out] at ho hmk ⊢
  have O1 := hide' ho
  have X1 := hide' he
  have HTR : Hid (∀ a b c, ltE s a b → ltE s b c → ltE s a c) := fun a b c h1 h2 => ltE_trans h1 h2
  clear ho he hs hrv ha hb hnn hr hG hA hT hal htl
  go_enter Tryz.func99, Tryz.ntmps99
  go_wp2
  go_loopw [2, 3, 9] (fun va vb vm wr => ∃ (i j : Nat) (pa pb : Option Addr) (la lb ca cb : Nat) (out : List Nat), Hid (i + la = na) ∧ Hid (j + lb = nb) ∧ la ≤ 200000 ∧ lb ≤ 200000 ∧ va = .slice pa la ca ∧ vb = .slice pb lb cb ∧ Hid (Sl .i64 w va (natL (A.drop i))) ∧ Hid (Sl .i64 w vb (natL (T.drop j))) ∧ Hid (Merge (ltE s) A T i j out) ∧ Hid (Own .i64 3 g wr vm (natL out)) ∧ Hid (Ext w wr)) (fun va vb _ _ => slLen va + slLen vb)
  case atStart => exact ⟨0, 0, aa, ba, na, nb, ac, bc, [], Nat.zero_add _, Nat.zero_add _, by have := HNA.out; have := HA.out.len; have := HLEN.out; omega, by have := HNB.out; have := HT.out.len; have := HLEN.out; omega, rfl, rfl, HAV, HBV, Merge.start _ _ _, O1, X1⟩
  case round =>
    clear O1 X1 hmk HAV HBV
    obtain ⟨i, j, pa, pb, la, lb, ca, cb, out, HI, HJ, hla, hlb, rfl, rfl, HAV, HBV, HM, HO, HE⟩ := hrel
    have HOL : Hid ((natL out).length + la + lb = C) := by
      show _ = _
      have h1 := HI.out
      have h2 := HJ.out
      have h3 := HNA.out
      have h4 := HNB.out
      have h5 := HC.out
      rw [natL_len, HM.out.len (by omega) (by omega)]
      omega
    have HSZ := hide' HE.out.size
    have fin : Hid (la = 0 ∨ lb = 0 → ∀ v w2, Own .i64 3 g w2 v (natL out ++ natL (A.drop i) ++ natL (T.drop j)) → Ext w w2 → ∃ u R, Ending.returned v = Ending.returned u ∧ InOrd s R ∧ Own .i64 3 g w2 u (natL R) ∧ Ext w w2) := fun h v w2 h1 h2 => by
      have h3 := HI.out
      have h4 := HJ.out
      have h5 := HNA.out
      have h6 := HNB.out
      obtain ⟨R, hR1, hR2⟩ : ∃ R, natL out ++ natL (A.drop i) ++ natL (T.drop j) = natL R ∧ InOrd s R := by
        refine ⟨out ++ A.drop i ++ T.drop j, by simp [natL], ?_⟩
        rcases h with h | h
        · have e1 : A.drop i = [] := List.drop_eq_nil_of_le (by omega)
          have hi : i = A.length := by omega
          subst hi
          rw [e1, List.append_nil]
          have hd := (Merge.rest_right HTR.out HA.out.ord HT.out.ord (T.length - j) HM.out (by omega))
          exact merge_ord HA.out HT.out hd.done.1 hd.done.2
        · have e1 : T.drop j = [] := List.drop_eq_nil_of_le (by omega)
          have hi : j = T.length := by omega
          subst hi
          rw [e1, List.append_nil]
          have hd := (Merge.rest_left HTR.out HA.out.ord HT.out.ord (A.length - i) HM.out (by omega))
          exact merge_ord HA.out HT.out hd.done.1 hd.done.2
      rw [hR1] at h1
      exact ⟨v, R, rfl, hR2, h1, h2⟩
    by_cases hz : la = 0 ∨ lb = 0
    · have HF := hide' (fin.out hz)
      have HLJ : Hid ((natL out).length + (natL (A.drop i)).length + (natL (T.drop j)).length ≤ 400000) := by
        show _ ≤ _
        have h1 := HOL.out
        have h2 := HI.out
        have h3 := HJ.out
        have h4 := HNA.out
        have h5 := HNB.out
        rw [natL_len (A.drop i), natL_len (T.drop j), List.length_drop, List.length_drop]
        omega
      have SA := hide' (HAV.out.ext HE.out)
      obtain ⟨XA, HXA⟩ : ∃ X, Hid (natL (A.drop i) = X) := ⟨_, rfl⟩
      obtain ⟨XB, HXB⟩ : ∃ X, Hid (natL (T.drop j) = X) := ⟨_, rfl⟩
      obtain ⟨XO, HXO⟩ : ∃ X, Hid (natL out = X) := ⟨_, rfl⟩
      rw [HXA.out] at SA HLJ HF
      rw [HXB.out] at HBV HLJ HF
      rw [HXO.out] at HO HLJ HF
      by_cases ha0 : la = 0
      · have d1 : decide ((0 : Int) < la) = false := by simp; omega
        have d2 : decide (0 < la) = false := by simp; omega
        clear ha0 hz
        go_wp2_with (at_builtin; refine wpList_join _ rfl _ _ 32 rfl 3 .i64 8 Tryz.underlying32 infoI64 g _ _ XO XA rfl rfl HO.out SA.out ?c3 ?c5 ?_)
        case c3 => have := HLJ.out; unfold maxLen; omega
        case c5 => have := HSZ.out; have := HGG.out; omega
        intro v1 w4 ho1 hb1
        have HO1 := hide' ho1
        have HE1 : Hid (Ext w w4) := by
          rw [← HGG.out] at hb1
          exact Below.trans HE.out hb1
        have SB := hide' (HBV.out.ext HE1.out)
        have HLJ2 : Hid ((XO ++ XA).length + XB.length ≤ 400000) := by show _ ≤ _; rw [List.length_append]; exact HLJ.out
        obtain ⟨XC, HXC⟩ : ∃ X, Hid (XO ++ XA = X) := ⟨_, rfl⟩
        rw [HXC.out] at HO1 HLJ2 HF
        clear ho1 hb1
        go_wp2_with (at_builtin; refine wpList_join _ rfl _ _ 32 rfl 3 .i64 8 Tryz.underlying32 infoI64 g _ _ XC XB rfl rfl HO1.out SB.out ?c6 ?c7 ?_)
        case c6 => have := HLJ2.out; unfold maxLen; omega
        case c7 => have := HE1.out.size; have := HGG.out; omega
        intro v2 w5 ho2 hb2
        have HO2 := hide' ho2
        have HE2 : Hid (Ext w w5) := by
          rw [← HGG.out] at hb2
          exact Below.trans HE1.out hb2
        clear ho2 hb2
        go_wp2
        go_ret
        exact HF.out _ _ HO2.out HE2.out
      · have hb0 : lb = 0 := by omega
        have ha1 : (0 : Int) < la := by omega
        have d1 : decide ((0 : Int) < lb) = false := by simp; omega
        have d2 : decide (0 < lb) = false := by simp; omega
        clear hb0 hz ha0
        go_wp2_with (at_builtin; refine wpList_join _ rfl _ _ 32 rfl 3 .i64 8 Tryz.underlying32 infoI64 g _ _ XO XA rfl rfl HO.out SA.out ?c3 ?c5 ?_)
        case c3 => have := HLJ.out; unfold maxLen; omega
        case c5 => have := HSZ.out; have := HGG.out; omega
        intro v1 w4 ho1 hb1
        have HO1 := hide' ho1
        have HE1 : Hid (Ext w w4) := by
          rw [← HGG.out] at hb1
          exact Below.trans HE.out hb1
        have SB := hide' (HBV.out.ext HE1.out)
        have HLJ2 : Hid ((XO ++ XA).length + XB.length ≤ 400000) := by show _ ≤ _; rw [List.length_append]; exact HLJ.out
        obtain ⟨XC, HXC⟩ : ∃ X, Hid (XO ++ XA = X) := ⟨_, rfl⟩
        rw [HXC.out] at HO1 HLJ2 HF
        clear ho1 hb1
        go_wp2_with (at_builtin; refine wpList_join _ rfl _ _ 32 rfl 3 .i64 8 Tryz.underlying32 infoI64 g _ _ XC XB rfl rfl HO1.out SB.out ?c6 ?c7 ?_)
        case c6 => have := HLJ2.out; unfold maxLen; omega
        case c7 => have := HE1.out.size; have := HGG.out; omega
        intro v2 w5 ho2 hb2
        have HO2 := hide' ho2
        have HE2 : Hid (Ext w w5) := by
          rw [← HGG.out] at hb2
          exact Below.trans HE1.out hb2
        clear ho2 hb2
        go_wp2
        go_ret
        exact HF.out _ _ HO2.out HE2.out
    · have ha1 : (0 : Int) < la := by omega
      have hb1 : (0 : Int) < lb := by omega
      have hiA : i < A.length := by have := HI.out; rw [HNA.out]; omega
      have hjT : j < T.length := by have := HJ.out; rw [HNB.out]; omega
      obtain ⟨_, _, _, ka⟩ := HAV.out.nat
      obtain ⟨_, _, _, kb⟩ := HBV.out.nat
      obtain ⟨g1, o1, rfl, ka1⟩ := ka (by omega)
      obtain ⟨g2, o2, rfl, kb1⟩ := kb (by omega)
      have c1 := HE.out.cellOf (ka1 0 (by omega))
      have c2 := HE.out.cellOf (kb1 0 (by omega))
      rw [show (A.drop i).getD 0 0 = A.getD i 0 by simp [List.getD], Nat.add_zero] at c1
      rw [show (T.drop j).getD 0 0 = T.getD j 0 by simp [List.getD], Nat.add_zero] at c2
      have hma := (HA.out.mem _).1 (getN_mem hiA)
      have hmb := (HT.out.mem _).1 (getN_mem hjT)
      have HCO : Hid (Comp s.length (A.getD i 0) (T.getD j 0)) := ⟨by omega, by omega, by omega, .inl ⟨hmb.2, hma.2⟩⟩
      have HW : Hid (∀ m, Calls Tryz.prog 110 #[sv, rv, .int .i64 ((A.getD i 0 : Nat) : Int), .int .i64 ((T.getD j 0 : Nat) : Int)] (wr.drewN m) fun e w' => e = .returned (.bool (ltB s (A.getD i 0) (T.getD j 0))) ∧ ∃ k, w' = (wr.drewN m).drewN k) := fun m => less_any _ _ s r G _ _ _ ((HS.out.ext HE.out).drewN m) ((HRV.out.ext HE.out).drewN m) HNN.out HR.out HG.out HCO.out HLEN.out
      have HXA := hide' (fun h => HM.out.left HTR.out HA.out.ord HT.out.ord hiA h)
      have HXB := hide' (fun h => HM.out.right HTR.out HA.out.ord HT.out.ord hjT h)
      have HNE : Hid (A.getD i 0 ≠ T.getD j 0 ∧ A.getD i 0 ≤ s.length ∧ T.getD j 0 ≤ s.length) := ⟨HCO.out.2.2.1, HCO.out.1, HCO.out.2.1⟩
      obtain ⟨x, HX⟩ : ∃ x, Hid (A.getD i 0 = x) := ⟨_, rfl⟩
      obtain ⟨y, HY⟩ : ∃ x, Hid (T.getD j 0 = x) := ⟨_, rfl⟩
      rw [HX.out] at c1 HW HXA HXB HNE
      rw [HY.out] at c2 HW HXA HXB HNE
      obtain ⟨da, ra, sa, _⟩ := HAV.out.runDrop (P := Tryz.prog) 32 3 Tryz.underlying32 sizeI64 1 (by rw [natL_len, List.length_drop]; omega)
      obtain ⟨db, rb, sb, _⟩ := HBV.out.runDrop (P := Tryz.prog) 32 3 Tryz.underlying32 sizeI64 1 (by rw [natL_len, List.length_drop]; omega)
      rw [← natL_drop, List.drop_drop] at sa sb
      have SA := hide' sa
      have SB := hide' sb
      obtain ⟨la2, HLA⟩ : ∃ n, Hid (la - 1 = n) := ⟨_, rfl⟩
      obtain ⟨lb2, HLB⟩ : ∃ n, Hid (lb - 1 = n) := ⟨_, rfl⟩
      obtain ⟨ca2, HCA⟩ : ∃ n, Hid (ca - 1 = n) := ⟨_, rfl⟩
      obtain ⟨cb2, HCB⟩ : ∃ n, Hid (cb - 1 = n) := ⟨_, rfl⟩
      have hla2 : la2 < la := by rw [← HLA.out]; omega
      have hlb2 : lb2 < lb := by rw [← HLB.out]; omega
      have HI2 : Hid (i + 1 + la2 = na) := by show _ = _; rw [← HLA.out, ← HI.out]; omega
      have HJ2 : Hid (j + 1 + lb2 = nb) := by show _ = _; rw [← HLB.out, ← HJ.out]; omega
      rw [HLA.out, HCA.out] at ra SA
      rw [HLB.out, HCB.out] at rb SB
      have ra1 : ∀ W, (Instr.slice 32 (.slice (some ⟨g1, o1, none⟩) la ca) (some (.int .i64 1)) none none).run Tryz.prog W = .ok (.slice da la2 ca2) W := ra
      have rb1 : ∀ W, (Instr.slice 32 (.slice (some ⟨g2, o2, none⟩) lb cb) (some (.int .i64 1)) none none).run Tryz.prog W = .ok (.slice db lb2 cb2) W := rb
      clear ra rb
      have HL1 : Hid (((natL out).length + 1) * 8 ≤ 140737488355328 ∧ (natL out).length + 1 ≤ maxLen) := by
        have h1 := HOL.out
        show _ ∧ _
        unfold maxLen
        omega
      clear ka1 kb1 hma hmb hiA hjT sa sb fin
      cases hD : ltB s x y
      · rw [hD] at HW
        have H1 := hide' (HXB.out fun _ => ltE_total HNE.out.2.1 HNE.out.2.2 HNE.out.1 (fun g => by rw [ltB_iff.2 g] at hD; cases hD))
        clear hD HXA HXB
        go_wp2_with fail
        go_quiet ((go_at_call 110; exact Calls.quiet_of (HW.out _)))
        have HOW := hide' (HO.out.ext (Ext.drewN wr nq))
        have HEW := hide' (HE.out.trans (Ext.drewN wr nq))
        have c1' := (Ext.drewN wr nq).cellOf c2
        generalize wr.drewN nq = W at *
        have HOD : Hid (Own .i64 3 g W.drew u9 (natL out)) := HOW.out.ext (Ext.drewN W 1)
        obtain ⟨v1, w4, hrun, ho1, hb2⟩ := run_snoc (P := Tryz.prog) (k := .i64) W.drew 32 32 3 8 Tryz.underlying32 infoI64 g u9 (natL out) (y : Int) HOD.out HL1.out (by have := HEW.out.size; have := HGG.out; show g ≤ W.heap.size; omega)
        have HRUN := hide' hrun
        have HO1 : Hid (Own .i64 3 g w4 v1 (natL (out ++ [y]))) := by rw [← natL_snoc]; exact ho1
        have HE1 : Hid (Ext w w4) := by
          have hb3 := hb2
          rw [← HGG.out] at hb3
          exact Below.trans (HEW.out.trans (Ext.drewN W 1)) hb3
        clear ho1 hb2 hrun HO HE c1 c2 HW
        go_wp2_with fail
        go_region_law (refine step_append_run _ _ v1 32 rfl (.tmp 41) (.tmp 45) 32 rfl rfl (by simp [Act.eval, Act.put]) (by simp [Act.eval, Act.put]) HRUN.out ?_)
        simp only [List.getElem_toArray, List.getElem_cons_succ, List.getElem_cons_zero, Act.put, List.setIfInBounds_toArray, List.set_cons_succ, List.set_cons_zero]
        go_wp2
        go_roundw
        case rel => exact ⟨i, j + 1, _, db, la, lb2, ca, cb2, out ++ [y], HI, HJ2, hla, by omega, rfl, rfl, HAV, SB, H1, HO1, HE1⟩
        case measure => simp only [slLen_eq]; omega
      · rw [hD] at HW
        have H1 := hide' (HXA.out fun _ => ltB_iff.1 hD)
        clear hD HXA HXB
        go_wp2_with fail
        go_quiet ((go_at_call 110; exact Calls.quiet_of (HW.out _)))
        have HOW := hide' (HO.out.ext (Ext.drewN wr nq))
        have HEW := hide' (HE.out.trans (Ext.drewN wr nq))
        have c1' := (Ext.drewN wr nq).cellOf c1
        generalize wr.drewN nq = W at *
        have HOD : Hid (Own .i64 3 g W.drew u9 (natL out)) := HOW.out.ext (Ext.drewN W 1)
        obtain ⟨v1, w4, hrun, ho1, hb2⟩ := run_snoc (P := Tryz.prog) (k := .i64) W.drew 32 32 3 8 Tryz.underlying32 infoI64 g u9 (natL out) (x : Int) HOD.out HL1.out (by have := HEW.out.size; have := HGG.out; show g ≤ W.heap.size; omega)
        have HRUN := hide' hrun
        have HO1 : Hid (Own .i64 3 g w4 v1 (natL (out ++ [x]))) := by rw [← natL_snoc]; exact ho1
        have HE1 : Hid (Ext w w4) := by
          have hb3 := hb2
          rw [← HGG.out] at hb3
          exact Below.trans (HEW.out.trans (Ext.drewN W 1)) hb3
        clear ho1 hb2 hrun HO HE c1 c2 HW
        go_wp2_with fail
        go_region_law (refine step_append_run _ _ v1 32 rfl (.tmp 33) (.tmp 37) 32 rfl rfl (by simp [Act.eval, Act.put]) (by simp [Act.eval, Act.put]) HRUN.out ?_)
        simp only [List.getElem_toArray, List.getElem_cons_succ, List.getElem_cons_zero, Act.put, List.setIfInBounds_toArray, List.set_cons_succ, List.set_cons_zero]
        go_wp2
        go_roundw
        case rel => exact ⟨i + 1, j, da, _, la2, lb, ca2, cb, out ++ [x], HI2, HJ, by omega, hlb, rfl, rfl, SA, HBV, H1, HO1, HE1⟩
        case measure => simp only [slLen_eq]; omega
end Go.Proofs.YtlmbdafilboblaaGreat

/- Contracts of skew.order and sampleInOrder: endings in order, by induction on how many numbers there are. -/
namespace Go.Proofs.YtlmbdafilboblaaGreat
set_option linter.unusedVariables false
set_option linter.unusedSimpArgs false
open Go.RowKit

/-- A row as far as it is laid. -/
structure HalfP (f : Nat → Nat) (Q : List Nat) (i : Nat) (r : List Nat) : Prop where
  len : r.length = Q.length
  at' : ∀ t, t < i → r.getD t 0 = f (Q.getD t 0)
theorem HalfP.start {f : Nat → Nat} {Q r : List Nat} (h : r.length = Q.length) : HalfP f Q 0 r := ⟨h, fun t h => by omega⟩
theorem HalfP.next {f : Nat → Nat} {Q r : List Nat} {i : Nat} (h : HalfP f Q i r) (hi : i < Q.length) : HalfP f Q (i + 1) (r.set i (f (Q.getD i 0))) := by
  refine ⟨by rw [List.length_set]; exact h.len, fun t ht => ?_⟩
  by_cases e : t = i
  · subst e
    rw [set_same (by rw [h.len]; exact hi)]
  · rw [set_other (by omega)]
    exact h.at' t (by omega)
theorem HalfP.done {f : Nat → Nat} {Q r : List Nat} (h : HalfP f Q Q.length r) : r = Q.map f :=
  natL_ext (by rw [h.len, List.length_map]) fun i hi => by
    rw [h.len] at hi
    rw [h.at' i hi]
    simp [List.getD, hi]

/-- What order answers, of fewer than n numbers. -/
def OrderT (n : Nat) : Prop := ∀ (sv : Value) (s : List Int) (k : Nat) (w : World), s.length < n → Sl .i64 w sv (tailI s) → NonNeg s → fitB (tailI s) (k : Int) = true → s.length ≤ 200000 →
  Calls Tryz.prog 91 #[sv, .int .i64 (k : Int)] w fun e w' => ∃ u R, e = .returned u ∧ InOrd s R ∧ Own .i64 3 w.heap.size w' u (natL R) ∧ Ext w w'

set_option maxHeartbeats 2000000 in
theorem sampleInOrder_any {N : Nat} (IH : Hid (OrderT N)) (sv : Value) (s : List Int) (k : Nat) (w : World) (hsn : s.length ≤ N) (hs : Sl .i64 w sv (tailI s)) (hnn : NonNeg s) (hfit : fitB (tailI s) (k : Int) = true) (hlen : s.length ≤ 200000) :
    Calls Tryz.prog 96 #[sv, .int .i64 (k : Int)] w fun e w' => ∃ u G, e = .returned u ∧ InSamp s G ∧ Own .i64 3 w.heap.size w' u (natL G) ∧ Ext w w' := by
  have HV := hide' hs
  have HLEN := hide' hlen
  have HFIT := hide' hfit
  have HNN := hide' hnn
  have HSN := hide' hsn
  obtain ⟨va, vc, hve, _⟩ := id hs
  subst hve
  have HTL := hide' (tailI_len s)
  rw [HTL.out] at HV ⊢
  have hml := sampM_le s.length
  have HML := hide' hml
  have C1 := hide' (sampleOf_any s.length w (by omega))
  have HSM : Hid (∀ p ∈ samp s.length, p ≤ s.length) := fun p hp => by have := samp_mem.1 hp; omega
  have HSL := hide' (samp_len s.length)
  have HSA : Hid (∀ i, i < sampM s.length → (samp s.length).getD i 0 = sampAt (sampA s.length) i) := fun i hi => samp_at hi
  obtain ⟨n, HN⟩ : ∃ n, Hid (s.length = n) := ⟨_, rfl⟩
  rw [HN.out] at HV hlen hml C1 ⊢
  have hL3 : ((n + 3 : Nat) : Int) - 3 = (n : Int) := by omega
  obtain ⟨L, HL⟩ : ∃ L, Hid (n + 3 = L) := ⟨_, rfl⟩
  have hL : L ≤ 200003 := by rw [← HL.out]; omega
  rw [HL.out] at HV hL3 ⊢
  clear hs hnn hfit hsn
  go_enter Tryz.func96, Tryz.ntmps96
  go_wp2_with fail
  refine C1.out.mono ?_
  rintro e w1 ⟨fv, rfl, ho, he⟩
  rw [← HN.out] at ho
  have SF := hide' ho.sl
  have X1 := hide' he
  have hz1 := he.size
  clear ho he C1
  have C2 := hide' (byTriples_any _ fv s (samp s.length) k w1 (HV.out.ext X1.out) SF.out HNN.out HFIT.out HSM.out HLEN.out (by rw [HSL.out]; have := HML.out; have := HLEN.out; omega))
  go_wp2_with fail
  refine C2.out.mono ?_
  rintro e w2 ⟨pv, G, rfl, hG1, hG2, ho, he⟩
  have HG1 := hide' hG1
  have HG2 := hide' hG2
  have OP := hide' ho
  have SP := hide' ho.sl
  have X2 := hide' he
  have XX2 := hide' (X1.out.trans he)
  have hz2 := he.size
  have SF2 := hide' (SF.out.ext he)
  clear ho he C2 hG1 hG2
  have C3 := hide' (nameT_any _ fv pv s G w2 (HV.out.ext XX2.out) SF2.out SP.out HG1.out HLEN.out)
  go_wp2_with fail
  refine C3.out.mono ?_
  rintro e w3 ⟨nv, A, c, rfl, hA, ho, he⟩
  have HA := hide' hA
  have SN := hide' ho.sl
  have X3 := hide' he
  have XX3 := hide' (XX2.out.trans he)
  have hz3 := he.size
  have OP3 := hide' (OP.out.ext he)
  clear ho he C3 hA OP SP
  obtain ⟨fa, fc, hfe, _⟩ := SF.out
  subst hfe
  rw [natL_len, HSL.out] at SF ⊢
  have hGl : G.length = sampM s.length := by rw [HG1.out.length_eq, HSL.out]
  have hcl : c ≤ sampM s.length := by have := HA.out.le; rw [hGl] at this; exact this
  have HGL := hide' hGl
  rw [HN.out] at HSL SF HSA hcl HGL hGl ⊢
  obtain ⟨m, HM⟩ : ∃ m, Hid (sampM n = m) := ⟨_, rfl⟩
  rw [HM.out] at HSL SF HSA hml hcl HGL hGl ⊢
  by_cases hc : c = m
  · have HIS : Hid (InSamp s G) := HA.out.apart HNN.out HG1.out HG2.out (by rw [HGL.out, hc]; exact Nat.le_refl _)
    have d1 : ((c : Int) == (m : Int)) = true := by simp; omega
    clear hc hGl
    go_wp2
    go_ret
    exact ⟨_, G, rfl, HIS.out, OP3.out.low hz1, XX3.out⟩
  · have d1 : ((c : Int) == (m : Int)) = false := by simp; omega
    have hm2 : 2 ≤ m := by
      by_cases h0 : G.length = 0
      · have := HA.out.zero h0
        omega
      · have := HA.out.count (G.length - 1) (by omega)
        omega
    have hfit := HA.out.fit HG1.out (by omega)
    have HFT : Hid (fitB (tailI (namI s.length A)) ((c + 1 : Nat) : Int) = true) := by
      show _ = _
      have := hfit.1
      rw [show ((c + 1 : Nat) : Int) = (c : Int) + 1 by omega]
      exact this
    have HNL : Hid ((namI s.length A).length = m) := by show _ = _; rw [namI_len, HN.out, HM.out]
    have hmn : m < n := by
      have := sampM_lt (n := n) (by omega)
      rw [HM.out] at this
      exact this
    have CO := hide' (IH.out nv (namI s.length A) (c + 1) w3 (by rw [HNL.out]; have := HSN.out; have := HN.out; omega) SN.out hfit.2 HFT.out (by rw [HNL.out]; omega))
    have e1 : ((c + 1 : Nat) : Int) = (c : Int) + 1 := by omega
    rw [e1] at CO
    clear hc hGl hfit SN
    go_wp2_with fail
    refine CO.out.mono ?_
    rintro e w4 ⟨qv, R, rfl, hR, ho, he⟩
    have HIS := hide' (HA.out.back HNN.out HG1.out HG2.out hR)
    have HRL : Hid (R.length = m) := by show _ = _; rw [hR.len, HNL.out]
    have HRM : Hid (∀ i, i < m → R.getD i 0 < m) := fun i hi => by have := hR.mem (i := i) (by rw [HNL.out]; exact hi); rw [HNL.out] at this; exact this
    have OQ := hide' ho
    have X4 := hide' he
    have XX4 := hide' (XX3.out.trans he)
    have hz4 := he.size
    have OP4 := hide' (OP3.out.ext he)
    have HPL : Hid (∀ g, pv.ownBlock = some g → g < w3.heap.size) := fun g hg => (World.ownsRow.lt OP3.out g hg).2
    clear ho he hR CO OP3
    obtain ⟨gq, cq, hq1, hq2, _, _⟩ := OQ.out.shape (fun e => by have := congrArg List.length e; rw [natL_len, HRL.out] at this; simp at this; omega)
    rw [natL_len, HRL.out] at hq1
    subst hq1
    obtain ⟨gp, cp, hp1, hp2, _, _⟩ := OP4.out.shape (fun e => by have := congrArg List.length e; rw [natL_len, HGL.out] at this; simp at this; omega)
    rw [natL_len, HGL.out] at hp1
    subst hp1
    have hne : gq ≠ gp := by
      have := HPL.out gp rfl
      omega
    obtain ⟨_, _, _, hcf⟩ := SF.out.nat
    obtain ⟨g1, o1, hf1, kf⟩ := hcf (by omega)
    subst hf1
    have KF : Hid (∀ i, i < m → w1.cell? ⟨g1, o1 + i, none⟩ = some (.int .i64 ((sampAt (sampA n) i : Nat) : Int))) := fun i hi => by
      have := kf i hi
      rw [HSA.out i hi] at this
      exact this
    obtain ⟨f, HFF⟩ : ∃ f, Hid (f = sampAt (sampA n)) := ⟨_, rfl⟩
    have H0 : Hid (HalfP f R 0 G) := HalfP.start (by rw [HGL.out, HRL.out])
    have B0 : Hid (But gp w4 w4) := But.refl _ _
    have E0 : Hid (Ext w1 w4) := (X2.out.trans X3.out).trans X4.out
    rw [HN.out] at HIS
    clear kf hcf SF SF2 HPL
    go_wp2
    go_loopw [36] (fun vi wr => ∃ (i : Nat) (r : List Nat), i ≤ m ∧ vi = .int .i64 i ∧ Hid (HalfP f R i r) ∧ Hid (Own .i64 3 w1.heap.size wr (.slice (some ⟨gp, 0, none⟩) m cp) (natL r)) ∧ Hid (But gp w4 wr) ∧ Hid (Ext w1 wr)) (fun vi _ => m - (intOf vi).toNat)
    case atStart => exact ⟨0, G, Nat.zero_le _, rfl, H0, OP4, B0, E0⟩
    case round =>
      clear H0 OP4 B0 E0
      obtain ⟨i, r, hi, rfl, HH, HO, HB, HE⟩ := hrel
      have HRN : Hid (r.length = m) := by show _ = _; rw [HH.out.len, HRL.out]
      by_cases hlt : i < m
      · have hlt' : (i : Int) < m := by omega
        have H1 := hide' (HH.out.next (by rw [HRL.out]; exact hlt))
        have OQ1 := hide' (OQ.out.keep hne HB.out)
        have c1 := OQ1.out.intCell HRL.out i hlt
        have hq := HRM.out i hlt
        have c2 := HE.out.cellOf (KF.out (R.getD i 0) hq)
        have HFI : Hid (f (R.getD i 0) = sampAt (sampA n) (R.getD i 0)) := by show _ = _; rw [HFF.out]
        rw [HFI.out] at H1
        obtain ⟨q, HQ⟩ : ∃ q, Hid (R.getD i 0 = q) := ⟨_, rfl⟩
        rw [HQ.out] at c1 c2 hq H1
        obtain ⟨x, HX⟩ : ∃ x, Hid (sampAt (sampA n) q = x) := ⟨_, rfl⟩
        rw [HX.out] at c2 H1
        have hq' : (q : Int) < m := by omega
        have c3 := HO.out.intCell HRN.out i hlt
        have z3 := HO.out.frozen (by rw [natL_len]; exact HRN.out) i
        have O6 := hide' (HO.out.storeN HRN.out i x)
        have X6 : Hid (Ext w1 (wr.setCell ⟨gp, i, none⟩ (.int .i64 (x : Int)))) := Ext.but HE.out hp2 (but_set _ _ _ _)
        have B6 : Hid (But gp w4 (wr.setCell ⟨gp, i, none⟩ (.int .i64 (x : Int)))) := HB.out.setCell _ _
        clear HO HE HH HB OQ1
        go_wp2
        go_roundw
        case rel => exact ⟨i + 1, _, by omega, by go_num, H1, O6, B6, X6⟩
        case measure => simp [intOf] <;> omega
      · have d2 : decide ((i : Int) < m) = false := by simp; omega
        have hin : m = i := by omega
        have HD : Hid (r = R.map (sampAt (sampA n))) := by
          show _ = _
          have := HH.out
          rw [← hin, ← HRL.out] at this
          rw [this.done, HFF.out]
        go_wp2
        go_ret
        refine ⟨_, r, rfl, by rw [HD.out]; exact HIS.out, HO.out.low hz1, X1.out.trans HE.out⟩

set_option maxHeartbeats 2000000 in
theorem orderT_any : ∀ n, OrderT n := by
  intro n
  induction n with
  | zero => intro sv s k w h; omega
  | succ n ih =>
    intro sv s k w hn hs hnn hfit hlen
    have IH := hide' ih
    have HV := hide' hs
    have HLEN := hide' hlen
    have HFIT := hide' hfit
    have HNN := hide' hnn
    have C1 := hide' (sampleInOrder_any IH sv s k w (by omega) hs hnn hfit hlen)
    obtain ⟨va, vc, hve, _⟩ := id hs
    subst hve
    have HTL := hide' (tailI_len s)
    rw [HTL.out] at HV C1 ⊢
    obtain ⟨L, HL⟩ : ∃ L, Hid (s.length + 3 = L) := ⟨_, rfl⟩
    have hL : L ≤ 200003 := by rw [← HL.out]; omega
    have hL3 : (L : Int) - 3 = (s.length : Int) := by rw [← HL.out]; omega
    rw [HL.out] at HV C1 ⊢
    clear hs hnn hfit hn
    go_enter Tryz.func91, Tryz.ntmps91
    go_wp2_with fail
    refine C1.out.mono ?_
    rintro e w1 ⟨pv, G, rfl, hG, ho, he⟩
    have HG := hide' hG
    have SP := hide' ho.sl
    have X1 := hide' he
    have hz1 := he.size
    clear hG ho he C1
    have C2 := hide' (rest_any _ pv s G k w1 (HV.out.ext X1.out) SP.out HNN.out HFIT.out HG.out HLEN.out)
    go_wp2_with fail
    refine C2.out.mono ?_
    rintro e w2 ⟨tv, T, rfl, hT, ho, he⟩
    have HT := hide' hT
    have ST := hide' ho.sl
    have X2 := hide' (X1.out.trans he)
    have SP2 := hide' (SP.out.ext he)
    clear hT ho he C2 SP
    have C3 := hide' (ranks_any pv s G w2 SP2.out HG.out HLEN.out)
    rw [HL.out] at C3
    go_wp2_with fail
    refine C3.out.mono ?_
    rintro e w3 ⟨rv, r, rfl, hr, ho, he⟩
    have HR := hide' hr
    have SR := hide' ho.sl
    have X3 := hide' (X2.out.trans he)
    have SP3 := hide' (SP2.out.ext he)
    have ST3 := hide' (ST.out.ext he)
    have hz3 := X3.out.size
    clear hr ho he C3 SP2 ST
    rw [← HL.out] at HR
    obtain ⟨pa, pc, hpe, _⟩ := SP3.out
    subst hpe
    rw [natL_len] at SP3 ⊢
    obtain ⟨_, _, _, hcp⟩ := SP3.out.nat
    have hgl : G.length ≤ 200000 := by rw [HG.out.len]; have := sampM_le s.length; omega
    obtain ⟨m, HM⟩ : ∃ m, Hid (G.length = m) := ⟨_, rfl⟩
    rw [HM.out] at hcp hgl SP3 ⊢
    by_cases h0 : m = 0
    · have HA : Hid (InTwo s G) := twoT_all HG.out (fun h => by rw [HM.out] at h; omega)
      have d1 : decide ((0 : Int) < m) = false := by simp; omega
      have d2 : decide (0 < m) = false := by simp; omega
      have C4 := hide' (merge_any _ rv _ tv s r G G T w3 (HV.out.ext X3.out) SR.out SP3.out ST3.out HNN.out HR.out HG.out HA.out HT.out HLEN.out)
      clear hcp h0
      go_wp2_with fail
      refine C4.out.mono ?_
      rintro e w4 ⟨u, R, rfl, hR, ho, he⟩
      have HRR := hide' hR
      have O4 := hide' (ho.low hz3)
      have X4 := hide' (X3.out.trans he)
      clear hR ho he C4
      go_wp2
      go_ret
      exact ⟨_, R, rfl, HRR.out, O4.out, X4.out⟩
    · have hm0 : (0 : Int) < m := by omega
      have hm1 : 0 < m := by omega
      obtain ⟨g1, o1, rfl, k1⟩ := hcp hm1
      have c1 := k1 0 hm1
      rw [Nat.add_zero] at c1
      by_cases he : G.getD 0 0 = s.length
      · have HA : Hid (InTwo s (G.drop 1)) := two_drop HG.out (by rw [HM.out]; exact hm1) he
        rw [he] at c1
        obtain ⟨da, ra, sa, _⟩ := SP3.out.runDrop (P := Tryz.prog) 32 3 Tryz.underlying32 sizeI64 1 (by rw [natL_len, HM.out]; exact hm1)
        rw [← natL_drop] at sa
        have ra1 : ∀ W, (Instr.slice 32 (.slice (some ⟨g1, o1, none⟩) m pc) (some (.int .i64 1)) none none).run Tryz.prog W = .ok (.slice da (m - 1) (pc - 1)) W := ra
        have C4 := hide' (merge_any _ rv _ tv s r G (G.drop 1) T w3 (HV.out.ext X3.out) SR.out sa ST3.out HNN.out HR.out HG.out HA.out HT.out HLEN.out)
        generalize m - 1 = m1 at *
        generalize pc - 1 = pc1 at *
        clear k1 h0 he sa ra
        go_wp2_with fail
        refine C4.out.mono ?_
        rintro e w4 ⟨u, R, rfl, hR, ho, he⟩
        have HRR := hide' hR
        have O4 := hide' (ho.low hz3)
        have X4 := hide' (X3.out.trans he)
        clear hR ho he C4
        go_wp2
        go_ret
        exact ⟨_, R, rfl, HRR.out, O4.out, X4.out⟩
      · have HA : Hid (InTwo s G) := twoT_all HG.out (fun h => he h.2)
        have C4 := hide' (merge_any _ rv _ tv s r G G T w3 (HV.out.ext X3.out) SR.out SP3.out ST3.out HNN.out HR.out HG.out HA.out HT.out HLEN.out)
        obtain ⟨p, HP⟩ : ∃ p, Hid (G.getD 0 0 = p) := ⟨_, rfl⟩
        rw [HP.out] at c1 he
        have d3 : ((p : Int) == (s.length : Int)) = false := by simp; omega
        clear k1 h0 he
        go_wp2_with fail
        refine C4.out.mono ?_
        rintro e w4 ⟨u, R, rfl, hR, ho, he⟩
        have HRR := hide' hR
        have O4 := hide' (ho.low hz3)
        have X4 := hide' (X3.out.trans he)
        clear hR ho he C4
        go_wp2
        go_ret
        exact ⟨_, R, rfl, HRR.out, O4.out, X4.out⟩
end Go.Proofs.YtlmbdafilboblaaGreat

/- Numbers closed up: each kind that is there by a number of its own, from 1 on, in the same order. Plain numbers, no conditions. -/
namespace Go.Proofs.YtlmbdafilboblaaGreat
set_option linter.unusedVariables false
set_option linter.unusedSimpArgs false

/-- How many numbers below q are there. -/
def kdN (s : List Int) : Nat → Nat
  | 0 => 0
  | q + 1 => kdN s q + if 0 < cntI s q s.length then 1 else 0
theorem kdN_yes {s : List Int} {q : Nat} (h : 0 < cntI s q s.length) : kdN s (q + 1) = kdN s q + 1 := by
  show kdN s q + _ = _
  rw [if_pos h]
theorem kdN_no {s : List Int} {q : Nat} (h : ¬ 0 < cntI s q s.length) : kdN s (q + 1) = kdN s q := by
  show kdN s q + _ = _
  rw [if_neg h]
  rfl
theorem kdN_mono (s : List Int) (q : Nat) : ∀ d, kdN s q ≤ kdN s (q + d) := by
  intro d
  induction d with
  | zero => exact Nat.le_refl _
  | succ d ih =>
    refine Nat.le_trans ih ?_
    show _ ≤ kdN s (q + d) + _
    omega
theorem cntI_mono (s : List Int) (q i : Nat) : ∀ d, cntI s q i ≤ cntI s q (i + d) := by
  intro d
  induction d with
  | zero => exact Nat.le_refl _
  | succ d ih =>
    refine Nat.le_trans ih ?_
    rw [← Nat.add_assoc, cntI_succ]
    omega
theorem cntI_pos {s : List Int} {i q : Nat} (hi : i < s.length) (h : s.getD i 0 = (q : Int)) : 0 < cntI s q s.length := by
  have h1 := cntI_same h
  have h2 := cntI_mono s q (i + 1) (s.length - (i + 1))
  rw [show i + 1 + (s.length - (i + 1)) = s.length by omega] at h2
  omega
theorem kdN_le {s : List Int} {K : Nat} (hg : goodI (K : Int) s = true) : kdN s K ≤ s.length := by
  have hz : ∀ j, j < (List.range s.length).length → s.getD j 0 = ((s.getD ((List.range s.length).getD j 0) 0).toNat : Int) := fun j hj => by
    rw [List.length_range] at hj
    rw [rangeN_at hj]
    have := goodI_at hg hj
    omega
  have h1 : ∀ q, q ≤ K → kdN s q ≤ offs (List.range s.length) (fun p => (s.getD p 0).toNat) q := by
    intro q
    induction q with
    | zero => intro _; exact Nat.zero_le _
    | succ q ih =>
      intro hq
      have h2 := cntI_pick (ps := List.range s.length) (key := fun p => (s.getD p 0).toNat) (zs := s) hz q s.length (by rw [List.length_range]; exact Nat.le_refl _)
      rw [List.take_of_length_le (by rw [List.length_range]; exact Nat.le_refl _)] at h2
      rw [offs_succ, ← h2]
      have h3 := ih (by omega)
      show kdN s q + _ ≤ _
      split <;> omega
  have h2 := h1 K (Nat.le_refl _)
  rw [csort_len (fun p hp => by
    have := goodI_at hg (List.mem_range.1 hp)
    show (s.getD p 0).toNat < K
    omega), List.length_range] at h2
  exact h2
/-- Closed up, from 0 on. -/
def clI (s : List Int) : List Int := s.map fun z => (kdN s z.toNat : Int)
theorem clI_len (s : List Int) : (clI s).length = s.length := List.length_map _
theorem clI_at {s : List Int} {i : Nat} (h : i < s.length) : (clI s).getD i 0 = (kdN s (s.getD i 0).toNat : Int) := by simp [clI, List.getD, h]
theorem clI_nonneg (s : List Int) : NonNeg (clI s) := fun i hi => by
  rw [clI_len] at hi
  rw [clI_at hi]
  omega
theorem kdN_lt {s : List Int} {K : Nat} (hg : goodI (K : Int) s = true) {i : Nat} (hi : i < s.length) : kdN s (s.getD i 0).toNat < kdN s K := by
  have h1 := goodI_at hg hi
  have h2 := kdN_yes (s := s) (q := (s.getD i 0).toNat) (cntI_pos hi (by omega))
  have h3 := kdN_mono s ((s.getD i 0).toNat + 1) (K - ((s.getD i 0).toNat + 1))
  rw [show (s.getD i 0).toNat + 1 + (K - ((s.getD i 0).toNat + 1)) = K by omega] at h3
  omega
theorem clI_fit {s : List Int} {K : Nat} (hg : goodI (K : Int) s = true) (hl : s.length ≤ 1000000) : fitB (tailI (clI s)) ((kdN s K : Int) + 1) = true := by
  have h1 := kdN_le hg
  refine fitB_iff.2 ⟨by omega, by omega, goodI_of fun j hj => ?_⟩
  rw [tailI_at]
  by_cases e : j < s.length
  · rw [padI_in (by rw [clI_len]; exact e), clI_at e]
    have := kdN_lt hg e
    omega
  · rw [padI_out (by rw [clI_len]; omega)]
    omega
theorem cmpI_mapOn {f : Int → Int} {P : Int → Prop} (hf : ∀ x y, P x → P y → x < y → f x < f y) : ∀ (x y : List Int), (∀ z ∈ x, P z) → (∀ z ∈ y, P z) → cmpI (x.map f) (y.map f) = cmpI x y
  | [], [], _, _ => rfl
  | [], _ :: _, _, _ => rfl
  | _ :: _, [], _, _ => rfl
  | a :: x, b :: y, hx, hy => by
    have pa := hx a (List.mem_cons_self ..)
    have pb := hy b (List.mem_cons_self ..)
    rw [List.map_cons, List.map_cons, cmpI, cmpI, cmpI_mapOn hf x y (fun z hz => hx z (List.mem_cons_of_mem _ hz)) (fun z hz => hy z (List.mem_cons_of_mem _ hz))]
    rcases Int.lt_trichotomy a b with h | h | h
    · rw [if_pos h, if_pos (hf _ _ pa pb h)]
    · subst h
      rw [if_neg (by omega), if_neg (by omega), if_neg (by omega), if_neg (by omega)]
    · have := hf _ _ pb pa h
      rw [if_neg (by omega), if_pos this, if_neg (by omega), if_pos h]
theorem clI_ord {s : List Int} {K : Nat} (hg : goodI (K : Int) s = true) {R : List Nat} (h : InOrd (clI s) R) : InOrd s R := by
  refine ⟨by have := h.1; rw [clI_len] at this; exact this, h.2.imp fun {a b} hab => ?_⟩
  have hf : ∀ x y : Int, x ∈ s → y ∈ s → x < y → (kdN s x.toNat : Int) < (kdN s y.toNat : Int) := fun x y hx hy hxy => by
    obtain ⟨i, hi, rfl⟩ := mem_getI hx
    obtain ⟨j, hj, rfl⟩ := mem_getI hy
    have h1 := goodI_at hg hi
    have h2 := kdN_yes (s := s) (q := (s.getD i 0).toNat) (cntI_pos hi (by omega))
    have h3 := kdN_mono s ((s.getD i 0).toNat + 1) ((s.getD j 0).toNat - ((s.getD i 0).toNat + 1))
    rw [show (s.getD i 0).toNat + 1 + ((s.getD j 0).toNat - ((s.getD i 0).toNat + 1)) = (s.getD j 0).toNat by omega] at h3
    omega
  unfold ltE at *
  unfold clI at hab
  rw [← List.map_drop, ← List.map_drop, cmpI_mapOn (P := fun z => z ∈ s) hf _ _ (fun z hz => List.mem_of_mem_drop hz) (fun z hz => List.mem_of_mem_drop hz)] at hab
  exact hab
/-- Numbers by kind, as far as kind i. -/
structure KindT (s : List Int) (K i : Nat) (A : List Nat) : Prop where
  len : A.length = K
  yes : ∀ q, q < i → 0 < cntI s q s.length → A.getD q 0 = kdN s q + 1
theorem KindT.start (s : List Int) (K : Nat) : KindT s K 0 (List.replicate K 0) := ⟨List.length_replicate, fun q h => by omega⟩
theorem KindT.put {s : List Int} {K i : Nat} {A : List Nat} (h : KindT s K i A) (hi : i < K) : KindT s K (i + 1) (A.set i (kdN s i + 1)) := by
  refine ⟨by rw [List.length_set]; exact h.len, fun q hq hc => ?_⟩
  by_cases e : q = i
  · subst e
    rw [set_same (by rw [h.len]; exact hi)]
  · rw [set_other (by omega)]
    exact h.yes q (by omega) hc
theorem KindT.skip {s : List Int} {K i : Nat} {A : List Nat} (h : KindT s K i A) (hc : ¬ 0 < cntI s i s.length) : KindT s K (i + 1) A := by
  refine ⟨h.len, fun q hq hc2 => ?_⟩
  by_cases e : q = i
  · subst e
    exact absurd hc2 hc
  · exact h.yes q (by omega) hc2
theorem KindT.at {s : List Int} {K : Nat} {A : List Nat} (h : KindT s K K A) (hg : goodI (K : Int) s = true) {i q : Nat} (hi : i < s.length) (hq : s.getD i 0 = (q : Int)) : (clI s).getD i 0 + 1 = ((A.getD q 0 : Nat) : Int) := by
  have h1 := goodI_at hg hi
  rw [clI_at hi, hq, Int.toNat_natCast, h.yes q (by omega) (cntI_pos hi hq)]
  omega
end Go.Proofs.YtlmbdafilboblaaGreat

/- Contracts of skew.closeUp, Ints, numbers and Bytes. -/
namespace Go.Proofs.YtlmbdafilboblaaGreat
set_option linter.unusedVariables false
set_option linter.unusedSimpArgs false
open Go.RowKit

set_option maxHeartbeats 2000000 in
theorem closeUp_any (v cv : Value) (s : List Int) (K : Nat) (w : World) (hv : Sl .i64 w v s) (hcv : Sl .i64 w cv (natL (cntsI s K))) (hg : goodI (K : Int) s = true) (hK : K ≤ 1048576) (hlen : s.length ≤ 100000) :
    Calls Tryz.prog 90 #[v, cv] w fun e w' => ∃ u, e = .returned (.tuple #[u, .int .i64 ((kdN s K + 1 : Nat) : Int)]) ∧ Own .i64 3 w.heap.size w' u (tailI (clI s)) ∧ Ext w w' := by
  have HGD := hide' hg
  have HKL := hide' (kdN_le hg)
  obtain ⟨a, c, hve, _⟩ := id hv
  subst hve
  obtain ⟨ca, cc, hce, _⟩ := id hcv
  subst hce
  rw [natL_len, cntsI_len] at hcv ⊢
  obtain ⟨_, _, _, kv⟩ := hv.int
  obtain ⟨_, _, _, kc⟩ := hcv.nat
  have CV := hide' kv
  have CC := hide' kc
  obtain ⟨n, HN⟩ : ∃ n, Hid (s.length = n) := ⟨_, rfl⟩
  rw [HN.out] at CV hlen HKL ⊢
  obtain ⟨w1, hmk, ho, he⟩ := make_natsB w K (by omega)
  obtain ⟨g, HG⟩ : ∃ g, Hid (w.heap.size = g) := ⟨_, rfl⟩
  have hgw : w.heap.size ≤ g := by rw [HG.out]; exact Nat.le_refl _
  rw [HG.out] at ho hmk ⊢
  have O1 := hide' ho
  have X1 := hide' he
  have N0 : Hid (KindT s K 0 (List.replicate K 0)) := KindT.start s K
  have HMO : Hid (∀ q, q ≤ K → kdN s q ≤ n) := fun q hq => by
    have := kdN_mono s q (K - q)
    rw [show q + (K - q) = K by omega] at this
    have := HKL.out
    omega
  clear ho he hv hcv kv kc hg
  go_enter Tryz.func90, Tryz.ntmps90
  go_wp2
  go_loopw [5, 16] (fun vk vi wr => ∃ (i t : Nat) (N : List Nat), i ≤ K ∧ t ≤ 100001 ∧ Hid (t = kdN s i + 1) ∧ vi = .int .i64 i ∧ vk = .int .i64 t ∧ Hid (KindT s K i N) ∧ Hid (Own .i64 3 g wr (.slice (some ⟨g, 0, none⟩) K K) (natL N)) ∧ Hid (Ext w wr)) (fun _ vi _ => K - (intOf vi).toNat)
  case atStart => exact ⟨0, 1, _, Nat.zero_le _, by omega, rfl, rfl, rfl, N0, O1, X1⟩
  case round =>
    clear O1 X1 N0 hmk
    obtain ⟨i, t, N, hi, ht, HT, rfl, rfl, HNM, HO, HE⟩ := hrel
    have HNL : Hid (N.length = K) := HNM.out.len
    by_cases hlt : i < K
    · have hlt' : (i : Int) < K := by omega
      obtain ⟨g1, o1, rfl, k1⟩ := CC.out (by omega)
      have c1 := HE.out.cellOf (k1 i hlt)
      rw [cntsI_at s hlt] at c1
      have HPU := hide' (HNM.out.put hlt)
      rw [← HT.out] at HPU
      have HSK := hide' (fun h => HNM.out.skip h)
      have HKY := hide' (fun h => kdN_yes (s := s) (q := i) h)
      have HKN := hide' (fun h => kdN_no (s := s) (q := i) h)
      have HM1 := hide' (HMO.out (i + 1) (by omega))
      obtain ⟨x, HX⟩ : ∃ x, Hid (cntI s i s.length = x) := ⟨_, rfl⟩
      rw [HX.out] at c1 HSK HKY HKN
      clear k1
      by_cases hx : 0 < x
      · have hx' : (0 : Int) < (x : Int) := by omega
        have HT1 : Hid (t + 1 = kdN s (i + 1) + 1) := by show _ = _; rw [HKY.out hx, HT.out]
        have ht1 : t + 1 ≤ 100001 := by rw [HT1.out]; have := HM1.out; omega
        have c3 := HO.out.intCell HNL.out i hlt
        have z3 := HO.out.frozen (by rw [natL_len]; exact HNL.out) i
        have O6 := hide' (HO.out.storeN HNL.out i t)
        have X6 : Hid (Ext w (wr.setCell ⟨g, i, none⟩ (.int .i64 (t : Int)))) := Ext.but HE.out hgw (but_set _ _ _ _)
        clear HO HE HNM HSK HKY HKN
        go_wp2
        go_roundw
        case rel => exact ⟨i + 1, t + 1, _, by omega, ht1, HT1, by go_num, by go_num, HPU, O6, X6⟩
        case measure => simp [intOf] <;> omega
      · have d1 : decide ((0 : Int) < (x : Int)) = false := by simp; omega
        have d2 : decide (0 < x) = false := by simp; omega
        have HT1 : Hid (t = kdN s (i + 1) + 1) := by show _ = _; rw [HKN.out hx, HT.out]
        have HS1 := hide' (HSK.out hx)
        clear HNM HSK HKY HKN hx
        go_wp2
        go_roundw
        case rel => exact ⟨i + 1, t, _, by omega, ht, HT1, by go_num, by go_num, HS1, HO, HE⟩
        case measure => simp [intOf] <;> omega
    · have d1 : decide ((i : Int) < K) = false := by simp; omega
      have hin : K = i := by omega
      have HF : Hid (KindT s K K N) := by have := HNM.out; rw [← hin] at this; exact this
      have HTK : Hid (t = kdN s K + 1) := by show _ = _; rw [HT.out, hin]
      have KN : Hid (∀ j, j < K → wr.cell? ⟨g, j, none⟩ = some (.int .i64 ((N.getD j 0 : Nat) : Int))) := fun j hj => HO.out.intCell HNL.out j hj
      have X2 := hide' HE.out
      have hz2 := HE.out.size
      have hm3 : (n : Int) + 3 = ((n + 3 : Nat) : Int) := by omega
      obtain ⟨M, HMM⟩ : ∃ M, Hid (n + 3 = M) := ⟨_, rfl⟩
      have hM : M ≤ 200003 := by rw [← HMM.out]; omega
      have hmM : n + 3 ≤ M := by rw [← HMM.out]; exact Nat.le_refl _
      rw [HMM.out] at hm3
      obtain ⟨w3, hmk, ho, he⟩ := make_ints wr M (by omega)
      obtain ⟨f, HFF⟩ : ∃ f, Hid (f = fun (t : Nat) => ((N.getD (s.getD t 0).toNat 0 : Nat) : Int)) := ⟨_, rfl⟩
      have H0 : Hid (HalfT f n 0 (List.replicate M 0)) := by rw [← HMM.out]; exact HalfT.start f n
      obtain ⟨h, HH⟩ : ∃ h, Hid (wr.heap.size = h) := ⟨_, rfl⟩
      have hhw : wr.heap.size ≤ h := by rw [HH.out]; exact Nat.le_refl _
      have hgh : g ≤ h := by rw [← HH.out]; have := HG.out; omega
      rw [HH.out] at hmk ho
      have O3 := hide' ho
      have X3 := hide' he
      clear ho he HO HE HNM hin
      go_wp2
      generalize HGW : wr = W at *
      clear HGW
      go_loopw [36] (fun vi wq => ∃ (i : Nat) (r : List Int), i ≤ n ∧ vi = .int .i64 i ∧ Hid (HalfT f n i r) ∧ Hid (Own .i64 3 h wq (.slice (some ⟨h, 0, none⟩) M M) r) ∧ Hid (Ext W wq)) (fun vi _ => n - (intOf vi).toNat)
      case atStart => exact ⟨0, _, Nat.zero_le _, rfl, H0, O3, X3⟩
      case round =>
        clear O3 X3 H0 hmk
        obtain ⟨i, r, hi, rfl, HR, HO, HE⟩ := hrel
        have HRL : Hid (r.length = M) := by show _ = _; rw [HR.out.len, HMM.out]
        by_cases hlt : i < n
        · have hlt' : (i : Int) < n := by omega
          obtain ⟨g1, o1, rfl, k1⟩ := CV.out (by omega)
          have c1 := HE.out.cellOf (X2.out.cellOf (k1 i hlt))
          have hz := goodI_at HGD.out (j := i) (by rw [HN.out]; exact hlt)
          have H1 := hide' (HR.out.next hlt)
          have HFI : Hid (f i = ((N.getD (s.getD i 0).toNat 0 : Nat) : Int)) := by show _ = _; rw [HFF.out]
          rw [HFI.out] at H1
          obtain ⟨z, HZ⟩ : ∃ z, Hid (s.getD i 0 = z) := ⟨_, rfl⟩
          rw [HZ.out] at c1 hz H1
          obtain ⟨q, rfl⟩ := Int.eq_ofNat_of_zero_le hz.1
          rw [Int.toNat_natCast] at H1
          have hq : q < K := by omega
          have hq' : (q : Int) < K := by omega
          have c2 := HE.out.cellOf (KN.out q hq)
          obtain ⟨x, HX⟩ : ∃ x, Hid (N.getD q 0 = x) := ⟨_, rfl⟩
          rw [HX.out] at c2 H1
          have hiM : (i : Int) < M := by omega
          have c3 := HO.out.cell HRL.out i (by omega)
          have z3 := HO.out.frozen HRL.out i
          have O6 := hide' (HO.out.store HRL.out i (x : Int))
          have X6 : Hid (Ext W (wr.setCell ⟨h, i, none⟩ (.int .i64 (x : Int)))) := Ext.but HE.out hhw (but_set _ _ _ _)
          clear k1 hz HO HE HR
          go_wp2
          go_roundw
          case rel => exact ⟨i + 1, _, by omega, by go_num, H1, O6, X6⟩
          case measure => simp [intOf] <;> omega
        · have d2 : decide ((i : Int) < n) = false := by simp; omega
          have hin : n = i := by omega
          have HD : Hid (r = tailI (clI s)) := by
            show _ = _
            have h1 := HR.out
            rw [← hin] at h1
            refine h1.done (by rw [clI_len, HN.out]) fun t ht => ?_
            have hgz := goodI_at HGD.out (j := t) (by rw [HN.out]; exact ht)
            rw [HF.out.at HGD.out (by rw [HN.out]; exact ht) (show s.getD t 0 = ((s.getD t 0).toNat : Int) by omega), HFF.out]
          go_wp2
          first | go_ret2 | go_ret
          rw [← HTK.out]
          refine ⟨_, rfl, ?_, X2.out.trans HE.out⟩
          rw [← HD.out]
          exact HO.out.low hgh

theorem skInts_any (v : Value) (s : List Int) (k : Int) (w : World) (hv : Sl .i64 w v s) (hlen : s.length ≤ 1000000) :
    Calls Tryz.prog 76 #[v, .int .i64 k] w fun e w' => ∃ u L c, e = .returned (.tuple #[u, .int .i64 c]) ∧ ResI s k L c ∧ Own .i64 3 w.heap.size w' u L ∧ Ext w w' := by
  have HV := hide' hv
  have HLEN := hide' hlen
  obtain ⟨a, c, rfl, _⟩ := hv
  by_cases h1 : 100000 < s.length
  · have d1 : (100000 : Int) < (s.length : Int) := by omega
    have HR : Hid (ResI s k [] 2) := .inl ⟨h1, rfl, rfl⟩
    clear h1
    go_enter Tryz.func76, Tryz.ntmps76
    go_wp2
    go_ret2
    exact ⟨_, [], 2, rfl, HR.out, Own.nil _ _ _ _, Ext.refl _⟩
  · have d1 : decide ((100000 : Int) < (s.length : Int)) = false := by simp; omega
    have HC := hide' (counts_any _ s k w HV.out hlen)
    have HL1 : Hid (s.length ≤ 100000) := by show _ ≤ _; omega
    clear h1
    cases hf : fitB s k
    · have HR : Hid (ResI s k [] 1) := .inr (.inl ⟨HL1.out, hf, rfl, rfl⟩)
      rw [hf] at HC
      clear hf
      go_enter Tryz.func76, Tryz.ntmps76
      go_wp2_with fail
      refine HC.out.mono ?_
      rintro e w1 ⟨s1, rfl, _, he⟩
      have X1 := hide' he
      clear he HC
      go_wp2
      go_ret2
      exact ⟨_, [], 1, rfl, HR.out, Own.nil _ _ _ _, X1.out⟩
    · have HF := hide' hf
      rw [hf] at HC
      obtain ⟨h0, hk, hgd⟩ := fitB_iff.1 hf
      obtain ⟨K, rfl⟩ := Int.eq_ofNat_of_zero_le h0
      have HCI : Hid (countsI s (K : Int) = natL (cntsI s K)) := by show _ = _; rw [countsI_yes hf, Int.toNat_natCast]
      rw [HCI.out] at HC
      have HGD := hide' hgd
      have hK : K ≤ 1048576 := by omega
      clear hf hgd h0
      go_enter Tryz.func76, Tryz.ntmps76
      go_wp2_with fail
      refine HC.out.mono ?_
      rintro e w1 ⟨s1, rfl, ho, he⟩
      have S1 := hide' ho.sl
      have X1 := hide' he
      have hz := he.size
      clear ho he HC
      go_wp2_with fail
      refine (closeUp_any _ s1 s K w1 (HV.out.ext X1.out) S1.out HGD.out hK HL1.out).mono ?_
      rintro e w2 ⟨u2, rfl, ho, he⟩
      have S2 := hide' ho.sl
      have X2 := hide' (X1.out.trans he)
      have hz2 := X2.out.size
      have HFT : Hid (fitB (tailI (clI s)) ((kdN s K + 1 : Nat) : Int) = true) := by
        show _ = _
        rw [show ((kdN s K + 1 : Nat) : Int) = (kdN s K : Int) + 1 by omega]
        exact clI_fit HGD.out HLEN.out
      clear ho he
      have HCO := hide' (orderT_any (s.length + 1) u2 (clI s) (kdN s K + 1) w2 (by rw [clI_len]; omega) S2.out (clI_nonneg s) HFT.out (by rw [clI_len]; have := HL1.out; omega))
      obtain ⟨q, HQ⟩ : ∃ q, Hid (kdN s K + 1 = q) := ⟨_, rfl⟩
      rw [HQ.out] at HCO ⊢
      go_wp2_with fail
      refine HCO.out.mono ?_
      rintro e w3 ⟨u, R, rfl, hR, ho, he⟩
      have O2 := hide' (ho.low hz2)
      have X3 := hide' (X2.out.trans he)
      have HR : Hid (ResI s (K : Int) (natL R) 0) := .inr (.inr ⟨HL1.out, HF.out, rfl, R, clI_ord HGD.out hR, rfl⟩)
      clear ho he hR HCO
      go_wp2
      go_ret2
      exact ⟨_, _, 0, rfl, HR.out, O2.out, X3.out⟩

set_option maxHeartbeats 1000000 in
theorem skNumbers_any (v : Value) (zs : List Int) (w : World) (hv : Sl .u8 w v zs) (h8 : Bytes8 zs) (hlen : zs.length ≤ 1000000) :
    Calls Tryz.prog 77 #[v] w fun e w' => ∃ u, e = .returned u ∧ Own .i64 3 w.heap.size w' u zs ∧ Ext w w' := by
  have HV := hide' hv
  have H8 := hide' h8
  obtain ⟨a, c, rfl, _⟩ := hv
  obtain ⟨n, HN⟩ : ∃ n, Hid (zs.length = n) := ⟨_, rfl⟩
  rw [HN.out] at HV hlen ⊢
  obtain ⟨w1, hmk, ho, he⟩ := make_ints w n hlen
  obtain ⟨g, HG⟩ : ∃ g, Hid (w.heap.size = g) := ⟨_, rfl⟩
  have hgw : w.heap.size ≤ g := by rw [HG.out]; exact Nat.le_refl _
  rw [HG.out] at ho hmk ⊢
  have O1 := hide' ho
  have X1 := hide' he
  have H0 : Hid (HalfI zs 0 (List.replicate n 0)) := by show HalfI _ _ _; rw [← HN.out]; exact HalfI.start zs
  clear ho he h8
  go_enter Tryz.func77, Tryz.ntmps77
  go_wp2
  go_loopw [11] (fun vi wr => ∃ (i : Nat) (r : List Int), i ≤ n ∧ vi = .int .i64 i ∧ Hid (HalfI zs i r) ∧ Hid (Own .i64 3 g wr (.slice (some ⟨g, 0, none⟩) n n) r) ∧ Hid (Ext w wr)) (fun vi _ => n - (intOf vi).toNat)
  case atStart => exact ⟨0, _, Nat.zero_le _, rfl, H0, O1, X1⟩
  case round =>
    clear O1 X1 H0 hmk
    obtain ⟨i, r, hi, rfl, HH, HO, HE⟩ := hrel
    have HRL : Hid (r.length = n) := by show _ = _; rw [HH.out.len, HN.out]
    by_cases hlt : i < n
    · have hlt' : (i : Int) < n := by omega
      have H1 := hide' (HH.out.next (by rw [HN.out]; exact hlt))
      obtain ⟨_, g1, o1, rfl, k1⟩ := HV.out.at (fun e => by have := HN.out; rw [e] at this; simp at this; omega)
      have c1 := HE.out.cellOf (k1 i hlt)
      have hz := H8.out.get i
      obtain ⟨z, HZ⟩ : ∃ z, Hid (zs.getD i 0 = z) := ⟨_, rfl⟩
      rw [HZ.out] at c1 H1 hz
      have hw : IntKind.i64.wrap z = z := by rw [IntKind.wrap_i64]; omega
      have c3 := HO.out.cell HRL.out i hlt
      have z3 := HO.out.frozen HRL.out i
      have O6 := hide' (HO.out.store HRL.out i z)
      have X6 : Hid (Ext w (wr.setCell ⟨g, i, none⟩ (.int .i64 z))) := Ext.but HE.out hgw (but_set _ _ _ _)
      clear k1 HO HE HH
      go_wp2
      go_roundw
      case rel => exact ⟨i + 1, _, by omega, by go_num, H1, O6, X6⟩
      case measure => simp [intOf] <;> omega
    · have d2 : decide ((i : Int) < n) = false := by simp; omega
      have hin : n = i := by omega
      have HD : Hid (r = zs) := by
        show _ = _
        have := HH.out
        rw [← hin, ← HN.out] at this
        exact this.done
      go_wp2
      go_ret
      refine ⟨_, rfl, ?_, HE.out⟩
      rw [← HD.out]
      exact HO.out

theorem skBytes_any (v : Value) (zs : List Int) (w : World) (hv : Sl .u8 w v zs) (h8 : Bytes8 zs) (hlen : zs.length ≤ 1000000) :
    Calls Tryz.prog 59 #[v] w fun e w' => ∃ u L c, e = .returned (.tuple #[u, .int .i64 c]) ∧ ResI zs 256 L c ∧ Own .i64 3 w.heap.size w' u L ∧ Ext w w' := by
  have HV := hide' hv
  have HLEN := hide' hlen
  have C := hide' (skNumbers_any v zs w hv h8 hlen)
  obtain ⟨a, c, rfl, _⟩ := hv
  by_cases h1 : 100000 < zs.length
  · have d1 : (100000 : Int) < (zs.length : Int) := by omega
    have HR : Hid (ResI zs 256 [] 2) := .inl ⟨h1, rfl, rfl⟩
    clear h1 C
    go_enter Tryz.func59, Tryz.ntmps59
    go_wp2
    go_ret2
    exact ⟨_, [], 2, rfl, HR.out, Own.nil _ _ _ _, Ext.refl _⟩
  · have d1 : decide ((100000 : Int) < (zs.length : Int)) = false := by simp; omega
    clear h1 h8
    go_enter Tryz.func59, Tryz.ntmps59
    go_wp2_with fail
    refine C.out.mono ?_
    rintro e w1 ⟨u, rfl, ho, he⟩
    have S1 := hide' ho.sl
    have X1 := hide' he
    have hz := he.size
    clear ho he C
    go_wp2_with fail
    refine (skInts_any _ zs 256 w1 S1.out HLEN.out).mono ?_
    rintro e w2 ⟨u2, L, c2, rfl, hR, ho, he⟩
    have O2 := hide' (ho.low hz)
    have X2 := hide' (X1.out.trans he)
    have HR := hide' hR
    clear ho he hR
    go_wp2
    go_ret2
    exact ⟨_, _, _, rfl, HR.out, O2.out, X2.out⟩
end Go.Proofs.YtlmbdafilboblaaGreat

/- Places by the first numbers of their endings: ranks, and what twice as many tell. Plain numbers, no conditions. -/
namespace Go.Proofs.YtlmbdafilboblaaGreat
set_option linter.unusedVariables false
set_option linter.unusedSimpArgs false

/-- The first h numbers of an ending. -/
def cutI (s : List Int) (h i : Nat) : List Int := (s.drop i).take h
theorem cutI_zero (s : List Int) (i : Nat) : cutI s 0 i = [] := by simp [cutI]
theorem cutI_whole {s : List Int} {h i : Nat} (hh : s.length ≤ h) : cutI s h i = s.drop i := by
  unfold cutI
  exact List.take_of_length_le (by rw [List.length_drop]; omega)
theorem cutI_out {s : List Int} {h i : Nat} (hi : s.length ≤ i) : cutI s h i = [] := by
  unfold cutI
  rw [List.drop_of_length_le hi]
  simp
/-- Less by the first a and b numbers: by the first a, then by b behind them. -/
theorem cmpI_two : ∀ (a b : Nat) (x y : List Int), cmpI (x.take (a + b)) (y.take (a + b)) < 0 ↔ cmpI (x.take a) (y.take a) < 0 ∨ (x.take a = y.take a ∧ cmpI ((x.drop a).take b) ((y.drop a).take b) < 0)
  | 0, b, x, y => by simp [cmpI]
  | a + 1, b, [], [] => by simp [cmpI]
  | a + 1, b, [], v :: y => by
    rw [show a + 1 + b = (a + b) + 1 by omega]
    simp [cmpI]
  | a + 1, b, u :: x, [] => by
    rw [show a + 1 + b = (a + b) + 1 by omega]
    simp [cmpI]
  | a + 1, b, u :: x, v :: y => by
    rw [show a + 1 + b = (a + b) + 1 by omega]
    simp only [List.take_succ_cons, List.drop_succ_cons, cmpI]
    rcases Int.lt_trichotomy u v with g | g | g
    · rw [if_pos g, if_pos g]
      simp
    · subst g
      rw [if_neg (by omega), if_neg (by omega), if_neg (by omega), if_neg (by omega), cmpI_two a b x y]
      simp
    · rw [if_neg (by omega), if_pos g, if_neg (by omega), if_pos g]
      simp
      omega
theorem cut_two (s : List Int) (a b i k : Nat) : cmpI (cutI s (a + b) i) (cutI s (a + b) k) < 0 ↔ cmpI (cutI s a i) (cutI s a k) < 0 ∨ (cutI s a i = cutI s a k ∧ cmpI (cutI s b (i + a)) (cutI s b (k + a)) < 0) := by
  unfold cutI
  rw [cmpI_two, List.drop_drop, List.drop_drop]

/-- Is one less, by the first h numbers? -/
def cutB (s : List Int) (h i k : Nat) : Bool := decide (cmpI (cutI s h i) (cutI s h k) < 0)
theorem cutB_iff {s : List Int} {h i k : Nat} : cutB s h i k = true ↔ cmpI (cutI s h i) (cutI s h k) < 0 := decide_eq_true_iff
theorem cutB_irrefl (s : List Int) (h i : Nat) : cutB s h i i = false := by
  unfold cutB
  rw [cmpI_self]
  rfl
theorem cut_lt_trans {x y z : List Int} (h1 : cmpI x y < 0) (h2 : cmpI y z < 0) : cmpI x z < 0 := by
  have h3 := cmpI_trans x y z (by omega) (by omega)
  by_cases e : cmpI x z = 0
  · have e2 := cmpI_zero e
    rw [← e2, cmpI_swap] at h2
    omega
  · omega
theorem cutB_trans {s : List Int} {h i j k : Nat} (h1 : cutB s h i j = true) (h2 : cutB s h j k = true) : cutB s h i k = true := cutB_iff.2 (cut_lt_trans (cutB_iff.1 h1) (cutB_iff.1 h2))
theorem cut_three (s : List Int) (h i k : Nat) : cutB s h i k = true ∨ cutB s h k i = true ∨ cutI s h i = cutI s h k := by
  rw [cutB_iff, cutB_iff]
  by_cases e : cmpI (cutI s h i) (cutI s h k) = 0
  · exact .inr (.inr (cmpI_zero e))
  · by_cases g : cmpI (cutI s h i) (cutI s h k) < 0
    · exact .inl g
    · refine .inr (.inl ?_)
      rw [cmpI_swap]
      omega

/-- How many of the first t places are less by the first h numbers. -/
def hrN (s : List Int) (h i : Nat) : Nat → Nat
  | 0 => 0
  | t + 1 => hrN s h i t + if cutB s h t i = true then 1 else 0
theorem hrN_yes {s : List Int} {h i t : Nat} (g : cutB s h t i = true) : hrN s h i (t + 1) = hrN s h i t + 1 := by
  show hrN s h i t + _ = _
  rw [if_pos g]
theorem hrN_no {s : List Int} {h i t : Nat} (g : cutB s h t i = false) : hrN s h i (t + 1) = hrN s h i t := by
  show hrN s h i t + _ = _
  rw [g]
  rfl
theorem hrN_le (s : List Int) (h i : Nat) : ∀ t, hrN s h i t ≤ t := by
  intro t
  induction t with
  | zero => exact Nat.le_refl _
  | succ t ih =>
    show hrN s h i t + _ ≤ _
    split <;> omega
theorem hrN_same {s : List Int} {h i k : Nat} (e : cutI s h i = cutI s h k) : ∀ t, hrN s h i t = hrN s h k t := by
  intro t
  induction t with
  | zero => rfl
  | succ t ih =>
    have : cutB s h t i = cutB s h t k := by unfold cutB; rw [e]
    show hrN s h i t + _ = hrN s h k t + _
    rw [ih, this]
theorem hrN_less {s : List Int} {h i k : Nat} (g : cutB s h i k = true) : ∀ t, hrN s h i t ≤ hrN s h k t ∧ (i < t → hrN s h i t < hrN s h k t) := by
  intro t
  induction t with
  | zero => exact ⟨Nat.le_refl _, fun h => by omega⟩
  | succ t ih =>
    cases e : cutB s h t i
    · rw [hrN_no e]
      cases e2 : cutB s h t k
      · rw [hrN_no e2]
        refine ⟨ih.1, fun hi => ih.2 ?_⟩
        have : i ≠ t := fun e3 => by
          subst e3
          rw [g] at e2
          cases e2
        omega
      · rw [hrN_yes e2]
        exact ⟨by omega, fun _ => by omega⟩
    · rw [hrN_yes e, hrN_yes (cutB_trans e g)]
      refine ⟨by omega, fun hi => ?_⟩
      have : i ≠ t := fun e3 => by
        subst e3
        rw [cutB_irrefl] at e
        cases e
      have := ih.2 (by omega)
      omega
/-- A place's rank by the first h numbers. -/
def hrI (s : List Int) (h i : Nat) : Nat := hrN s h i s.length
theorem hrI_lt {s : List Int} {h i k : Nat} (hi : i < s.length) (hk : k < s.length) : hrI s h i < hrI s h k ↔ cutB s h i k = true := by
  unfold hrI
  rcases cut_three s h i k with g | g | g
  · exact ⟨fun _ => g, fun _ => (hrN_less g _).2 hi⟩
  · have := (hrN_less g _).2 hk
    exact ⟨fun _ => by omega, fun g2 => by
      have := cutB_trans g g2
      rw [cutB_irrefl] at this
      cases this⟩
  · rw [hrN_same g]
    exact ⟨fun _ => by omega, fun g2 => by
      have : cutB s h i k = cutB s h k k := by unfold cutB; rw [g]
      rw [this, cutB_irrefl] at g2
      cases g2⟩
theorem hrI_eq {s : List Int} {h i k : Nat} (hi : i < s.length) (hk : k < s.length) : hrI s h i = hrI s h k ↔ cutI s h i = cutI s h k := by
  constructor
  · intro e
    rcases cut_three s h i k with g | g | g
    · have := (hrI_lt hi hk).2 g
      omega
    · have := (hrI_lt hk hi).2 g
      omega
    · exact g
  · intro g
    exact hrN_same g _
theorem hrI_in {s : List Int} {h i : Nat} (hi : i < s.length) : hrI s h i < s.length := by
  have key : ∀ t, i < t → hrN s h i t < t := by
    intro t
    induction t with
    | zero => intro h; omega
    | succ t ih =>
      intro hit
      by_cases e : i = t
      · subst e
        rw [hrN_no (cutB_irrefl s h i)]
        have := hrN_le s h i i
        omega
      · have := ih (by omega)
        show hrN s h i t + _ < _
        split <;> omega
  exact key _ hi
def hrL (s : List Int) (h : Nat) : List Nat := (List.range s.length).map (hrI s h)
theorem hrL_len (s : List Int) (h : Nat) : (hrL s h).length = s.length := by simp [hrL]
theorem hrL_at {s : List Int} {h i : Nat} (hi : i < s.length) : (hrL s h).getD i 0 = hrI s h i := mapI_at _ _ hi
/-- There is just one such row: any row that tells the order and has each number as often as it may. -/
theorem hrI_zero (s : List Int) (i : Nat) : hrI s 0 i = 0 := by
  have key : ∀ t, hrN s 0 i t = 0 := by
    intro t
    induction t with
    | zero => rfl
    | succ t ih =>
      have : cutB s 0 t i = false := by unfold cutB; rw [cutI_zero, cutI_zero]; rfl
      rw [hrN_no this, ih]
  exact key _
/-- By the length, or more: the endings' own order. -/
theorem cutB_whole {s : List Int} {h i k : Nat} (hh : s.length ≤ h) : cutB s h i k = true ↔ ltE s i k := by
  rw [cutB_iff, cutI_whole hh, cutI_whole hh]
  exact Iff.rfl
/-- What stands a places on, by the first h numbers: nothing behind the end. -/
def onI (s : List Int) (h a i : Nat) : Int := if i + a < s.length then (hrI s h (i + a) : Int) else -1
theorem onI_lt {s : List Int} {h a i k : Nat} (hh : 0 < h) : onI s h a i < onI s h a k ↔ cmpI (cutI s h (i + a)) (cutI s h (k + a)) < 0 := by
  unfold onI
  by_cases hi : i + a < s.length
  · rw [if_pos hi]
    by_cases hk : k + a < s.length
    · rw [if_pos hk]
      have := hrI_lt (s := s) (h := h) hi hk
      rw [cutB_iff] at this
      rw [← this]
      omega
    · rw [if_neg hk, cutI_out (s := s) (i := k + a) (by omega)]
      have h2 : ¬ cmpI (cutI s h (i + a)) [] < 0 := by
        cases cutI s h (i + a) with
        | nil => decide
        | cons x l => simp [cmpI]
      exact ⟨fun g => by omega, fun g => absurd g h2⟩
  · rw [if_neg hi, cutI_out (s := s) (i := i + a) (by omega)]
    by_cases hk : k + a < s.length
    · rw [if_pos hk]
      have h2 : cmpI [] (cutI s h (k + a)) < 0 := by
        unfold cutI
        rw [drop_getD hk]
        obtain ⟨h', rfl⟩ : ∃ h', h = h' + 1 := ⟨h - 1, by omega⟩
        rw [List.take_succ_cons, cmpI]
        decide
      exact ⟨fun _ => h2, fun _ => by omega⟩
    · rw [if_neg hk, cutI_out (s := s) (i := k + a) (by omega)]
      exact ⟨fun g => by omega, fun g => absurd g (by decide)⟩
/-- By a numbers and h behind them: as by both. -/
theorem hr_two {s : List Int} {a h i k : Nat} (hh : 0 < h) (hi : i < s.length) (hk : k < s.length) : hrI s (a + h) i < hrI s (a + h) k ↔ hrI s a i < hrI s a k ∨ (hrI s a i = hrI s a k ∧ onI s h a i < onI s h a k) := by
  rw [hrI_lt hi hk, hrI_lt hi hk, hrI_eq hi hk, cutB_iff, cutB_iff, onI_lt hh, cut_two]
theorem onI_zero (s : List Int) (h i k : Nat) (hi : i < s.length) (hk : k < s.length) : onI s 0 0 i = 0 := by
  unfold onI
  rw [if_pos (by omega), hrI_zero]
  rfl
theorem hr_twice {s : List Int} {h i k : Nat} (hi : i < s.length) (hk : k < s.length) : hrI s (2 * h) i < hrI s (2 * h) k ↔ hrI s h i < hrI s h k ∨ (hrI s h i = hrI s h k ∧ onI s h h i < onI s h h k) := by
  by_cases h0 : h = 0
  · subst h0
    rw [hrI_zero, hrI_zero, onI_zero s 0 i k hi hk, onI_zero s 0 k i hk hi]
    omega
  · rw [show 2 * h = h + h by omega]
    exact hr_two (by omega) hi hk
/-- Where no two ranks are the same, the ranks by fewer numbers are those of all. -/
theorem hr_order {s : List Int} {h : Nat} {R : List Nat} (hR : R.Perm (List.range s.length)) (hs : R.Pairwise fun a b => hrI s h a < hrI s h b) : InOrd s R := by
  refine ⟨hR, hs.imp_of_mem fun {a b} ha hb hab => ?_⟩
  have ha2 := List.mem_range.1 (hR.mem_iff.1 ha)
  have hb2 := List.mem_range.1 (hR.mem_iff.1 hb)
  have h1 := cutB_iff.1 ((hrI_lt ha2 hb2).1 hab)
  unfold ltE
  have h2 := cmpI_two h s.length (s.drop a) (s.drop b)
  rw [List.take_of_length_le (by rw [List.length_drop]; omega), List.take_of_length_le (by rw [List.length_drop]; omega)] at h2
  exact h2.2 (.inl h1)
end Go.Proofs.YtlmbdafilboblaaGreat
