/- Small laws over any program: rows of numbers that a call owns, and what lies below. No conditions. -/
import Derived.WalkKit
import Derived.ProofKit
import Derived.WalkLawsBesides
import Derived.WalkSpells
import Derived.Laws.BytesArg
import Derived.OpenShut
import Derived.Laws.AppendOwnNone
import Derived.Laws.BitsAllLaws
import Derived.BigQuiet
import Derived.Deep.QuietTactic
import Derived.Test.YtmojnliljaefbaaKrip
namespace Go.Proofs.Ytmojnliljaefbaa
set_option linter.unusedVariables false
set_option linter.unusedSimpArgs false
open Go.RowKit

/-- The call's own row of numbers of kind k (element type e): the slice value s holds just zs, in blocks from B on. -/
def Own (k : IntKind) (e : TypeId) (B : Nat) (w : World) (s : Value) (zs : List Int) : Prop :=
  w.ownsRow B e 1 s zs.length (zs.map (Value.int k))

theorem Own.below {k : IntKind} {e : TypeId} {B : Nat} {w wr w1 : World} {s : Value} {zs : List Int} (h : Own k e B wr s zs) (hb : Below B w wr) (hB : B ≤ w.heap.size)
    {o : Obj} (hg : (wr.alloc o).grownBy w1 s.ownBlock) : Below B w w1 := by
  have hs := hb.size
  exact (hb.alloc (by omega) o).grown hg (by simp; omega) (fun k hk => (World.ownsRow.lt h k hk).1)

theorem Own.snoc {k : IntKind} {e : TypeId} {B : Nat} {w1 : World} {s' : Value} {zs : List Int} {z : Int}
    (h : w1.ownsRow B e 1 s' (zs.length + 1) (zs.map (Value.int k) ++ [Value.int k z])) : Own k e B w1 s' (zs ++ [z]) := by
  unfold Own
  simpa using h

theorem Own.nil (k : IntKind) (e : TypeId) (B : Nat) (w : World) : Own k e B w (.slice none 0 0) [] := World.ownsRow_nil _ _ _ _

theorem Own.made {k : IntKind} {e : TypeId} {B : Nat} {w : World} (cur : Array Value) (cap : Nat) (hb : B ≤ w.heap.size) (hm : cap ≤ maxLen) (hs : cur.size = cap) :
    Own k e B (w.alloc (.cells cur e)) (.slice (some ⟨w.heap.size, 0, none⟩) 0 cap) [] :=
  World.ownsRow_made w cur cap hb hm (by simpa using hs)

theorem one1 {k : IntKind} {z : Int} : ∀ u ∈ [Value.int k z], u.oneCell' = true := by
  intro u hu; simp at hu; subst hu; rfl

/-- 'append(s, x)', s the call's own. -/
theorem wpList_snoc {P : Program} (w : World) {ops : Array Oper} {rest : List Oper} {o : Oper} {a : Act} {Q : Exit → Act → World → Prop} (hgd : o.guard = none) (s x : Operand) (t : TypeId)
    (ho : o.op = .call { callee := .builtin .append, args := #[s, x], argTypes := #[t, t] }) (e : TypeId) (k : IntKind) (bytes : Nat) (ht : P.underlying t = some (.slice e))
    (hinfo : (P.info? e).map (fun i => (i.zero, i.size, i.bytes)) = some (some (.int k 0), 1, bytes)) (B : Nat) (v : Value) (zs : List Int) (z : Int) (ad : Addr) (hs : a.eval s = v) (hx : a.eval x = .slice (some ad) 1 1)
    (hcell : w.cell? ad = some (.int k z)) (hown : Own k e B w v zs) (hlen : (zs.length + 1) * bytes ≤ 140737488355328 ∧ zs.length + 1 ≤ maxLen) (hB : B ≤ w.heap.size)
    (h : ∀ v' w', Own k e B w' v' (zs ++ [z]) → Below B w w' → wpList P ops Q rest (a.put o.dst v') w') : wpList P ops Q (o :: rest) a w := by
  obtain ⟨i0, hi, hz0, hz1, hz2⟩ := info_parts hinfo
  refine wpList_append_own w hgd s x t ho B e i0 (.int k 0) 1 bytes ht hi hz0 hz1 hz2 rfl (by decide) v _ _ hs hown ad 1 1 [.int k z] hx rfl ?_ one1 hlen.2 hlen.1 hB ?_
  · intro j u hj
    match j, hj with
    | 0, hj => simp at hj; subst hj; simpa [Addr.add] using hcell
  · intro v' w' h1 h2 _
    exact h v' w' (Own.snoc h1) ((Below.refl _ _).grown h2 hB (fun k hk => (World.ownsRow.lt hown k hk).1))

theorem Own.alloc {k : IntKind} {e : TypeId} {B : Nat} {w : World} {s : Value} {zs : List Int} (h : Own k e B w s zs) (o : Obj) : Own k e B (w.alloc o) s zs := World.ownsRow.alloc h o

/-- The slice value v reads as the numbers zs, of kind k. -/
def Sl (k : IntKind) (w : World) (v : Value) (zs : List Int) : Prop :=
  ∃ a c, v = .slice a zs.length c ∧ zs.length ≤ c ∧ c ≤ maxLen ∧ (a = none → c = 0) ∧ (zs = [] ∨ ∃ b off, a = some ⟨b, off, none⟩ ∧ ∀ i, i < zs.length → w.cell? ⟨b, off + i, none⟩ = some (.int k (zs.getD i 0)))

theorem Ext.cellOf {w w' : World} (h : Ext w w') {a : Addr} {v : Value} (hc : w.cell? a = some v) : w'.cell? a = some v := cell_later h hc

theorem Sl.up {k : IntKind} {v : Value} {zs : List Int} : UpW (fun w => Sl k w v zs) := by
  rintro w w' he ⟨a, c, h1, h2, h3, h0, h4⟩
  refine ⟨a, c, h1, h2, h3, h0, ?_⟩
  rcases h4 with h4 | ⟨b, off, h4, h5⟩
  · exact .inl h4
  · exact .inr ⟨b, off, h4, fun i hi => he.cellOf (h5 i hi)⟩

theorem Sl.ext {k : IntKind} {w w' : World} {v : Value} {zs : List Int} (h : Sl k w v zs) (he : Ext w w') : Sl k w' v zs := Sl.up _ _ he h

theorem Own.sl {k : IntKind} {e : TypeId} {B : Nat} {w : World} {s : Value} {zs : List Int} (h : Own k e B w s zs) : Sl k w s zs := by
  obtain ⟨h1, h2⟩ := h
  rcases h2 with ⟨rfl, h2⟩ | ⟨g, cap, cur, rfl, _, hh, hn, hm, hs, ht⟩
  · exact ⟨none, 0, by rw [h2], by omega, by simp [maxLen], fun _ => rfl, .inl (List.length_eq_zero_iff.1 h2)⟩
  · refine ⟨_, cap, rfl, hn, hm, (fun h => by cases h), .inr ⟨g, 0, rfl, fun i hi => ?_⟩⟩
    have : w.cell? ⟨g, 0 + i, none⟩ = cur[i]? := by simp [World.cell?, hh]
    rw [this]
    have h5 : cur.toList[i]? = (zs.map (Value.int k))[i]? := by
      rw [← ht, List.getElem?_take, if_pos (by simpa using hi)]
    have h6 : cur[i]? = cur.toList[i]? := by simp
    rw [h6, h5]
    simp [List.getD, List.getElem?_eq_getElem hi]

/-- 'string(b)' -/
theorem Sl.str {P : Program} {w : World} {v : Value} {zs : List Int} (h : Sl .u8 w v zs) (src e dst : TypeId) (hs : P.underlying src = some (.slice e)) (he : P.underlying e = some (.int .u8)) (hd : P.underlying dst = some .string) :
    (convert src dst v).run P w = .ok (.string (strOfNums zs)) w := by
  obtain ⟨a, c, rfl, _, _, _, h4⟩ := h
  rcases h4 with rfl | ⟨b, off, rfl, h5⟩
  · rw [run_convert_bytes_string w src dst e _ _ c hs he hd]
    cases a <;> simp [Conv.bytesToString, loadCells, strOfNums]
    all_goals rfl
  · exact run_convert_bytes_arg w src e hs he b off _ c zs rfl h5 dst hd

/-- Two strings of bytes are alike just if the bytes are. -/
theorem strOfNums_inj {xs ys : List Int} (hx : ∀ x ∈ xs, 0 ≤ x ∧ x ≤ 255) (hy : ∀ y ∈ ys, 0 ≤ y ∧ y ≤ 255) : ((strOfNums xs).toList == (strOfNums ys).toList) = decide (xs = ys) := by
  have key : ∀ xs ys : List Int, (∀ x ∈ xs, 0 ≤ x ∧ x ≤ 255) → (∀ y ∈ ys, 0 ≤ y ∧ y ≤ 255) → xs.map (fun n => UInt8.ofNat n.toNat) = ys.map (fun n => UInt8.ofNat n.toNat) → xs = ys := by
    intro xs
    induction xs with
    | nil => intro ys _ _ h; cases ys with | nil => rfl | cons y ys => simp at h
    | cons x xs ih =>
      intro ys h1 h2 h
      cases ys with
      | nil => simp at h
      | cons y ys =>
        simp only [List.map_cons, List.cons.injEq] at h
        have a1 := h1 x (by simp)
        have a2 := h2 y (by simp)
        have e1 : x.toNat = y.toNat := by
          have := congrArg UInt8.toNat h.1
          simp only [UInt8.toNat_ofNat'] at this
          omega
        have e2 : x = y := by omega
        rw [e2, ih ys (fun z hz => h1 z (by simp [hz])) (fun z hz => h2 z (by simp [hz])) h.2]
  rw [Bool.eq_iff_iff, ByteArray.toList_eq, ByteArray.toList_eq, strOfNums_data, strOfNums_data]
  simp only [beq_iff_eq, decide_eq_true_eq]
  exact ⟨key xs ys hx hy, fun h => by rw [h]⟩

/-- A row just laid reads as its numbers. -/
theorem Sl.lit {k : IntKind} {e : TypeId} (w : World) (zs : List Int) (n : Nat) (hn : zs.length = n) (hm : n ≤ maxLen) : Sl k (w.alloc (.cells (zs.map (Value.int k)).toArray e)) (.slice (some ⟨w.heap.size, 0, none⟩) n n) zs := by
  subst hn
  refine ⟨_, _, rfl, Nat.le_refl _, hm, (fun h => by cases h), .inr ⟨w.heap.size, 0, rfl, fun i hi => ?_⟩⟩
  have h : (w.alloc (.cells (zs.map (Value.int k)).toArray e)).heap[w.heap.size]? = some (.cells (zs.map (Value.int k)).toArray e) := heap_alloc_new w _
  simp only [World.cell?, h]
  simp [hi]

theorem ints_one {k : IntKind} (zs : List Int) : ∀ u ∈ zs.map (Value.int k), u.oneCell' = true := by
  intro u hu
  simp only [List.mem_map] at hu
  obtain ⟨z, _, rfl⟩ := hu
  rfl

/-- 'append(s, xs...)', s the call's own, xs whatever numbers. -/
theorem wpList_join {P : Program} (w : World) {ops : Array Oper} {rest : List Oper} {o : Oper} {a : Act} {Q : Exit → Act → World → Prop} (hgd : o.guard = none) (s x : Operand) (t : TypeId)
    (ho : o.op = .call { callee := .builtin .append, args := #[s, x], argTypes := #[t, t] }) (e : TypeId) (k : IntKind) (bytes : Nat) (ht : P.underlying t = some (.slice e))
    (hinfo : (P.info? e).map (fun i => (i.zero, i.size, i.bytes)) = some (some (.int k 0), 1, bytes)) (B : Nat) (v u : Value) (zs ys : List Int) (hs : a.eval s = v) (hx : a.eval x = u)
    (hown : Own k e B w v zs) (hsl : Sl k w u ys) (hlen : (zs.length + ys.length) * bytes ≤ 140737488355328 ∧ zs.length + ys.length ≤ maxLen) (hB : B ≤ w.heap.size)
    (h : ∀ v' w', Own k e B w' v' (zs ++ ys) → Below B w w' → wpList P ops Q rest (a.put o.dst v') w') : wpList P ops Q (o :: rest) a w := by
  obtain ⟨i0, hi, hz0, hz1, hz2⟩ := info_parts hinfo
  obtain ⟨ad, c, rfl, h1, h2, h3, h4⟩ := hsl
  have fin : ∀ v' w', w'.ownsRow B e 1 v' (zs.length + ys.length) (zs.map (Value.int k) ++ ys.map (Value.int k)) → w.grownBy w' v.ownBlock → wpList P ops Q rest (a.put o.dst v') w' := fun v' w' g1 g2 =>
    h v' w' (by unfold Own; simpa using g1) ((Below.refl _ _).grown g2 hB (fun k hk => (World.ownsRow.lt hown k hk).1))
  cases ad with
  | none =>
    have hc := h3 rfl
    subst hc
    have hy : ys = [] := List.length_eq_zero_iff.1 (by omega)
    subst hy
    refine wpList_append_own_none hgd s x t ho B e i0 1 ht hi v _ _ hs hown hx ?_
    refine h v w ?_ (Below.refl _ _)
    rw [List.append_nil]; exact hown
  | some ad =>
    refine wpList_append_own w hgd s x t ho B e i0 (.int k 0) 1 bytes ht hi hz0 hz1 hz2 rfl (by decide) v _ _ hs hown ad ys.length c (ys.map (Value.int k)) hx (by simp) ?_ (ints_one ys) hlen.2 hlen.1 hB (fun v' w' g1 g2 _ => fin v' w' g1 g2)
    intro j u hj
    rcases h4 with rfl | ⟨b, off, hb, h5⟩
    · simp at hj
    · simp only [Option.some.injEq] at hb
      subst hb
      have hjl : j < ys.length := by
        rcases Nat.lt_or_ge j ys.length with g | g
        · exact g
        · simp [List.getElem?_eq_none (show (ys.map (Value.int k)).length ≤ j by simpa using g)] at hj
      rw [Go.WideShapes.add_plain, h5 j hjl]
      simp [List.getElem?_eq_getElem hjl] at hj
      subst hj
      simp [List.getD, List.getElem?_eq_getElem hjl]

/-- 's[:n]' -/
theorem Sl.take {k : IntKind} {w : World} {b off c : Nat} {zs : List Int} (n : Nat) (hn : n ≤ zs.length) (hc : zs.length ≤ c) (hm : c ≤ maxLen)
    (h : ∀ i, i < zs.length → w.cell? ⟨b, off + i, none⟩ = some (.int k (zs.getD i 0))) : Sl k w (.slice (some ⟨b, off, none⟩) n c) (zs.take n) := by
  have hl : (zs.take n).length = n := by simp; omega
  refine ⟨_, c, by rw [hl], by omega, hm, (fun h => by cases h), .inr ⟨b, off, rfl, fun i hi => ?_⟩⟩
  rw [hl] at hi
  rw [h i (by omega)]
  congr 2
  simp [List.getD, List.getElem?_take, hi]

/-- 'string(b)' in every later world. -/
theorem later_str {P : Program} {w : World} {v : Value} {zs : List Int} (h : Sl .u8 w v zs) (src e dst : TypeId) (hs : P.underlying src = some (.slice e)) (he : P.underlying e = some (.int .u8)) (hd : P.underlying dst = some .string) :
    ∀ l : Later w, (convert src dst v).run P l.val = .ok (.string (strOfNums zs)) l.val :=
  fun l => (h.ext l.ext).str src e dst hs he hd

theorem run_convert_op {P : Program} {w w' : World} {ρ : Operand → Value} {o : Oper} {src dst : TypeId} {x : Operand} {v u : Value} (ho : o.op = .convert src dst x) (hx : ρ x = v) (h : (convert src dst v).run P w = .ok u w') :
    (execOp ρ o).run P w = .ok (.value u) w' := by
  unfold execOp
  simp only [ho, hx, Sem.run_bind, h, Result.andThen, Sem.run_pure]

/-- A slice of numbers that came in. -/
theorem Sl.ofRow {k : IntKind} {w : World} {a : Option Addr} {len cap : Nat} {zs : List Int}
    (h : (a = none ∧ len = 0 ∧ cap = 0 ∧ zs = []) ∨ ∃ x, a = some x ∧ len ≤ cap ∧ cap ≤ maxLen ∧ zs.length = cap ∧ (∀ i, i < zs.length → w.cell? (x.add i) = some (.int k (zs.getD i 0))) ∧ ∀ n ∈ zs, (Lit.int k n).wf = true) :
    Sl k w (.slice a len cap) (zs.take len) ∧ (zs.take len).length = len ∧ ∀ z ∈ zs.take len, (Lit.int k z).wf = true := by
  rcases h with ⟨rfl, rfl, rfl, rfl⟩ | ⟨x, rfl, h1, h2, h3, h4, h5⟩
  · exact ⟨⟨none, 0, rfl, by simp, by simp [maxLen], fun _ => rfl, .inl rfl⟩, rfl, fun z hz => by simp at hz⟩
  · have hl : (zs.take len).length = len := by simp; omega
    refine ⟨?_, hl, fun z hz => h5 z (List.mem_of_mem_take hz)⟩
    by_cases h0 : len = 0
    · subst h0
      exact ⟨some x, cap, rfl, by simp, h2, (fun h => by cases h), .inl rfl⟩
    · obtain ⟨b, off, rfl, hc⟩ := Go.ints_at h4 (by omega)
      exact Sl.take len (by omega) (by omega) h2 hc

theorem wf_u8 {zs : List Int} (h : ∀ z ∈ zs, (Lit.int .u8 z).wf = true) : ∀ z ∈ zs, 0 ≤ z ∧ z ≤ 255 := fun z hz => Go.bounds_u8 (h z hz)

/-- 's[:m]' of whatever slice. -/
theorem Sl.take' {k : IntKind} {w : World} {a : Option Addr} {n c : Nat} {zs : List Int} (h : Sl k w (.slice a n c) zs) (m : Nat) (hm : m ≤ n) : Sl k w (.slice a m c) (zs.take m) := by
  obtain ⟨a', c', h1, h2, h3, h4, h5⟩ := h
  simp only [Value.slice.injEq] at h1
  obtain ⟨rfl, rfl, rfl⟩ := h1
  rcases h5 with rfl | ⟨b, off, rfl, h5⟩
  · simp at hm; subst hm
    exact ⟨a, c, rfl, by simp, h3, h4, .inl rfl⟩
  · exact Sl.take m hm h2 h3 h5

/-- What an owned row that is not empty looks like. -/
theorem Own.shape {k : IntKind} {e : TypeId} {B : Nat} {w : World} {s : Value} {zs : List Int} (h : Own k e B w s zs) (hn : zs ≠ []) : ∃ g cap, s = .slice (some ⟨g, 0, none⟩) zs.length cap ∧ B ≤ g ∧ zs.length ≤ cap ∧ cap ≤ maxLen := by
  rcases h.2 with ⟨_, h2⟩ | ⟨g, cap, cur, h2, h3, _, h4, h5, _⟩
  · exact absurd (List.length_eq_zero_iff.1 h2) hn
  · exact ⟨g, cap, h2, h3, h4, h5⟩

theorem Own.cell {k : IntKind} {e : TypeId} {B : Nat} {w : World} {g n cap : Nat} {zs : List Int} (h : Own k e B w (.slice (some ⟨g, 0, none⟩) n cap) zs) (hn : zs.length = n) (j : Nat) (hj : j < n) : w.cell? ⟨g, j, none⟩ = some (.int k (zs.getD j 0)) := by
  subst hn
  have := World.ownsRow.cellAt h j (by simpa using hj)
  rw [this]
  simp [List.getD, List.getElem?_eq_getElem hj]

theorem Own.frozen {k : IntKind} {e : TypeId} {B : Nat} {w : World} {g n cap : Nat} {zs : List Int} (h : Own k e B w (.slice (some ⟨g, 0, none⟩) n cap) zs) (hn : zs.length = n) (j : Nat) : w.frozen? ⟨g, j, none⟩ = false := by
  subst hn
  exact World.ownsRow.frozenAt h j

theorem Own.store {k : IntKind} {e : TypeId} {B : Nat} {w : World} {g n cap : Nat} {zs : List Int} (h : Own k e B w (.slice (some ⟨g, 0, none⟩) n cap) zs) (hn : zs.length = n) (j : Nat) (z : Int) :
    Own k e B (w.setCell ⟨g, j, none⟩ (.int k z)) (.slice (some ⟨g, 0, none⟩) n cap) (zs.set j z) := by
  subst hn
  have := (World.ownsRow.stored h j (.int k z)).1
  unfold Own
  rw [List.length_set, List.map_set]
  exact this

theorem hide' {p : Prop} (h : p) : Hid p := h

/-- 'y | d << n', no digit in both. -/
theorem or_shift_nat (y d n : Nat) (h : y < 2 ^ n) (hy : y < 18446744073709551616) (h64 : d * 2 ^ n < 18446744073709551616) : bits .or .u64 (y : Int) (IntKind.u64.wrap ((d : Int) * 2 ^ n)) = ((y + d * 2 ^ n : Nat) : Int) := by
  have e1 : (d : Int) * 2 ^ n = ((d * 2 ^ n : Nat) : Int) := by simp
  rw [e1, IntKind.wrap_u64, Int.emod_eq_of_lt (by omega) (by omega), u64_or_nat _ _ hy h64]
  have := Nat.shiftLeft_add_eq_or_of_lt h d
  rw [Nat.shiftLeft_eq] at this
  rw [Nat.or_comm, ← this, Nat.add_comm]

theorem pow128 (k : Nat) : (2 : Nat) ^ (7 * k) = 128 ^ k := by rw [Nat.pow_mul]

theorem or_shift (y d : Int) (k : Nat) (h0 : 0 ≤ y) (h1 : y < 128 ^ k) (h2 : 0 ≤ d) (hy : y < 18446744073709551616) (h64 : d * 128 ^ k < 18446744073709551616) :
    bits .or .u64 y (IntKind.u64.wrap (d * 2 ^ (7 * k))) = y + d * 128 ^ k := by
  obtain ⟨y, rfl⟩ := Int.eq_ofNat_of_zero_le h0
  obtain ⟨d, rfl⟩ := Int.eq_ofNat_of_zero_le h2
  have e := pow128 k
  have e2 : ((128 : Int) ^ k) = ((128 ^ k : Nat) : Int) := by simp
  rw [e2] at h1 h64 ⊢
  have h5 : ((d * 128 ^ k : Nat) : Int) < 18446744073709551616 := by rw [Int.natCast_mul]; exact h64
  have h3 := or_shift_nat y d (7 * k) (by rw [e]; omega) (by omega) (by rw [e]; omega)
  rw [h3, e, Int.natCast_add, Int.natCast_mul]

/-- 'y&127 | 128' -/
theorem low7 (y : Int) (h0 : 0 ≤ y) (h1 : y < 18446744073709551616) : bits .or .u64 (bits .and .u64 y 127) 128 = y % 128 + 128 := by
  obtain ⟨y, rfl⟩ := Int.eq_ofNat_of_zero_le h0
  have e1 : bits .and .u64 (y : Int) ((127 : Nat) : Int) = ((y &&& 127 : Nat) : Int) := u64_and_nat y 127 (by omega) (by omega)
  have e2 : y &&& 127 = y % 128 := Nat.and_two_pow_sub_one_eq_mod y 7
  have e3 : bits .or .u64 ((y % 128 : Nat) : Int) ((128 : Nat) : Int) = ((y % 128 ||| 128 : Nat) : Int) := u64_or_nat _ 128 (by omega) (by omega)
  have e4 : y % 128 ||| 128 = y % 128 + 128 := by
    have := Nat.shiftLeft_add_eq_or_of_lt (i := 7) (b := y % 128) (by omega) 1
    rw [Nat.or_comm]
    have h : 1 <<< 7 = 128 := rfl
    rw [h] at this
    omega
  have a1 : ((127 : Nat) : Int) = 127 := rfl
  have a2 : ((128 : Nat) : Int) = 128 := rfl
  rw [a1] at e1
  rw [a2] at e3
  rw [e1, e2, e3, e4]
  omega

theorem or128 (d : Int) (h0 : 0 ≤ d) (h1 : d < 128) : bits .or .u8 d 128 = d + 128 := by
  obtain ⟨d, rfl⟩ := Int.eq_ofNat_of_zero_le h0
  have e3 : bits .or .u8 (d : Int) ((128 : Nat) : Int) = ((d ||| 128 : Nat) : Int) := u8_or_nat _ 128 (by omega) (by omega)
  have e4 : d ||| 128 = d + 128 := by
    have := Nat.shiftLeft_add_eq_or_of_lt (i := 7) (b := d) (by omega) 1
    rw [Nat.or_comm]
    have h : 1 <<< 7 = 128 := rfl
    rw [h] at this
    omega
  have a2 : ((128 : Nat) : Int) = 128 := rfl
  rw [a2] at e3
  rw [e3, e4]
  omega
end Go.Proofs.Ytmojnliljaefbaa
