/- A Cursor in memory (the program's, the document's), and contracts of bytes.Clone, New, has, skip and Left. -/
import Derived.Test.YthdndcoannigmaaBut
import Derived.Test.YthdndcoannigmaaVarRPut
import Derived.Laws.LoneSync
import Derived.RegionTactic
import Derived.RegionCalls
import Derived.Deep.RegionWith
import Derived.Laws.NewBlocks
namespace Go.Proofs.Ythdndcoannigmaa
set_option linter.unusedVariables false
set_option linter.unusedSimpArgs false
open Go.RowKit

/-- Block b is a cursor (of type T) of which the bytes zs are left; they lie in a block below it. -/
def Cur (T : TypeId) (w : World) (b : Nat) (zs : List Int) : Prop := ∃ v, w.heap[b]? = some (.cells #[v] T (0, 0)) ∧ Sl .u8 w v zs ∧ (zs = [] ∨ ∀ x n c, v = .slice (some x) n c → x.block < b)

/-- Bytes. -/
def Bytes8 (zs : List Int) : Prop := ∀ z ∈ zs, 0 ≤ z ∧ z ≤ 255

theorem Sl.in {k : IntKind} {B : Nat} {w w' : World} {v : Value} {zs : List Int} (h : Sl k w v zs) (hl : zs = [] ∨ ∀ x n c, v = .slice (some x) n c → x.block < B) (hB : Below B w w') : Sl k w' v zs := by
  obtain ⟨a, c, rfl, h2, h3, h0, h4⟩ := h
  refine ⟨a, c, rfl, h2, h3, h0, ?_⟩
  rcases h4 with h4 | ⟨g, off, rfl, h5⟩
  · exact .inl h4
  · rcases hl with hl | hl
    · exact .inl hl
    · have hg : g < B := hl _ _ _ rfl
      exact .inr ⟨g, off, rfl, fun i hi => (hB.cell (p := ⟨g, off + i, none⟩) hg).trans (h5 i hi)⟩

section
variable {T T' : TypeId} {w w' : World} {b b' : Nat} {zs ys : List Int}
theorem Cur.lt (h : Cur T w b zs) : b < w.heap.size := by obtain ⟨v, h, _⟩ := h; exact (Array.getElem?_eq_some_iff.1 h).1
theorem Cur.sl (h : Cur T w b zs) : ∃ v, w.heap[b]? = some (.cells #[v] T (0, 0)) ∧ Sl .u8 w v zs := by obtain ⟨v, h1, h2, _⟩ := h; exact ⟨v, h1, h2⟩
theorem Cur.below (h : Cur T w b zs) {B : Nat} (hb : b < B) (he : Below B w w') : Cur T w' b zs := by
  obtain ⟨v, h1, h2, h3⟩ := h
  refine ⟨v, (he.block b hb).trans h1, h2.in (B := B) ?_ he, h3⟩
  rcases h3 with h3 | h3
  · exact .inl h3
  · exact .inr fun x n c hv => Nat.lt_trans (h3 x n c hv) hb
theorem Cur.ext (h : Cur T w b zs) (he : Ext w w') : Cur T w' b zs := h.below h.lt he
theorem Cur.noInt (h : Cur T w b zs) : ∀ j x, w.cell? ⟨b, j, none⟩ ≠ some (.int .u8 x) := by
  intro j x hc
  obtain ⟨v, h1, a, c, rfl, _⟩ := h.sl
  simp only [World.cell?, h1] at hc
  match j, hc with
  | 0, hc => simp at hc
  | j + 1, hc => simp at hc
/-- A slice of bytes is as it was where a cursor alone was changed. -/
theorem Sl.cur {v : Value} (h : Sl .u8 w v ys) (hC : Cur T w b zs) (hB : But b w w') : Sl .u8 w' v ys := h.but' hC.noInt hB
theorem Cur.but (h : Cur T w b zs) (hC : Cur T' w b' ys) (hne : b ≠ b') (hB : But b' w w') : Cur T w' b zs := by
  have hl := h.lt
  obtain ⟨v, h1, h2, h3⟩ := h
  exact ⟨v, (hB.block b hl (fun e => hne (by simpa using e))).trans h1, h2.cur hC hB, h3⟩
theorem Cur.made (w : World) {v : Value} (hs : Sl .u8 w v zs) : Cur T (w.alloc (.cells #[v] T)) w.heap.size zs := by
  refine ⟨v, heap_alloc_new w _, hs.ext (ext_alloc w _), ?_⟩
  obtain ⟨a, c, rfl, h2, h3, h0, h4⟩ := hs
  rcases h4 with h4 | ⟨g, off, rfl, h5⟩
  · exact .inl h4
  · cases zs with
    | nil => exact .inl rfl
    | cons z r =>
      refine .inr fun x n c hv => ?_
      simp only [Value.slice.injEq, Option.some.injEq] at hv
      rw [← hv.1]
      exact World.block_lt_of_cell? _ _ (h5 0 (by simp))
/-- What lies in a cursor, and how it is cut in two. -/
theorem Cur.cut {P : Program} (h : Cur T w b zs) (t e : TypeId) (ht : P.underlying t = some (.slice e)) (hz : ∀ w, (Go.sizeOf e).run P w = .ok 1 w) (n : Nat) (hn : n ≤ zs.length) :
    ∃ a c a', w.cell? ⟨b, 0, none⟩ = some (.slice a zs.length c) ∧ w.frozen? ⟨b, 0, none⟩ = false ∧ zs.length ≤ c ∧ c ≤ maxLen ∧
      (∀ W, (Instr.slice t (.slice a zs.length c) none (some (.int .i64 (n : Int))) none).run P W = .ok (.slice a n c) W) ∧
      (∀ W, (Instr.slice t (.slice a zs.length c) (some (.int .i64 (n : Int))) none none).run P W = .ok (.slice a' (zs.length - n) (c - n)) W) ∧
      But b w (w.setCell ⟨b, 0, none⟩ (.slice a' (zs.length - n) (c - n))) ∧
      Sl .u8 (w.setCell ⟨b, 0, none⟩ (.slice a' (zs.length - n) (c - n))) (.slice a n c) (zs.take n) ∧
      Cur T (w.setCell ⟨b, 0, none⟩ (.slice a' (zs.length - n) (c - n))) b (zs.drop n) := by
  have hC := h
  obtain ⟨v, h1, hs, h3⟩ := h
  obtain ⟨a, c, rfl, h4, h5, _⟩ := id hs
  obtain ⟨r1, s1⟩ := hs.runTake (P := P) t e ht hz n hn
  obtain ⟨a', r2, s2, hbl⟩ := hs.runDrop (P := P) t e ht hz n hn
  have hB : But b w (w.setCell ⟨b, 0, none⟩ (.slice a' (zs.length - n) (c - n))) := (But.refl b w).setCell 0 _
  refine ⟨a, c, a', by simp [World.cell?, h1], by simp [World.frozen?, h1], h4, h5, r1, r2, hB, s1.cur hC hB, _, ?_, s2.cur hC hB, ?_⟩
  · simp only [World.setCell, Array.getElem?_modify]
    rw [if_pos trivial, h1]
    simp
  · rcases h3 with h3 | h3
    · exact .inl (by rw [h3]; simp)
    · refine .inr fun x n' c' hv => ?_
      simp only [Value.slice.injEq] at hv
      obtain ⟨y, hy, hxy⟩ := hbl x hv.1
      rw [hxy]
      exact h3 y _ _ (by rw [hy])
end

theorem size8 : ∀ w, (Go.sizeOf 5).run Try.prog w = .ok 1 w := by intro w; kernel_rfl

/-- bytes.Clone -/
theorem clone_any (a : Option Addr) (len c : Nat) (zs : List Int) (w : World) (hs : Sl .u8 w (.slice a len c) zs) (hm : zs.length ≤ 1000000) :
    Calls Try.prog 19 #[.slice a len c] w fun e w' => ∃ s, e = .returned s ∧ Own .u8 5 w.heap.size w' s zs ∧ Ext w w' := by
  have HS := hide' hs
  cases a with
  | none =>
    obtain ⟨a', c', h1, h2, h3, h4, h5⟩ := hs
    simp only [Value.slice.injEq] at h1
    obtain ⟨rfl, rfl, rfl⟩ := h1
    have hc := h4 rfl
    have hz : zs = [] := List.length_eq_zero_iff.1 (by omega)
    subst hz
    clear h2 h3 h4 h5 hc
    have hq := fun wx => Go.Lib.run_eql_slice_nil (P := Try.prog) wx 22 5 none 0 c 0 0 Try.underlying22
    go_enter Try.func19, Try.ntmps19
    go_wp2
    go_ret
    exact ⟨_, rfl, Own.nil _ _ _ _, Ext.refl _⟩
  | some a =>
    clear hs
    have hq := fun wx => Go.Lib.run_eql_slice_nil (P := Try.prog) wx 22 5 (some a) len c 0 0 Try.underlying22
    go_enter Try.func19, Try.ntmps19
    go_wp2_with (at_builtin; refine wpList_join _ rfl _ _ 22 rfl 5 .u8 1 Try.underlying22 infoU8 w.heap.size _ _ [] zs rfl rfl (Own.made #[] 0 (Nat.le_refl _) (by simp [maxLen]) rfl) (HS.out.ext (ext_alloc w _)) ?c1 (by simp) ?_)
    case c1 => unfold maxLen; simp only [List.length_nil]; omega
    intro v3 w3 ho3 hb3
    have HO3 : Hid (Own .u8 5 w.heap.size w3 v3 zs) := by first | exact ho3 | simpa using ho3
    have HB3 : Hid (Ext w w3) := Below.trans (ext_alloc w (.cells #[] 5)) hb3
    clear ho3 hb3
    go_wp2
    go_ret
    exact ⟨_, rfl, HO3.out, HB3.out⟩

theorem build_cur (w : World) (v : Value) (h : ∃ a n c, v = .slice a n c) : (Instr.box 51 (.agg #[v])).run Try.prog w = .ok (.pointer (some ⟨w.heap.size, 0, none⟩)) (w.alloc (.cells #[v] 51)) := by
  obtain ⟨a, n, c, rfl⟩ := h
  kernel_rfl

theorem new_any (a : Option Addr) (len c : Nat) (zs : List Int) (w : World) (hs : Sl .u8 w (.slice a len c) zs) (hm : zs.length ≤ 1000000) :
    Calls Try.prog 7 #[.slice a len c] w fun e w' => ∃ b, e = .returned (.pointer (some ⟨b, 0, none⟩)) ∧ w.heap.size ≤ b ∧ Cur 51 w' b zs ∧ Ext w w' := by
  go_enter Try.func7, Try.ntmps7
  go_wp2_with fail
  refine (clone_any a len c zs w hs hm).mono ?_
  rintro e w1 ⟨s, rfl, ho, hb⟩
  have HO := hide' ho.sl
  have HB := hide' hb
  obtain ⟨a1, c1, rfl, _⟩ := ho.sl
  clear ho hb hs
  go_wp2
  go_ret
  exact ⟨_, rfl, HB.out.size, Cur.made _ HO.out, HB.out.trans (ext_alloc _ _)⟩

theorem has_any (b : Nat) (zs : List Int) (n : Int) (w : World) (hC : Cur 51 w b zs) :
    Calls Try.prog 20 #[.pointer (some ⟨b, 0, none⟩), .int .i64 n] w fun e w' => e = .returned (.bool (decide (0 ≤ n ∧ n ≤ (zs.length : Int)))) ∧ w' = w := by
  obtain ⟨v, h1, a, c, rfl, h2, h3, _⟩ := hC.sl
  have hc : w.cell? ⟨b, 0, none⟩ = some (.slice a zs.length c) := by simp [World.cell?, h1]
  unfold maxLen at h3
  clear h1
  by_cases g1 : n < 0
  · have e1 : decide (0 ≤ n ∧ n ≤ (zs.length : Int)) = false := by simp; omega
    rw [e1]
    go_enter Try.func20, Try.ntmps20
    go_wp2
    go_ret
    exact ⟨rfl, rfl⟩
  · have g1' : 0 ≤ n := by omega
    by_cases g2 : n ≤ (zs.length : Int)
    · have e1 : decide (0 ≤ n ∧ n ≤ (zs.length : Int)) = true := by simp; omega
      rw [e1]
      go_enter Try.func20, Try.ntmps20
      go_wp2
      go_ret
      exact ⟨rfl, rfl⟩
    · have g2' : (zs.length : Int) < n := by omega
      have e1 : decide (0 ≤ n ∧ n ≤ (zs.length : Int)) = false := by simp; omega
      rw [e1]
      go_enter Try.func20, Try.ntmps20
      go_wp2
      go_ret
      exact ⟨rfl, rfl⟩

theorem has_nil (n : Int) (w : World) : Calls Try.prog 20 #[.pointer none, .int .i64 n] w fun e w' => e = .returned (.bool false) ∧ w' = w := by
  go_enter Try.func20, Try.ntmps20
  go_wp2
  go_ret
  exact ⟨rfl, rfl⟩

theorem left_any (b : Nat) (zs : List Int) (w : World) (hC : Cur 51 w b zs) :
    Calls Try.prog 16 #[.pointer (some ⟨b, 0, none⟩)] w fun e w' => e = .returned (.int .i64 (zs.length : Int)) ∧ w' = w := by
  obtain ⟨v, h1, a, c, rfl, h2, h3, _⟩ := hC.sl
  have hc : w.cell? ⟨b, 0, none⟩ = some (.slice a zs.length c) := by simp [World.cell?, h1]
  unfold maxLen at h3
  clear h1
  go_enter Try.func16, Try.ntmps16
  go_wp2
  go_ret
  exact ⟨rfl, rfl⟩

theorem left_nil (w : World) : Calls Try.prog 16 #[.pointer none] w fun e w' => e = .returned (.int .i64 0) ∧ w' = w := by
  go_enter Try.func16, Try.ntmps16
  go_wp2
  go_ret
  exact ⟨rfl, rfl⟩

theorem skip_any (b : Nat) (zs : List Int) (n : Nat) (w : World) (hC : Cur 51 w b zs) (hn : n ≤ zs.length) :
    Calls Try.prog 21 #[.pointer (some ⟨b, 0, none⟩), .int .i64 (n : Int)] w fun e w' => ∃ a c, e = .returned (.slice a n c) ∧ Sl .u8 w' (.slice a n c) (zs.take n) ∧ Cur 51 w' b (zs.drop n) ∧ But b w w' := by
  obtain ⟨a, c, a', hc, hf, h2, h3, r1, r2, hB, hS, hC'⟩ := hC.cut (P := Try.prog) 22 5 Try.underlying22 size8 n hn
  have HB := hide' hB
  have HS := hide' hS
  have HC := hide' hC'
  unfold maxLen at h3
  clear hC hB hS hC'
  go_enter Try.func21, Try.ntmps21
  go_wp2
  go_ret
  exact ⟨_, _, rfl, HS.out, HC.out, HB.out⟩
end Go.Proofs.Ythdndcoannigmaa
