/- All but one block as it was; slices cut. Over any program, no conditions. -/
import Derived.Laws.Pointers
import Derived.Test.YtmojnliljaefbaaLib
namespace Go.Proofs.Ytmojnliljaefbaa
set_option linter.unusedVariables false
set_option linter.unusedSimpArgs false
open Go.RowKit

/-- All but block b is as it was. -/
abbrev But (b : Nat) (w w' : World) : Prop := w.grownBy w' (some b)

theorem But.refl (b : Nat) (w : World) : But b w w := ⟨rfl, rfl, rfl, Nat.le_refl _, fun _ _ _ => rfl⟩
theorem But.trans {b : Nat} {x y z : World} (h : But b x y) (k : But b y z) : But b x z :=
  ⟨k.os.trans h.os, k.tape.trans h.tape, k.output.trans h.output, Nat.le_trans h.size k.size, fun i hi hne => (k.block i (Nat.lt_of_lt_of_le hi h.size) hne).trans (h.block i hi hne)⟩
theorem But.setCell {b : Nat} {x w : World} (h : But b x w) (j : Nat) (v : Value) : But b x (w.setCell ⟨b, j, none⟩ v) :=
  h.trans ⟨rfl, rfl, rfl, by simp [World.setCell], fun k _ hne => Below.heap_setCell _ _ _ _ (fun e => hne (by rw [e]))⟩
theorem But.drew {b : Nat} {x w : World} (h : But b x w) : But b x w.drew := ⟨h.os, h.tape, h.output, h.size, h.block⟩
theorem But.ofExt {b : Nat} {w w' : World} (h : Ext w w') : But b w w' := ⟨h.os, h.tape, h.output, h.size, fun k hk _ => h.block k hk⟩
theorem But.below {b B : Nat} {w w' : World} (h : But b w w') (hB : B ≤ b) (hw : B ≤ w.heap.size) : Below B w w' :=
  ⟨h.os, h.tape, h.output, h.size, fun k hk => h.block k (by omega) (fun e => by simp at e; omega)⟩

theorem ext_alloc (w : World) (o : Obj) : Ext w (w.alloc o) := (Below.refl _ _).alloc (Nat.le_refl _) _

/-- From a world in which block b is new: all that was there is as it was. -/
theorem Ext.but {b : Nat} {w w1 w2 : World} (h : Ext w w1) (hb : w.heap.size ≤ b) (k : But b w1 w2) : Ext w w2 := Below.trans h (k.below hb h.size)

theorem heap_alloc_top (w : World) (o : Obj) : (w.alloc o).heap[w.heap.size]? = some o := heap_alloc_new w o

/-- A row just laid, whatever its mark, reads as its numbers. -/
theorem Sl.lit' {k : IntKind} {e : TypeId} {fr : Nat × Nat} (w : World) (zs : List Int) (n : Nat) (hn : zs.length = n) (hm : n ≤ maxLen) : Sl k (w.alloc (.cells (zs.map (Value.int k)).toArray e fr)) (.slice (some ⟨w.heap.size, 0, none⟩) n n) zs := by
  subst hn
  refine ⟨_, _, rfl, Nat.le_refl _, hm, (fun h => by cases h), .inr ⟨w.heap.size, 0, rfl, fun i hi => ?_⟩⟩
  simp only [World.cell?, heap_alloc_top]
  simp [hi]


theorem Ext.drewN (w : World) (n : Nat) : Ext w (w.drewN n) := ⟨rfl, rfl, rfl, Nat.le_refl _, fun _ _ => rfl⟩

theorem Sl.drewN {k : IntKind} {w : World} {v : Value} {zs : List Int} (h : Sl k w v zs) (n : Nat) : Sl k (w.drewN n) v zs := h.ext (Ext.drewN w n)

/-- A call that draws and turns nothing. -/
theorem toExt {P : Program} {f : FuncId} {args : Array Value} {w : World} {v : Ending} (h : Calls P f args w fun e w' => e = v ∧ ∃ m, w' = w.drewN m) : Calls P f args w fun e w' => e = v ∧ Ext w w' :=
  h.mono fun e w' ⟨h1, m, h2⟩ => ⟨h1, by rw [h2]; exact Ext.drewN _ _⟩

/-- 'string(s)', whatever was drawn. -/
theorem Sl.strN {P : Program} {w : World} {v : Value} {zs : List Int} (h : Sl .u8 w v zs) (src e dst : TypeId) (hs : P.underlying src = some (.slice e)) (he : P.underlying e = some (.int .u8)) (hd : P.underlying dst = some .string) :
    ∀ m, (convert src dst v).run P (w.drewN m) = .ok (.string (strOfNums zs)) (w.drewN m) := fun m => (h.drewN m).str src e dst hs he hd

theorem Sl.but' {k : IntKind} {w w' : World} {b : Nat} {v : Value} {zs : List Int} (h : Sl k w v zs) (hC : ∀ j x, w.cell? ⟨b, j, none⟩ ≠ some (.int k x)) (hB : But b w w') : Sl k w' v zs := by
  obtain ⟨a, c, h1, h2, h3, h0, h4⟩ := h
  refine ⟨a, c, h1, h2, h3, h0, ?_⟩
  rcases h4 with h4 | ⟨g, off, h4, h5⟩
  · exact .inl h4
  · refine .inr ⟨g, off, h4, fun i hi => hB.cell (h5 i hi) ?_⟩
    intro e
    simp only [Option.some.injEq] at e
    subst e
    exact hC _ _ (h5 i hi)

theorem Own.low {k : IntKind} {e : TypeId} {B B' : Nat} {w : World} {s : Value} {zs : List Int} (h : Own k e B w s zs) (hB : B' ≤ B) : Own k e B' w s zs := by
  obtain ⟨h1, h2⟩ := h
  refine ⟨h1, ?_⟩
  rcases h2 with h2 | ⟨g, cap, cur, h2, h3, h4⟩
  · exact .inl h2
  · exact .inr ⟨g, cap, cur, h2, Nat.le_trans hB h3, h4⟩

theorem Own.ext {k : IntKind} {e : TypeId} {B : Nat} {w w' : World} {s : Value} {zs : List Int} (h : Own k e B w s zs) (he : Ext w w') : Own k e B w' s zs :=
  World.ownsRow.kept (row := none) h ⟨he.os, he.tape, he.output, he.size, fun i hi _ => he.block i hi⟩ (by cases hv : s.ownBlock <;> simp)

/-- 's[:n]' -/
theorem Sl.runTake {P : Program} {k : IntKind} {w : World} {a : Option Addr} {len c : Nat} {zs : List Int} (h : Sl k w (.slice a len c) zs) (t e : TypeId) (ht : P.underlying t = some (.slice e)) (hz : ∀ w, (Go.sizeOf e).run P w = .ok 1 w) (n : Nat) (hn : n ≤ zs.length) :
    (∀ W, (Instr.slice t (.slice a len c) none (some (.int .i64 (n : Int))) none).run P W = .ok (.slice a n c) W) ∧ Sl k w (.slice a n c) (zs.take n) := by
  have hl : len = zs.length := by obtain ⟨a', c', h1, _⟩ := h; simp only [Value.slice.injEq] at h1; exact h1.2.1
  have hc : zs.length ≤ c := by obtain ⟨a', c', h1, h2, _⟩ := h; simp only [Value.slice.injEq] at h1; omega
  refine ⟨fun W => ?_, h.take' n (by omega)⟩
  have ht' : P.underlying t = some (.slice (P.elem t)) := by simp [Program.elem, ht]
  have he : P.elem t = e := by simp [Program.elem, ht]
  rw [run_slice_h W t _ _ _ ht' .i64 _ (by omega) (by omega), he, hz]
  have hs : sliced a 0 n c 1 = .slice a n c := by
    unfold sliced
    by_cases h0 : c = 0
    · simp [h0]
    · cases a <;> simp [h0, Addr.add]
  simp only [Result.andThen, Int.toNat_natCast, hs]

/-- 's[n:]' -/
theorem Sl.runDrop {P : Program} {k : IntKind} {w : World} {a : Option Addr} {len c : Nat} {zs : List Int} (h : Sl k w (.slice a len c) zs) (t e : TypeId) (ht : P.underlying t = some (.slice e)) (hz : ∀ w, (Go.sizeOf e).run P w = .ok 1 w) (n : Nat) (hn : n ≤ zs.length) :
    ∃ a', (∀ W, (Instr.slice t (.slice a len c) (some (.int .i64 (n : Int))) none none).run P W = .ok (.slice a' (len - n) (c - n)) W) ∧ Sl k w (.slice a' (len - n) (c - n)) (zs.drop n) ∧ ∀ x, a' = some x → ∃ y, a = some y ∧ x.block = y.block := by
  obtain ⟨a', c', h1, h2, h3, h4, h5⟩ := h
  simp only [Value.slice.injEq] at h1
  obtain ⟨rfl, rfl, rfl⟩ := h1
  have ht' : P.underlying t = some (.slice (P.elem t)) := by simp [Program.elem, ht]
  have he : P.elem t = e := by simp [Program.elem, ht]
  refine ⟨if c = n then a else a.map (·.add n), fun W => ?_, ?_, fun x hx => ?_⟩
  · rw [run_slice_l W t _ _ _ ht' .i64 _ (by omega) (by omega), he, hz]
    simp only [Result.andThen, Int.toNat_natCast, sliced, Nat.mul_one]
  · have hl : (zs.drop n).length = zs.length - n := List.length_drop
    refine ⟨_, c - n, by rw [hl], by omega, by omega, fun h => ?_, ?_⟩
    · by_cases hcn : c = n
      · omega
      · rw [if_neg hcn] at h
        cases a with
        | none => have := h4 rfl; omega
        | some a => cases h
    · by_cases hcn : n = zs.length
      · exact .inl (by rw [hcn]; simp)
      · rcases h5 with rfl | ⟨b, off, rfl, h6⟩
        · exact .inl (by simp)
        · refine .inr ⟨b, off + n, ?_, fun i hi => ?_⟩
          · rw [if_neg (by omega)]; simp [Addr.add]
          · rw [Nat.add_assoc, h6 (n + i) (by omega)]
            simp [List.getD, List.getElem?_drop]
  · split at hx
    · exact ⟨x, hx, rfl⟩
    · cases a with
      | none => cases hx
      | some y => simp only [Option.map_some, Option.some.injEq] at hx; exact ⟨y, rfl, by rw [← hx]; unfold Addr.add; split <;> rfl⟩

/-- 's[l:n]' -/
theorem Sl.runCut {P : Program} {k : IntKind} {w : World} {a : Option Addr} {len c : Nat} {zs : List Int} (h : Sl k w (.slice a len c) zs) (t e : TypeId) (ht : P.underlying t = some (.slice e)) (hz : ∀ w, (Go.sizeOf e).run P w = .ok 1 w) (l n : Nat) (hl : l ≤ n) (hn : n ≤ zs.length) :
    ∃ a', (∀ W, (Instr.slice t (.slice a len c) (some (.int .i64 (l : Int))) (some (.int .i64 (n : Int))) none).run P W = .ok (.slice a' (n - l) (c - l)) W) ∧ Sl k w (.slice a' (n - l) (c - l)) ((zs.take n).drop l) := by
  have hlen : len = zs.length := by obtain ⟨a', c', h1, _⟩ := h; simp only [Value.slice.injEq] at h1; exact h1.2.1
  have hc : zs.length ≤ c := by obtain ⟨a', c', h1, h2, _⟩ := h; simp only [Value.slice.injEq] at h1; omega
  have ht' : P.underlying t = some (.slice (P.elem t)) := by simp [Program.elem, ht]
  have he : P.elem t = e := by simp [Program.elem, ht]
  have hT := h.take' n (by omega)
  have hnl : (zs.take n).length = n := by simp; omega
  obtain ⟨a1, r1, s1, _⟩ := hT.runDrop (P := P) t e ht hz l (by rw [hnl]; exact hl)
  have hr : ∀ W, (Instr.slice t (.slice a len c) (some (.int .i64 (l : Int))) (some (.int .i64 (n : Int))) none).run P W = (Instr.slice t (.slice a n c) (some (.int .i64 (l : Int))) none none).run P W := by
    intro W
    rw [run_slice_lh W t _ _ _ ht' .i64 .i64 _ _ (by omega) (by omega) (by omega), run_slice_l W t _ _ _ ht' .i64 _ (by omega) (by omega)]
    simp only [Int.toNat_natCast]
  exact ⟨a1, fun W => (hr W).trans (r1 W), s1⟩
end Go.Proofs.Ytmojnliljaefbaa
