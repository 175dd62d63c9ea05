/- A Crc in memory, and contracts of New, fill and of sync.Once over it. -/
import Derived.Test.YtkeelcjfpnbfkaaCrcNum
import Derived.Defers
import Derived.Laws.Pointers
import Derived.Laws.LoneSync
import Derived.RegionTactic
import Derived.RegionCalls
import Derived.Deep.RegionWith
import Derived.Laws.NewBlocks
namespace Go.Proofs.Ytkeelcjfpnbfkaa
set_option linter.unusedVariables false
set_option linter.unusedSimpArgs false
open Go.RowKit

/-- A Crc's cells: done, the lock's state, its sema, how often, the table. -/
def objL (d m r : Int) (t : List Int) : List Value := .int .u32 d :: .int .i32 m :: .int .u32 0 :: .int .i32 r :: t.map (Value.int .u32)
/-- Block b is a Crc. -/
def At (w : World) (b : Nat) (d m r : Int) (t : List Int) : Prop := w.heap[b]? = some (.cells (objL d m r t).toArray 54 (0, 0)) ∧ t.length = 256
def zeroL : List Int := List.replicate 256 0
def tabL : List Int := (List.range 256).map fun i => (tab i : Int)
/-- All but block b is as it was. -/
abbrev But (b : Nat) (w w' : World) : Prop := w.grownBy w' (some b)

theorem But.refl (b : Nat) (w : World) : But b w w := ⟨rfl, rfl, rfl, Nat.le_refl _, fun _ _ _ => rfl⟩
theorem But.trans {b : Nat} {x y z : World} (h : But b x y) (k : But b y z) : But b x z :=
  ⟨k.os.trans h.os, k.tape.trans h.tape, k.output.trans h.output, Nat.le_trans h.size k.size, fun i hi hne => (k.block i (Nat.lt_of_lt_of_le hi h.size) hne).trans (h.block i hi hne)⟩
theorem But.setCell {b : Nat} {x w : World} (h : But b x w) (j : Nat) (v : Value) : But b x (w.setCell ⟨b, j, none⟩ v) :=
  h.trans ⟨rfl, rfl, rfl, by simp [World.setCell], fun k _ hne => Below.heap_setCell _ _ _ _ (fun e => hne (by rw [e]))⟩
theorem But.drew {b : Nat} {x w : World} (h : But b x w) : But b x w.drew := ⟨h.os, h.tape, h.output, h.size, h.block⟩
theorem But.ofExt {b : Nat} {w w' : World} (h : Ext w w') : But b w w' := ⟨h.os, h.tape, h.output, h.size, fun k hk _ => h.block k hk⟩
theorem But.below {b B : Nat} {w w' : World} (h : But b w w') (hB : B ≤ b) (hw : B ≤ w.heap.size) : Below B w w' :=
  ⟨h.os, h.tape, h.output, h.size, fun k hk => h.block k (by omega) (fun e => by simp at e; omega)⟩

section
variable {w w' : World} {b : Nat} {d m r : Int} {t : List Int}
theorem At.lt (h : At w b d m r t) : b < w.heap.size := (Array.getElem?_eq_some_iff.1 h.1).1
theorem At.ext (h : At w b d m r t) (he : Ext w w') : At w' b d m r t := ⟨(he.block b h.lt).trans h.1, h.2⟩
theorem At.drew (h : At w b d m r t) : At w.drew b d m r t := h
theorem At.cellAt (h : At w b d m r t) (j : Nat) : w.cell? ⟨b, j, none⟩ = (objL d m r t)[j]? := by simp [World.cell?, h.1]
theorem At.frozen (h : At w b d m r t) (j : Nat) : w.frozen? ⟨b, j, none⟩ = false := by simp [World.frozen?, h.1]
theorem At.c0 (h : At w b d m r t) : w.cell? ⟨b, 0, none⟩ = some (.int .u32 d) := h.cellAt 0
theorem At.c1 (h : At w b d m r t) : w.cell? ⟨b, 1, none⟩ = some (.int .i32 m) := h.cellAt 1
theorem At.c3 (h : At w b d m r t) : w.cell? ⟨b, 3, none⟩ = some (.int .i32 r) := h.cellAt 3
theorem At.cT (h : At w b d m r t) (j : Nat) (hj : j < 256) : w.cell? ⟨b, 4 + j, none⟩ = some (.int .u32 (t.getD j 0)) := by
  have hl := h.2
  rw [h.cellAt, Nat.add_comm]
  simp [objL, List.getElem?_eq_getElem (show j < t.length by omega)]
theorem At.set (h : At w b d m r t) (j : Nat) (v : Value) : (w.setCell ⟨b, j, none⟩ v).heap[b]? = some (.cells ((objL d m r t).set j v).toArray 54 (0, 0)) := by
  simp only [World.setCell, Array.getElem?_modify]
  rw [if_pos trivial, h.1]
  simp
theorem At.set0 (h : At w b d m r t) (x : Int) : At (w.setCell ⟨b, 0, none⟩ (.int .u32 x)) b x m r t := ⟨h.set _ _, h.2⟩
theorem At.set1 (h : At w b d m r t) (x : Int) : At (w.setCell ⟨b, 1, none⟩ (.int .i32 x)) b d x r t := ⟨h.set _ _, h.2⟩
theorem At.set3 (h : At w b d m r t) (x : Int) : At (w.setCell ⟨b, 3, none⟩ (.int .i32 x)) b d m x t := ⟨h.set _ _, h.2⟩
theorem At.setT (h : At w b d m r t) (j : Nat) (x : Int) : At (w.setCell ⟨b, 4 + j, none⟩ (.int .u32 x)) b d m r (t.set j x) := by
  refine ⟨?_, by rw [List.length_set]; exact h.2⟩
  rw [h.set, Nat.add_comm]
  simp [objL, List.map_set]
end

theorem zeroL_len : zeroL.length = 256 := List.length_replicate
theorem tabL_len : tabL.length = 256 := by unfold tabL; rw [List.length_map, List.length_range]
def zeroA : Array Value := (objL 0 0 0 zeroL).toArray
theorem zero_crc (w : World) : (zeroValue 54).run Try.prog w = .ok (.agg zeroA) w := by kernel_rfl
theorem box_crc (w : World) : (Instr.box 54 (.agg zeroA)).run Try.prog w = .ok (.pointer (some ⟨w.heap.size, 0, none⟩)) (w.alloc (.cells zeroA 54)) := by kernel_rfl

theorem new_any (w : World) : Calls Try.prog 8 #[] w fun e w' => e = .returned (.pointer (some ⟨w.heap.size, 0, none⟩)) ∧ At w' w.heap.size 0 0 0 zeroL ∧ Ext w w' := by
  have h1 := zero_crc
  have h2 := box_crc
  go_enter Try.func8, Try.ntmps8
  go_wp2
  go_ret
  exact ⟨rfl, ⟨heap_alloc_new w _, zeroL_len⟩, (Below.refl _ _).alloc (Nat.le_refl _) _⟩
end Go.Proofs.Ytkeelcjfpnbfkaa
