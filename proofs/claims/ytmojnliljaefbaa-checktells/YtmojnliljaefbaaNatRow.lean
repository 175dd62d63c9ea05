/- Rows of naturals among Go's ints: made, read, stored to. -/
import Derived.Test.YtmojnliljaefbaaCsMath
import Derived.Test.YtmojnliljaefbaaInts
namespace Go.Proofs.Ytmojnliljaefbaa
set_option linter.unusedVariables false
set_option linter.unusedSimpArgs false
open Go.RowKit

theorem Own.intCell {B : Nat} {w : World} {g n cap : Nat} {l : List Nat} (h : Own .i64 3 B w (.slice (some ⟨g, 0, none⟩) n cap) (natL l)) (hn : l.length = n) (j : Nat) (hj : j < n) : w.cell? ⟨g, j, none⟩ = some (.int .i64 (l.getD j 0 : Nat)) := by
  rw [h.cell (by rw [natL_len]; exact hn) j hj, natL_at]

theorem Own.storeN {B : Nat} {w : World} {g n cap : Nat} {l : List Nat} (h : Own .i64 3 B w (.slice (some ⟨g, 0, none⟩) n cap) (natL l)) (hn : l.length = n) (j x : Nat) :
    Own .i64 3 B (w.setCell ⟨g, j, none⟩ (.int .i64 (x : Int))) (.slice (some ⟨g, 0, none⟩) n cap) (natL (l.set j x)) := by
  rw [natL_set]
  exact h.store (by rw [natL_len]; exact hn) j x

theorem natL_rep (n : Nat) : List.replicate n (0 : Int) = natL (List.replicate n 0) := by simp [natL]

/-- 'make([]int, n)', as naturals. -/
theorem make_natsB (w : World) (n : Nat) (hn : n ≤ 4000000) : ∃ w', (Instr.makeSlice 23 (.int .i64 (n : Int)) (.int .i64 (n : Int))).run Try.prog w = .ok (.slice (some ⟨w.heap.size, 0, none⟩) n n) w' ∧ Own .i64 3 w.heap.size w' (.slice (some ⟨w.heap.size, 0, none⟩) n n) (natL (List.replicate n 0)) ∧ Ext w w' := by
  obtain ⟨w', h1, h2, h3⟩ := make_intsB w n hn
  exact ⟨w', h1, by rw [← natL_rep]; exact h2, h3⟩

theorem make_nats (w : World) (n : Nat) (hn : n ≤ 1000000) : ∃ w', (Instr.makeSlice 23 (.int .i64 (n : Int)) (.int .i64 (n : Int))).run Try.prog w = .ok (.slice (some ⟨w.heap.size, 0, none⟩) n n) w' ∧ Own .i64 3 w.heap.size w' (.slice (some ⟨w.heap.size, 0, none⟩) n n) (natL (List.replicate n 0)) ∧ Ext w w' := make_natsB w n (by omega)

/-- A row of naturals that may be read. -/
theorem Sl.nat {w : World} {a : Option Addr} {n c : Nat} {l : List Nat} (h : Sl .i64 w (.slice a n c) (natL l)) : l.length = n ∧ n ≤ c ∧ c ≤ maxLen ∧ (0 < n → ∃ g off, a = some ⟨g, off, none⟩ ∧ ∀ i, i < n → w.cell? ⟨g, off + i, none⟩ = some (.int .i64 (l.getD i 0 : Nat))) := by
  have h' := h
  obtain ⟨a', c', h1, h2, h3, _, _⟩ := h
  simp only [Value.slice.injEq] at h1
  obtain ⟨rfl, rfl, rfl⟩ := h1
  refine ⟨(natL_len l).symm, h2, h3, fun h0 => ?_⟩
  obtain ⟨_, g, off, h4, h5⟩ := h'.at (fun e => by rw [e] at h0; simp at h0)
  exact ⟨g, off, h4, fun i hi => by rw [h5 i hi, natL_at]⟩

theorem Own.keep {k : IntKind} {e : TypeId} {B b g n c : Nat} {w w' : World} {zs : List Int} (h : Own k e B w (.slice (some ⟨g, 0, none⟩) n c) zs) (hne : g ≠ b) (hB : But b w w') : Own k e B w' (.slice (some ⟨g, 0, none⟩) n c) zs :=
  World.ownsRow.kept (row := some b) h hB (.inr (by simp [Value.ownBlock]; exact hne))

theorem but_set (w : World) (b j : Nat) (v : Value) : But b w (w.setCell ⟨b, j, none⟩ v) := (But.refl _ _).setCell _ _

/-- A row of ints that may be read. -/
theorem Sl.int {w : World} {a : Option Addr} {n c : Nat} {l : List Int} (h : Sl .i64 w (.slice a n c) l) : l.length = n ∧ n ≤ c ∧ c ≤ maxLen ∧ (0 < n → ∃ g off, a = some ⟨g, off, none⟩ ∧ ∀ i, i < n → w.cell? ⟨g, off + i, none⟩ = some (.int .i64 (l.getD i 0))) := by
  have h' := h
  obtain ⟨a', c', h1, h2, h3, _, _⟩ := h
  simp only [Value.slice.injEq] at h1
  obtain ⟨rfl, rfl, rfl⟩ := h1
  refine ⟨rfl, h2, h3, fun h0 => ?_⟩
  obtain ⟨_, g, off, h4, h5⟩ := h'.at (fun e => by rw [e] at h0; simp at h0)
  exact ⟨g, off, h4, h5⟩
end Go.Proofs.Ytmojnliljaefbaa
