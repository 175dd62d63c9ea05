/- Bytes: what each seat of the program says of its type, and slices of bytes read at a place. -/
import Derived.Test.YtmojnliljaefbaaRows
import Derived.Test.YtmojnliljaefbaaBut
namespace Go.Proofs.Ytmojnliljaefbaa
set_option linter.unusedVariables false
set_option linter.unusedSimpArgs false
open Go.RowKit

/-- Bytes. -/
def Bytes8 (zs : List Int) : Prop := ∀ z ∈ zs, 0 ≤ z ∧ z ≤ 255

theorem Bytes8.drop {zs : List Int} (h : Bytes8 zs) (m : Nat) : Bytes8 (zs.drop m) := fun z hz => h z (List.mem_of_mem_drop hz)
theorem Bytes8.takeN {zs : List Int} (h : Bytes8 zs) (m : Nat) : Bytes8 (zs.take m) := fun z hz => h z (List.mem_of_mem_take hz)
theorem Bytes8.app {xs ys : List Int} (h : Bytes8 xs) (h' : Bytes8 ys) : Bytes8 (xs ++ ys) := fun z hz => (List.mem_append.1 hz).elim (h z) (h' z)
theorem Bytes8.get {zs : List Int} (h : Bytes8 zs) (i : Nat) : 0 ≤ zs.getD i 0 ∧ zs.getD i 0 ≤ 255 := by
  by_cases hi : i < zs.length
  · rw [List.getD_eq_getElem?_getD, List.getElem?_eq_getElem hi]; exact h _ (List.getElem_mem hi)
  · rw [List.getD_eq_getElem?_getD, List.getElem?_eq_none (by omega)]; simp

theorem Sl.in {k : IntKind} {B : Nat} {w w' : World} {v : Value} {zs : List Int} (h : Sl k w v zs) (hl : zs = [] ∨ ∀ x n c, v = .slice (some x) n c → x.block < B) (hB : Below B w w') : Sl k w' v zs := by
  obtain ⟨a, c, rfl, h2, h3, h0, h4⟩ := h
  refine ⟨a, c, rfl, h2, h3, h0, ?_⟩
  rcases h4 with h4 | ⟨g, off, rfl, h5⟩
  · exact .inl h4
  · rcases hl with hl | hl
    · exact .inl hl
    · have hg : g < B := hl _ _ _ rfl
      exact .inr ⟨g, off, rfl, fun i hi => (hB.cell (p := ⟨g, off + i, none⟩) hg).trans (h5 i hi)⟩

theorem infoU8 : (Try.prog.info? 5).map (fun i => (i.zero, i.size, i.bytes)) = some (some (.int .u8 0), 1, 1) := by kernel_rfl

theorem size8 : ∀ w, (Go.sizeOf 5).run Try.prog w = .ok 1 w := by intro w; kernel_rfl

theorem Sl.at {k : IntKind} {w : World} {a : Option Addr} {n c : Nat} {zs : List Int} (h : Sl k w (.slice a n c) zs) (hn : zs ≠ []) : zs.length = n ∧ ∃ g off, a = some ⟨g, off, none⟩ ∧ ∀ i, i < n → w.cell? ⟨g, off + i, none⟩ = some (.int k (zs.getD i 0)) := by
  obtain ⟨a', c', h1, h2, h3, h4, h5⟩ := h
  simp only [Value.slice.injEq] at h1
  obtain ⟨rfl, rfl, rfl⟩ := h1
  rcases h5 with h5 | ⟨g, off, h5, h6⟩
  · exact absurd h5 hn
  · exact ⟨rfl, g, off, h5, h6⟩

theorem Sl.cellAt {k : IntKind} {w : World} {g off n c : Nat} {zs : List Int} (h : Sl k w (.slice (some ⟨g, off, none⟩) n c) zs) (i : Nat) (hi : i < n) : w.cell? ⟨g, off + i, none⟩ = some (.int k (zs.getD i 0)) := by
  obtain ⟨a', c', h1, h2, h3, h4, h5⟩ := h
  simp only [Value.slice.injEq] at h1
  obtain ⟨rfl, rfl, rfl⟩ := h1
  rcases h5 with h5 | ⟨g', off', h5, h6⟩
  · rw [h5] at hi; simp at hi
  · simp only [Option.some.injEq, Addr.mk.injEq, and_true] at h5
    obtain ⟨rfl, rfl⟩ := h5
    exact h6 i hi
end Go.Proofs.Ytmojnliljaefbaa
