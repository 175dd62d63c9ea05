/- Rows of rows of bytes: what stays, and some that are laid. Over any program; no conditions. -/
import Derived.Test.YtjccpkekhjhafaaArgs
import Derived.Test.YtjccpkekhjhafaaBut
namespace Go.Proofs.Ytjccpkekhjhafaa
set_option linter.unusedVariables false
set_option linter.unusedSimpArgs false
open Go.RowKit

theorem Sls.ext {w w' : World} {v : Value} {zss : List (List Int)} (h : Sls w v zss) (he : Ext w w') : Sls w' v zss := by
  obtain ⟨a, c, h1, h2, h4⟩ := h
  refine ⟨a, c, h1, h2, ?_⟩
  rcases h4 with h4 | ⟨g, off, h4, h5⟩
  · exact .inl h4
  · refine .inr ⟨g, off, h4, fun i hi => ?_⟩
    obtain ⟨s, h6, h7⟩ := h5 i hi
    exact ⟨s, he.cellOf h6, h7.ext he⟩

theorem drop_cons' {α : Type} (zs : List α) (k : Nat) (d x : α) (h : k < zs.length) (hx : zs.getD k d = x) : zs.drop k = x :: zs.drop (k + 1) := by
  rw [List.getD_eq_getElem?_getD, List.getElem?_eq_getElem h, Option.getD_some] at hx
  rw [← hx, ← List.getElem_cons_drop h]

theorem Sls.one {w : World} {s : Value} {zs : List Int} {e : TypeId} (h : Sl .u8 w s zs) (g : Nat) (hg : g = w.heap.size) : Sls (w.alloc (.cells #[s] e)) (.slice (some ⟨g, 0, none⟩) 1 1) [zs] := by
  subst hg
  refine ⟨_, 1, rfl, by simp [maxLen], .inr ⟨w.heap.size, 0, rfl, fun i hi => ?_⟩⟩
  have he : Ext w (w.alloc (.cells #[s] e)) := (Below.refl _ _).alloc (Nat.le_refl _) _
  match i, hi with
  | 0, _ => exact ⟨s, by simp, h.ext he⟩
theorem Sls.two {w : World} {s u : Value} {zs ys : List Int} {e : TypeId} (h : Sl .u8 w s zs) (h' : Sl .u8 w u ys) (g : Nat) (hg : g = w.heap.size) : Sls (w.alloc (.cells #[s, u] e)) (.slice (some ⟨g, 0, none⟩) 2 2) [zs, ys] := by
  subst hg
  refine ⟨_, 2, rfl, by simp [maxLen], .inr ⟨w.heap.size, 0, rfl, fun i hi => ?_⟩⟩
  have he : Ext w (w.alloc (.cells #[s, u] e)) := (Below.refl _ _).alloc (Nat.le_refl _) _
  match i, hi with
  | 0, _ => exact ⟨s, by simp, h.ext he⟩
  | 1, _ => exact ⟨u, by simp, h'.ext he⟩
theorem Sls.none (w : World) : Sls w (.slice .none 0 0) [] := ⟨_, 0, rfl, by simp, .inl rfl⟩

theorem flatten_take {zss : List (List Int)} {k : Nat} {zs : List Int} (hk : k < zss.length) (h : zss.getD k [] = zs) : (zss.take (k + 1)).flatten = (zss.take k).flatten ++ zs := by
  rw [List.getD_eq_getElem?_getD, List.getElem?_eq_getElem hk, Option.getD_some] at h
  rw [List.take_add_one, List.getElem?_eq_getElem hk, Option.toList_some, List.flatten_append, h]
  simp
theorem flatten_take_le (zss : List (List Int)) (k : Nat) : (zss.take k).flatten.length ≤ zss.flatten.length := by
  have h : (zss.take k).flatten ++ (zss.drop k).flatten = zss.flatten := by rw [← List.flatten_append, List.take_append_drop]
  rw [← h, List.length_append]
  omega

/-- The row at place k. -/
theorem Sls.row {w : World} {a : Option Addr} {n c : Nat} {zss : List (List Int)} (h : Sls w (.slice a n c) zss) {k : Nat} (hk : k < zss.length) :
    ∃ g off a2 c2, a = some ⟨g, off, .none⟩ ∧ w.cell? ⟨g, off + k, .none⟩ = some (.slice a2 (zss.getD k []).length c2) ∧ c2 ≤ maxLen ∧ (zss.getD k []).length ≤ c2 ∧ Sl .u8 w (.slice a2 (zss.getD k []).length c2) (zss.getD k []) := by
  obtain ⟨a', c', hv, _, h4⟩ := h
  simp only [Value.slice.injEq] at hv
  obtain ⟨rfl, _, rfl⟩ := hv
  rcases h4 with h4 | ⟨g, off, rfl, h5⟩
  · rw [h4] at hk; exact absurd hk (by simp)
  obtain ⟨s, h6, h7⟩ := h5 k hk
  have h8 := h7
  obtain ⟨a2, c2, rfl, h9, h10, _⟩ := h7
  exact ⟨g, off, a2, c2, rfl, h6, h10, h9, h8⟩
end Go.Proofs.Ytjccpkekhjhafaa
