/- Arguments opened: a slice of slices of bytes, as a row of values. Over any program; no conditions. -/
import Derived.Test.YtjccpkekhjhafaaVals
namespace Go.Proofs.Ytjccpkekhjhafaa
set_option linter.unusedVariables false
set_option linter.unusedSimpArgs false
open Go.RowKit Go.ChangeShapes Go.WideShapes Go.Deep

theorem open_shape {H : Type} {enc : TypeId × Value → H} {P : Program} {w : World} {t e q : TypeId} {a : Option Addr} {len cap : Nat} {d : DataW H} {ps : List MemPlace}
    (ht : P.underlying t = some (.slice e)) (he : P.underlying e = some (.slice q)) (hq : P.underlying q = some (.int .u8)) (ce : P.cellsOf e = 1) (cq : P.cellsOf q = 1)
    (h : DataW.Trod enc P w 0 (fun _ => true) true t (.slice a len cap) d ps) : (a = none → cap = 0) ∧ len ≤ cap ∧ cap ≤ maxLen := by
  obtain ⟨fuel, hf⟩ := h
  rcases open_int_rows ht he hq ce cq hf with ⟨hcs, _⟩ | ⟨x, len', cap', A, L, C, Z, hcs, _, hl, hm, hx, hrows⟩
  · simp [Value.cells] at hcs
    obtain ⟨rfl, rfl, rfl⟩ := hcs
    exact ⟨fun _ => rfl, Nat.le_refl _, by simp⟩
  simp [Value.cells] at hcs
  obtain ⟨rfl, rfl, rfl⟩ := hcs
  simp only [Prod.mk.injEq] at hx
  obtain ⟨rfl, _⟩ := hx
  exact ⟨(fun h => by cases h), hl, hm⟩

/-- The row's own values. -/
theorem Sls.vals {w : World} {a : Option Addr} {n c : Nat} {zss : List (List Int)} (h : Sls w (.slice a n c) zss) (hs : (a = .none → c = 0) ∧ n ≤ c ∧ c ≤ maxLen) : ∃ vs, SlV w (.slice a n c) vs ∧ Read8 w vs zss := by
  obtain ⟨a', c', hv, hm, h4⟩ := h
  simp only [Value.slice.injEq] at hv
  obtain ⟨rfl, rfl, rfl⟩ := hv
  rcases h4 with h4 | ⟨b, off, rfl, h5⟩
  · subst h4
    exact ⟨[], ⟨a, c, rfl, by simp, hs.2.2, hs.1, .inl rfl⟩, Read8.nil _⟩
  · have hl : ((List.range zss.length).map fun i => (w.cell? ⟨b, off + i, .none⟩).getD (.slice .none 0 0)).length = zss.length := by simp
    have key : ∀ i u, ((List.range zss.length).map fun i => (w.cell? ⟨b, off + i, .none⟩).getD (.slice .none 0 0))[i]? = some u → w.cell? ⟨b, off + i, .none⟩ = some u ∧ Sl .u8 w u (zss.getD i []) := fun i u hu => by
      obtain ⟨hi, e⟩ := List.getElem?_eq_some_iff.1 hu
      rw [hl] at hi
      obtain ⟨s, h6, h7⟩ := h5 i hi
      rw [List.getElem_map, List.getElem_range, h6, Option.getD_some] at e
      subst e
      exact ⟨h6, h7⟩
    exact ⟨_, ⟨_, c, by rw [hl], by rw [hl]; exact hs.2.1, hs.2.2, hs.1, .inr ⟨b, off, rfl, fun i u hu => (key i u hu).1⟩⟩, hl, fun i u hu => (key i u hu).2⟩
end Go.Proofs.Ytjccpkekhjhafaa
