/- Arguments opened: a slice of slices of bytes. Over any program; no conditions. -/
import Derived.Deep.Matrix
import Derived.SizedLaws
import Derived.Test.YtjccpkekhjhafaaLib
namespace Go.Proofs.Ytjccpkekhjhafaa
set_option linter.unusedVariables false
set_option linter.unusedSimpArgs false
open Go.RowKit Go.ChangeShapes Go.WideShapes Go.Deep

/-- A row of rows of bytes. -/
def Sls (w : World) (v : Value) (zss : List (List Int)) : Prop :=
  ∃ a c, v = .slice a zss.length c ∧ zss.length ≤ maxLen ∧ (zss = [] ∨ ∃ b off, a = some ⟨b, off, none⟩ ∧ ∀ i, i < zss.length → ∃ s, w.cell? ⟨b, off + i, none⟩ = some s ∧ Sl .u8 w s (zss.getD i []))

theorem mem_weightsAll {H : Type} {P : Program} {e : TypeId} {n : Nat} {d : DataW H} (hn : n ∈ d.weights P e) : ∀ {l : List (DataW H)}, d ∈ l → n ∈ DataW.weightsAll P e l
  | d0 :: l, h => by
    simp only [DataW.weightsAll, List.mem_append]
    rcases List.mem_cons.1 h with rfl | h
    · exact .inl hn
    · exact .inr (mem_weightsAll hn h)

/-- A slice of slices of bytes that came in: its rows, each byte in its bounds, each row within the reach. -/
theorem open_bytess {H : Type} {enc : TypeId × Value → H} {P : Program} {w : World} {t e q : TypeId} {a : Option Addr} {len cap : Nat} {d : DataW H} {ps : List MemPlace}
    (ht : P.underlying t = some (.slice e)) (he : P.underlying e = some (.slice q)) (hq : P.underlying q = some (.int .u8)) (ce : P.cellsOf e = 1) (cq : P.cellsOf q = 1) (bq : P.bytesOf q = 1)
    (h : DataW.Trod enc P w 0 (fun _ => true) true t (.slice a len cap) d ps) (hsz : ∀ n ∈ d.weights P t, n ≤ reachBytes) :
    ∃ zss, Sls w (.slice a len cap) zss ∧ (∀ zs ∈ zss, ∀ z ∈ zs, 0 ≤ z ∧ z ≤ 255) ∧ ∀ zs ∈ zss, zs.length ≤ 140737488351232 := by
  obtain ⟨fuel, hf⟩ := h
  rcases open_int_rows ht he hq ce cq hf with ⟨hcs, _⟩ | ⟨x, len', cap', A, L, C, Z, hcs, _, hl, hm, hx, hrows⟩
  · simp [Value.cells] at hcs
    obtain ⟨rfl, rfl, rfl⟩ := hcs
    exact ⟨[], ⟨_, 0, rfl, by simp, .inl rfl⟩, by simp, by simp⟩
  simp [Value.cells] at hcs
  obtain ⟨rfl, rfl, rfl⟩ := hcs
  simp only [Prod.mk.injEq] at hx
  obtain ⟨rfl, _⟩ := hx
  have hmem : ∀ zs, zs ∈ ((List.range len).map fun r => (Z r).take (L r)) → ∃ r, r < len ∧ zs = (Z r).take (L r) := fun zs hz => by
    obtain ⟨r, hr, e⟩ := List.mem_map.1 hz
    exact ⟨r, List.mem_range.1 hr, e.symm⟩
  refine ⟨(List.range len).map fun r => (Z r).take (L r), ?_, ?_, ?_⟩
  · refine ⟨some x, cap, by simp, by simp; omega, ?_⟩
    by_cases h0 : len = 0
    · subst h0; exact .inl rfl
    obtain ⟨b, off, spot⟩ := x
    have hspot : spot = none := by simpa [Addr.add] using World.cell?_spot (hrows 0 (by omega)).1
    subst hspot
    refine .inr ⟨b, off, rfl, fun i hi => ?_⟩
    have hi' : i < len := by simpa using hi
    obtain ⟨h1, h2, h3, h4, h5, h6, h7⟩ := hrows i (by omega)
    refine ⟨_, by rw [← add_plain]; exact h1, ?_⟩
    have e1 : ((List.range len).map fun r => (Z r).take (L r)).getD i [] = (Z i).take (L i) := by simp [List.getD, hi']
    rw [e1]
    refine (Sl.ofRow (zs := Z i) ?_).1
    cases hA : A i with
    | none =>
      have hc := h6 hA
      exact .inl ⟨rfl, by omega, hc, List.length_eq_zero_iff.1 (by omega)⟩
    | some a' => exact .inr ⟨a', rfl, h2, h3, h4, fun j hj => (h7 a' hA).2 j (by omega), h5⟩
  · intro zs hz z hzz
    obtain ⟨r, hr, rfl⟩ := hmem zs hz
    exact Go.bounds_u8 ((hrows r (by omega)).2.2.2.2.1 z (List.mem_of_mem_take hzz))
  · intro zs hz
    obtain ⟨r, hr, rfl⟩ := hmem zs hz
    obtain ⟨h1, h2, h3, h4, h5, h6, h7⟩ := hrows r (by omega)
    have hlen : ((Z r).take (L r)).length ≤ C r := by simp; omega
    refine Nat.le_trans hlen ?_
    cases hA : A r with
    | none => rw [h6 hA]; omega
    | some a' =>
      have hw : C r ∈ (intRow (H := H) .u8 (A r) (L r) (Z r)).weights P e := by
        rw [hA]
        simp only [intRow, DataW.weights, he, bq, lits, List.length_map, List.length_take, List.length_drop, Nat.mul_one, List.mem_cons]
        left; omega
      have hd : intRow (H := H) .u8 (A r) (L r) (Z r) ∈ (List.range len).map fun r => intRow .u8 (A r) (L r) (Z r) := List.mem_map.2 ⟨r, List.mem_range.2 hr, rfl⟩
      have := hsz (C r) (by
        simp only [DataW.weights, ht, List.mem_cons, List.mem_append]
        exact .inr (.inl (mem_weightsAll hw hd)))
      exact this
end Go.Proofs.Ytjccpkekhjhafaa
