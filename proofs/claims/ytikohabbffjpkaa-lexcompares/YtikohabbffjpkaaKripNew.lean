/- 'append([]T{}, x...)' within a region that draws its order: an empty row without room grows into a new one; all that there was is as it was. Over any program. -/
import Derived.Test.YtikohabbffjpkaaKripApp
import Derived.Test.YtikohabbffjpkaaKripTail
namespace Go.Proofs.Ytikohabbffjpkaa
set_option linter.unusedVariables false
set_option linter.unusedSimpArgs false
open Go.RowKit

/-- An empty row without room, just made. -/
def Bare (e : TypeId) (B : Nat) (w : World) (v : Value) : Prop := ∃ g, v = .slice (some ⟨g, 0, none⟩) 0 0 ∧ B ≤ g ∧ w.heap[g]? = some (.cells #[] e (0, 0))

theorem Bare.up {e : TypeId} {B : Nat} {v : Value} : UpW (fun w => Bare e B w v) := by
  rintro w w' he ⟨g, h1, h2, h3⟩
  exact ⟨g, h1, h2, (he.block g (Array.getElem?_eq_some_iff.1 h3).1).trans h3⟩

theorem Bare.own {k : IntKind} {e : TypeId} {B : Nat} {w : World} {v : Value} (h : Bare e B w v) : Own k e B w v [] := by
  obtain ⟨g, rfl, h2, h3⟩ := h
  exact ⟨by simp, .inr ⟨g, 0, #[], rfl, h2, h3, by simp, by simp [maxLen], by simp, by simp⟩⟩

theorem Own.up {k : IntKind} {e : TypeId} {B : Nat} {v : Value} {zs : List Int} : UpW (fun w => Own k e B w v zs) := fun w w' he h => Own.ext h he

theorem append_new {P : Program} {k : IntKind} (w : World) (B : Nat) (t ty e : TypeId) (bytes : Nat) (ht : P.underlying t = some (.slice e))
    (hinfo : (P.info? e).map (fun i => (i.zero, i.size, i.bytes)) = some (some (.int k 0), 1, bytes)) (v x : Value) (ys : List Int)
    (hv : Bare e B w v) (hx : Sl k w x ys) (hlen : ys.length * bytes ≤ 140737488355328 ∧ ys.length ≤ maxLen) (hB : B ≤ w.heap.size) :
    ∃ u w', (Builtin.append_ #[t, t] ty #[v, x]).run P w = .ok u w' ∧ Ext w w' ∧ Own k e B w' u ys := by
  obtain ⟨i0, hi, hz0, hz1, hz2⟩ := info_parts hinfo
  have hown := hv.own (k := k)
  obtain ⟨g, rfl, hBg, hg⟩ := hv
  obtain ⟨ad, c, hxs, hx1, hx2, hx3, hx4⟩ := id hx
  cases ad with
  | none =>
    have hc := hx3 rfl
    subst hc
    have hy : ys = [] := List.length_eq_zero_iff.1 (by omega)
    subst hy
    subst hxs
    exact ⟨_, w, run_append_owned_none (P := P) (w := w) B t ty e i0 1 ht hi _ _ _ hown, Ext.refl _, hown⟩
  | some ad =>
    subst hxs
    obtain ⟨v', w', r1, r2, r3, _⟩ := run_append_own (P := P) w B t ty e i0 (.int k 0) 1 bytes ht hi hz0 hz1 hz2 rfl (by decide) _ _ _ hown ad ys.length c (ys.map (Value.int k)) (by simp) hx.newsOf.2 (ints_one ys) (by simpa using hlen.2) (by simpa using hlen.1) hB
    refine ⟨v', w', r1, ?_, by unfold Own; simpa using r2⟩
    by_cases h0 : ys.length = 0
    · have hr := run_append_room (P := P) w t ty e i0 ht hi g 0 0 #[] hg ad ys.length c (ys.map (Value.int k)) (by simp [hz1]) hx.newsOf.2 (ints_one ys) (by omega) (by simp; exact List.length_eq_zero_iff.1 h0)
      have e1 : ys = [] := List.length_eq_zero_iff.1 h0
      subst e1
      have e2 := r1.symm.trans hr
      simp only [Result.ok.injEq] at e2
      rw [e2.2]
      refine ⟨rfl, rfl, rfl, by simp [World.setRow], fun j hj => ?_⟩
      by_cases hjg : j = g
      · subst hjg
        rw [setRow_heap w j #[] _ e (0, 0) hg, hg]
        simp
      · exact setRow_other w g j _ hjg
    · have hr := run_append_grow (P := P) w t ty e i0 (.int k 0) ht hi hz0 ⟨g, 0, none⟩ 0 0 [] (by simp) (fun j v hj => by simp at hj) ad ys.length c (ys.map (Value.int k)) (by simp [hz1]) hx.newsOf.2 (by omega) (by have := hlen.2; unfold maxLen at this; omega) (by rw [hz2]; exact growslice_fits (by omega) (by simpa using hlen.1))
      have e2 := r1.symm.trans hr
      simp only [Result.ok.injEq] at e2
      rw [e2.2]
      exact ⟨rfl, rfl, rfl, by simp, fun j hj => heap_alloc_old w.drew _ hj⟩
end Go.Proofs.Ytikohabbffjpkaa
