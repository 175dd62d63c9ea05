/- A number put into its place in a row of ints: what the three appends of 'append(append(append([]int{}, a...), x), b...)' read and make. -/
import Derived.Test.YthohogbefpoclaaPart5
import Derived.Test.YthohogbefpoclaaPart2
namespace Go.Proofs.Ythohogbefpoclaa
set_option linter.unusedVariables false
set_option linter.unusedSimpArgs false
open Go.RowKit

def cellsI (zs : List Int) : List Value := zs.map (Value.int .i64)
theorem cellsI_len (zs : List Int) : (cellsI zs).length = zs.length := List.length_map _
theorem cellsI_one (zs : List Int) : ∀ u ∈ cellsI zs, u.oneCell' = true := ints_one zs
theorem cellsI_at (zs : List Int) (q : Nat) : (cellsI zs)[q]? = zs[q]?.map (Value.int .i64) := by simp [cellsI]


theorem Sl.newsI {w : World} {a : Option Addr} {n c : Nat} {zs : List Int} (h : Sl .i64 w (.slice a n c) zs) : zs.length = n ∧ (a = none → c = 0 ∧ n = 0) ∧ ∀ ad, a = some ad → ∀ q u, (cellsI zs)[q]? = some u → w.cell? (ad.add q) = some u := by
  obtain ⟨a', c', h1, h2, h3, h4, h5⟩ := h
  simp only [Value.slice.injEq] at h1
  obtain ⟨rfl, rfl, rfl⟩ := h1
  refine ⟨rfl, fun h => ⟨h4 h, by have := h4 h; omega⟩, fun ad hd q u hq => ?_⟩
  have hql : q < zs.length := by
    rcases Nat.lt_or_ge q zs.length with g | g
    · exact g
    · rw [cellsI_at, List.getElem?_eq_none g] at hq; cases hq
  rcases h5 with h5 | ⟨g, off, h5, h6⟩
  · rw [h5] at hql; simp at hql
  · rw [h5] at hd
    simp only [Option.some.injEq] at hd
    subst hd
    rw [Go.WideShapes.add_plain, h6 q hql]
    rw [cellsI_at, List.getElem?_eq_getElem hql] at hq
    simp only [Option.map_some, Option.some.injEq] at hq
    rw [← hq]
    simp [List.getD, List.getElem?_eq_getElem hql]

theorem fin_1 (A D : List Int) (x : Int) (j q : Nat) (hA : A.length = j) (hq : q < j * 1) : (cellsI A)[q]? = (cellsI (A ++ [x] ++ D))[0 * 1 + q]? := by
  rw [cellsI_at, cellsI_at, show 0 * 1 + q = q by omega, List.append_assoc, List.getElem?_append_left (by omega)]
theorem fin_2 (A D : List Int) (x : Int) (j q : Nat) (hA : A.length = j) (hq : q < 1 * 1) : (cellsI [x])[q]? = (cellsI (A ++ [x] ++ D))[j * 1 + q]? := by
  have : q = 0 := by omega
  subst this
  rw [cellsI_at, cellsI_at, List.append_assoc, List.getElem?_append_right (by omega), show j * 1 + 0 - A.length = 0 by omega]
  rfl
theorem fin_3 (A D : List Int) (x : Int) (j q : Nat) (hA : A.length = j) : (cellsI D)[q]? = (cellsI (A ++ [x] ++ D))[(j + 1) * 1 + q]? := by
  have hl : (A ++ [x]).length = j + 1 := by rw [List.length_append, hA]; rfl
  rw [cellsI_at, cellsI_at, List.getElem?_append_right (by omega), hl, show (j + 1) * 1 + q - (j + 1) = q by omega]

theorem natL_ins (out : List Nat) (j p : Nat) : (natL out).take j ++ [(p : Int)] ++ (natL out).drop j = natL (out.take j ++ [p] ++ out.drop j) := by
  simp [natL, List.map_take, List.map_drop]

/-- What stands there at last is the call's own row. -/
theorem OwnF.own {B : Nat} {w : World} {v : Value} {Z : List Int} {n : Nat} (h : OwnF B 3 (cellsI Z) 1 w v n) (hn : Z.length = n) : Own .i64 3 B w v Z := by
  have h1 := h.owns (by rw [cellsI_len]; omega)
  rw [List.take_of_length_le (by rw [cellsI_len]; omega)] at h1
  unfold Own
  rw [hn]
  exact h1
end Go.Proofs.Ythohogbefpoclaa
