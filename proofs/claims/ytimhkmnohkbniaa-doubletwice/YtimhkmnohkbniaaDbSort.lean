/- slices.Clone, slices.Sort and slices.BinarySearch at ints, as this program has them. -/
import Derived.Test.YtimhkmnohkbniaaDbLay
import Derived.Test.YtimhkmnohkbniaaInts
import Derived.Test.YtimhkmnohkbniaaBut
import Derived.Shelf.Slices.In.SortNone
import Derived.Shelf.Sort.AssemblyIn
import Derived.Sort.EveryDepth
import Derived.Shelf.Slices.SearchI
import Derived.Shelf.Slices.Empties
namespace Go.Proofs.Ytimhkmnohkbniaa
set_option linter.unusedVariables false
set_option linter.unusedSimpArgs false
open Go.RowKit

/-- slices.Clone at ints -/
theorem cloneI_any (v : Value) (zs : List Int) (w : World) (hs : Sl .i64 w v zs) (hm : zs.length ≤ 1000000) :
    Calls Try.prog 35 #[v] w fun e w' => ∃ s, e = .returned s ∧ Own .i64 3 w.heap.size w' s zs ∧ Ext w w' := by
  have HS := hide' hs
  obtain ⟨a, c, rfl, h2, h3, h4, h5⟩ := hs
  obtain ⟨len, HLEN⟩ : ∃ n, Hid (zs.length = n) := ⟨_, rfl⟩
  rw [HLEN.out] at HS h2 hm ⊢
  cases a with
  | none =>
    have hc := h4 rfl
    have hz : zs = [] := List.length_eq_zero_iff.1 (by have := HLEN.out; omega)
    have hl : len = 0 := by omega
    subst hz
    subst hl
    clear h2 h3 h4 h5 hc HLEN
    have hq := fun wx => Go.Lib.run_eql_slice_nil (P := Try.prog) wx 22 3 none 0 c 0 0 Try.underlying22
    go_enter Try.func35, Try.ntmps35
    go_wp2
    go_ret
    exact ⟨_, rfl, Own.nil _ _ _ _, Ext.refl _⟩
  | some a =>
    clear h5
    have hq := fun wx => Go.Lib.run_eql_slice_nil (P := Try.prog) wx 22 3 (some a) len c 0 0 Try.underlying22
    go_enter Try.func35, Try.ntmps35
    go_wp2_with (at_builtin; refine wpList_join _ rfl _ _ 22 rfl 3 .i64 8 Try.underlying22 infoI64 w.heap.size _ _ [] zs rfl rfl (Own.made #[] 0 (Nat.le_refl _) (by simp [maxLen]) rfl) (HS.out.ext (ext_alloc w _)) ?c1 (by simp) ?_)
    case c1 => have := HLEN.out; unfold maxLen; simp only [List.length_nil]; omega
    intro v3 w3 ho3 hb3
    have HO3 : Hid (Own .i64 3 w.heap.size w3 v3 zs) := by first | exact ho3 | simpa using ho3
    have HB3 : Hid (Ext w w3) := Below.trans (ext_alloc w (.cells #[] 3)) hb3
    clear ho3 hb3
    go_wp2
    go_ret
    exact ⟨_, rfl, HO3.out, HB3.out⟩

/-- The numbers in order. -/
def srtI (zs : List Int) : List Int := zs.mergeSort fun x y => decide (x ≤ y)
theorem srtI_perm (zs : List Int) : (srtI zs).Perm zs := List.mergeSort_perm _ _
theorem srtI_len (zs : List Int) : (srtI zs).length = zs.length := (srtI_perm zs).length_eq
theorem srtI_sorted (zs : List Int) : (srtI zs).Pairwise (· ≤ ·) := by
  have := List.pairwise_mergeSort (le := fun x y : Int => decide (x ≤ y)) (fun a b c h1 h2 => by simp only [decide_eq_true_eq] at *; omega) (fun a b => by simp; omega) zs
  exact this.imp fun h => by simpa using h

theorem but_put (w : World) (g n : Nat) (d : Array Int) (os : Array Obj) : But g w (Go.Sort.grow (Go.Sort.putRow (Value.int .i64) (Go.Sort.ahead w n) g 0 d) os) := by
  have hsz : (Go.Sort.putRow (Value.int .i64) (Go.Sort.ahead w n) g 0 d).heap.size = w.heap.size := by rw [Go.Sort.size_putRow]; rfl
  refine ⟨rfl, rfl, rfl, ?_, fun i hi hne => ?_⟩
  · show _ ≤ ((Go.Sort.putRow (Value.int .i64) (Go.Sort.ahead w n) g 0 d).heap ++ os).size
    rw [Array.size_append, hsz]
    omega
  · rw [Go.Sort.heap_grow_old _ _ (by rw [hsz]; exact hi)]
    simp only [Go.Sort.putRow, Go.Sort.mapBlock, Array.getElem?_modify]
    rw [if_neg (fun e => hne (by rw [e]))]
    rfl

/-- slices.Sort at ints, of a row of one's own. -/
theorem sortI_any (B : Nat) (v : Value) (zs : List Int) (w : World) (ho : Own .i64 3 B w v zs) (hlen : zs.length ≤ 1000000) (hB : B ≤ w.heap.size) :
    Calls Try.prog 36 #[v] w fun e w' => e = .returned (.tuple #[]) ∧ Sl .i64 w' v (srtI zs) ∧ Below B w w' := by
  by_cases h0 : zs.length = 0
  · have e0 := List.length_eq_zero_iff.1 h0
    subst e0
    have hs := ho.sl
    obtain ⟨p, cap, hv, hcap, h3, h4, _⟩ := id hs
    subst hv
    refine (Any.slices_Sort_int_none dbSort p cap w).mono ?_
    rintro e w' ⟨rfl, rfl⟩
    refine ⟨rfl, ?_, Below.refl _ _⟩
    have : srtI [] = [] := List.length_eq_zero_iff.1 (by rw [srtI_len]; rfl)
    rw [this]
    exact hs
  · rcases ho.2 with ⟨rfl, hz⟩ | ⟨g, cap, cur, hsv, hBg, hh, hn, hm, hs, ht⟩
    · exact absurd hz h0
    · subst hsv
      have hg : g < w.heap.size := (Array.getElem?_eq_some_iff.1 hh).1
      have hH : Go.Sort.Holds (Value.int .i64) w g 0 zs.toArray := by
        intro j hj
        have hj' : j < zs.length := by simpa using hj
        refine ⟨?_, World.ownsRow.frozenAt ho _⟩
        have hcj := Own.cell ho rfl j hj'
        rw [Nat.zero_add, hcj]
        congr 2
        rw [getElem!_pos zs.toArray j hj]
        simp [List.getD, hj']
      refine (calls_of_every_depth fun D => AnyS.slices_Sort_int_in dbSort D g 0 cap zs w hH hg (by omega)).mono ?_
      rintro e w' ⟨rfl, n, os, rfl⟩
      have hbut := but_put w g n (srtI zs).toArray os
      refine ⟨rfl, ?_, hbut.below hBg hB⟩
      have hHa : Go.Sort.Holds (Value.int .i64) (Go.Sort.ahead w n) g 0 zs.toArray := hH
      have hHp := Go.Sort.holds_putRow (Value.int .i64) (Go.Sort.ahead w n) g 0 zs.toArray (srtI zs).toArray hHa (by simp [srtI_len])
      refine ⟨some ⟨g, 0, none⟩, cap, by rw [srtI_len], by rw [srtI_len]; omega, hm, fun e => (by cases e), .inr ⟨g, 0, rfl, fun i hi => ?_⟩⟩
      have hcc := (hHp i (by simpa using hi)).1
      rw [getElem!_pos (srtI zs).toArray i (by simpa using hi)] at hcc
      have he : (srtI zs).toArray[i]'(by simpa using hi) = (srtI zs).getD i 0 := by simp [List.getD, hi]
      rw [he] at hcc
      have hgr : ∀ a x, (Go.Sort.putRow (Value.int .i64) (Go.Sort.ahead w n) g 0 (srtI zs).toArray).cell? a = some x → (Go.Sort.grow (Go.Sort.putRow (Value.int .i64) (Go.Sort.ahead w n) g 0 (srtI zs).toArray) os).cell? a = some x := fun a x hx => by
        refine Ext.cellOf (w := Go.Sort.putRow (Value.int .i64) (Go.Sort.ahead w n) g 0 (srtI zs).toArray) (w' := Go.Sort.grow (Go.Sort.putRow (Value.int .i64) (Go.Sort.ahead w n) g 0 (srtI zs).toArray) os) ⟨rfl, rfl, rfl, ?_, fun i hi => Go.Sort.heap_grow_old _ _ hi⟩ hx
        show _ ≤ ((Go.Sort.putRow (Value.int .i64) (Go.Sort.ahead w n) g 0 (srtI zs).toArray).heap ++ os).size
        rw [Array.size_append]
        omega
      exact hgr _ _ hcc

/-- slices.BinarySearch at ints, of a row in order. -/
theorem searchI_any (v : Value) (zs : List Int) (x : Int) (w : World) (hv : Sl .i64 w v zs) (hlen : zs.length ≤ 1000000) (hs : zs.Pairwise (· ≤ ·)) :
    Calls Try.prog 37 #[v, .int .i64 x] w fun e w' => ∃ b, e = .returned (.tuple #[.int .i64 ((zs.countP fun z => decide (z < x) : Nat) : Int), .bool b]) ∧ ∃ m, w' = w.drewN m := by
  obtain ⟨a, c, rfl, h2, h3, h4, h5⟩ := hv
  by_cases h0 : zs.length = 0
  · have e0 := List.length_eq_zero_iff.1 h0
    subst e0
    refine (Any.slices_BinarySearch_int_empty dbSearch a c x w).mono ?_
    rintro e w' ⟨rfl, rfl⟩
    exact ⟨_, rfl, 0, rfl⟩
  · rcases h5 with h5 | ⟨g, off, rfl, h5⟩
    · exact absurd (by rw [h5]; rfl) h0
    · refine (Any.slices_BinarySearch_int dbSearch g off zs.length c zs x w (Nat.le_refl _) (by omega) h5 (by rw [List.take_length]; exact hs)).mono ?_
      rintro e w' ⟨rfl, q, rfl⟩
      rw [List.take_length]
      exact ⟨_, rfl, q, rfl⟩
end Go.Proofs.Ytimhkmnohkbniaa
