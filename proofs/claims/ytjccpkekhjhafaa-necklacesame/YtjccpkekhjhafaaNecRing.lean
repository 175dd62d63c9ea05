/- Contract of necklace.ringOf. -/
import Derived.Test.YtjccpkekhjhafaaNecRow
import Derived.Test.YtjccpkekhjhafaaLeaOf
import Derived.Test.YtjccpkekhjhafaaPerRoot
namespace Go.Proofs.Ytjccpkekhjhafaa
set_option linter.unusedVariables false
set_option linter.unusedSimpArgs false
open Go.RowKit

theorem ofI_bytes {zs : List Int} (h : Bytes8 zs) : Bytes8 (ofI zs) := by
  intro z hz
  unfold ofI turnI at hz
  rcases List.mem_append.1 hz with hz | hz
  · exact h z (List.mem_of_mem_drop hz)
  · exact h z (List.mem_of_mem_take hz)
theorem Own.apartN {k : IntKind} {e : TypeId} {B b : Nat} {w w' : World} {s : Value} {zs : List Int} (h : Own k e B w s zs) (hb : b < B) (hB : But b w w') : Own k e B w' s zs :=
  World.ownsRow.kept (row := some b) h hB (by
    cases hv : s.ownBlock with
    | none => exact .inl rfl
    | some q =>
      refine .inr fun e => ?_
      have := (World.ownsRow.lt h q hv).1
      simp at e
      omega)

theorem heap_set_same {w : World} {g : Nat} {cur : Array Value} {e : TypeId} {fr : Nat × Nat} (h : w.heap[g]? = some (.cells cur e fr)) (j : Nat) (v : Value) : (w.setCell ⟨g, j, none⟩ v).heap[g]? = some (.cells (cur.setIfInBounds j v) e fr) := by
  rw [Go.Sort.setCell_eq]
  simp [Go.Sort.mapBlock, Go.Sort.onCells, h, Array.getElem?_modify]

theorem ringOf_any (v : Value) (zs : List Int) (w : World) (hs : Sl .u8 w v zs) (hb : Bytes8 zs) (h0 : 0 < zs.length) (hlen : zs.length ≤ 1000000) :
    Calls Try.prog 25 #[v] w fun e w' => ∃ r : Rg, e = .returned (.agg #[r.tv, r.rv, .int .i64 (tmI r.x : Int)]) ∧ r.x = ofI zs ∧ RgOk w.heap.size w' r ∧ Ext w w' := by
  have HS := hide' hs
  have HB := hide' (ofI_bytes hb)
  have HL : Hid ((ofI zs).length = zs.length) := ofI_len zs
  have C1 := hide' (fun W hW => of_any v zs W hW hlen)
  clear hs hb
  obtain ⟨x, HX⟩ : ∃ x, Hid (ofI zs = x) := ⟨_, rfl⟩
  rw [HX.out] at C1 HB HL ⊢
  obtain ⟨n, HN⟩ : ∃ n, Hid (tmI x = n) := ⟨_, rfl⟩
  have C2 : Hid (∀ t W, Sl .u8 W t x → Calls Try.prog 31 #[t] W fun e w' => ∃ s, e = .returned (.tuple #[s, .int .i64 (n : Int)]) ∧ Own .u8 5 W.heap.size w' s (rtI x) ∧ Ext W w') := fun t W hW => by rw [← HN.out]; exact root_any t x W hW (by rw [HL.out]; exact hlen)
  go_enter Try.func25, Try.ntmps25
  go_wp2_with fail
  refine (C1.out _ (HS.out.ext (ext_alloc _ _))).mono ?_
  rintro e w1 ⟨t, rfl, ho, he⟩
  have H1 := hide' ho
  have E1 := hide' he
  clear ho he
  go_wp2_with fail
  refine (C2.out t _ H1.out.sl).mono ?_
  rintro e w2 ⟨r, rfl, ho, he⟩
  have H2 := hide' ho
  have E2 := hide' he
  have H3 := hide' (H1.out.ext he)
  clear ho he H1
  obtain ⟨ta, tn, tc, ht⟩ : ∃ a n c, t = .slice a n c := by obtain ⟨a, c, h, _⟩ := H3.out.sl; exact ⟨a, _, c, h⟩
  obtain ⟨ra, rn, rc, hr⟩ : ∃ a n c, r = .slice a n c := by obtain ⟨a, c, h, _⟩ := H2.out.sl; exact ⟨a, _, c, h⟩
  subst ht hr
  have c0 : w2.heap[w.heap.size]? = some (.cells #[.slice none 0 0, .slice none 0 0, .int .i64 0] 38) := by
    rw [(E1.out.trans E2.out).block w.heap.size (by simp), heap_alloc_top]
  have hcell : ∀ j u, (#[Value.slice none 0 0, .slice none 0 0, .int .i64 0] : Array Value)[j]? = some u → w2.cell? ⟨w.heap.size, j, none⟩ = some u := fun j u hj => by simp [World.cell?, c0, hj]
  have k0 := hcell 0 _ rfl
  have k1 := hcell 1 _ rfl
  have k2 := hcell 2 _ rfl
  have hfz : ∀ j, w2.frozen? ⟨w.heap.size, j, none⟩ = false := fun j => by simp [World.frozen?, c0]
  have f0 := hfz 0
  have f1 := hfz 1
  have f2 := hfz 2
  have HC := hide' c0
  clear c0 hcell hfz
  go_wp2
  have hg := heap_set_same (heap_set_same (heap_set_same HC.out 0 (.slice ta tn tc)) 1 (.slice ra rn rc)) 2 (.int .i64 (n : Int))
  have BT : But w.heap.size w2 (((w2.setCell ⟨w.heap.size, 0, none⟩ (.slice ta tn tc)).setCell ⟨w.heap.size, 1, none⟩ (.slice ra rn rc)).setCell ⟨w.heap.size, 2, none⟩ (.int .i64 (n : Int))) := (((But.refl _ _).setCell _ _).setCell _ _).setCell _ _
  generalize ((w2.setCell ⟨w.heap.size, 0, none⟩ (.slice ta tn tc)).setCell ⟨w.heap.size, 1, none⟩ (.slice ra rn rc)).setCell ⟨w.heap.size, 2, none⟩ (.int .i64 (n : Int)) = W at *
  have s1 : w.heap.size < w1.heap.size := Nat.lt_of_lt_of_le (by simp) E1.out.size
  refine bodyPost_ret (results_cell_row rfl _ _ w.heap.size 38 #[.slice ta tn tc, .slice ra rn rc, .int .i64 (n : Int)] (0, 0) _ rfl hg Try.underlying38 rfl (by kernel_rfl)) rfl ?_
  refine ⟨⟨.slice ta tn tc, .slice ra rn rc, x⟩, by rw [HN.out], rfl, ⟨(H3.out.apartN (by simp) BT).low (by simp), (H2.out.apartN s1 BT).low (by omega), HB.out, by rw [HL.out]; exact h0, by rw [HL.out]; exact hlen⟩, ?_⟩
  exact Ext.but (((ext_alloc w _).trans E1.out).trans E2.out) (Nat.le_refl _) BT
end Go.Proofs.Ytjccpkekhjhafaa
