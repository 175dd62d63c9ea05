/- whorllaw12's own known answer. -/
import Derived.Test.YtpibjmigblllnaaIndSort
import Derived.Test.YtpibjmigblllnaaRefInts
namespace Go.Proofs.Ytpibjmigblllnaa
set_option linter.unusedVariables false
set_option linter.unusedSimpArgs false
open Go.RowKit

theorem two_may : sortB [1, 0] 2 [] = true := by decide
theorem two_sort : sortI [1, 0] 2 [] = [1, 0] := by decide

theorem known_any (w : World) : Calls Try.prog 10 #[] w fun e w' => e = .returned (.bool true) ∧ Ext w w' := by
  have HI : Hid (∀ (w : World) (x y : Int), Sl .i64 (w.alloc (.cells (([x, y] : List Int).map (Value.int .i64)).toArray 3)) (.slice (some ⟨w.heap.size, 0, none⟩) 2 2) [x, y]) := fun w x y => Sl.lit (k := .i64) (e := 3) w [x, y] 2 rfl (by decide)
  have S1 := hide' (HI.out w 1 0)
  have E1 := hide' (ext_alloc w (.cells (([1, 0] : List Int).map (Value.int .i64)).toArray 3))
  have HN : Hid (Sl .i64 (w.alloc (.cells (([1, 0] : List Int).map (Value.int .i64)).toArray 3)) (.slice none 0 0) []) := (Own.nil .i64 3 0 _).sl
  go_enter Try.func10, Try.ntmps10
  go_wp2_with fail
  refine (sort_any _ _ [1, 0] [] 2 _ S1.out HN.out (by decide)).mono ?_
  rw [two_may, two_sort]
  rintro e w2 ⟨s, rfl, ho, he⟩
  have HO := hide' ho.sl
  have X2 := hide' (E1.out.trans he)
  clear ho he
  go_wp2_with fail
  refine (ints_same _ _ [1, 0] _ (HO.out.ext (ext_alloc _ _)) (HI.out w2 1 0) (by decide)).mono ?_
  rintro e w4 ⟨rfl, he⟩
  have X4 := hide' (X2.out.trans ((ext_alloc _ _).trans he))
  clear he
  go_wp2
  go_ret
  exact ⟨rfl, X4.out⟩
end Go.Proofs.Ytpibjmigblllnaa
