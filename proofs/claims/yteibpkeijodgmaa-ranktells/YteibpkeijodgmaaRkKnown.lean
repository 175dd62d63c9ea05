/- whorllaw16's own known answer. -/
import Derived.Test.YteibpkeijodgmaaRkInv
import Derived.Test.YteibpkeijodgmaaRefInts
namespace Go.Proofs.Yteibpkeijodgmaa
set_option linter.unusedVariables false
set_option linter.unusedSimpArgs false
open Go.RowKit

theorem three_is : ordB [2, 0, 1] = true := by decide
theorem three_inv : invI [2, 0, 1] = [1, 2, 0] := by decide
theorem none_is : ordB [] = true := by decide

theorem known_any (w : World) : Calls Try.prog 10 #[] w fun e w' => e = .returned (.bool true) ∧ Ext w w' := by
  have HI : Hid (∀ (w : World) (x y z : Int), Sl .i64 (w.alloc (.cells (([x, y, z] : List Int).map (Value.int .i64)).toArray 3)) (.slice (some ⟨w.heap.size, 0, none⟩) 3 3) [x, y, z]) := fun w x y z => Sl.lit (k := .i64) (e := 3) w [x, y, z] 3 rfl (by decide)
  have S1 := hide' (HI.out w 2 0 1)
  have E1 := hide' (ext_alloc w (.cells (([2, 0, 1] : List Int).map (Value.int .i64)).toArray 3))
  have HNIL : Hid (∀ w : World, Sl .i64 w (.slice none 0 0) []) := fun w => (Own.nil .i64 3 0 w).sl
  go_enter Try.func10, Try.ntmps10
  go_wp2_with fail
  refine (rkInv_any _ [2, 0, 1] _ S1.out (by decide)).mono ?_
  rw [three_is, three_inv]
  rintro e w2 ⟨s, rfl, ho, he⟩
  have HO := hide' ho.sl
  have X2 := hide' (E1.out.trans he)
  clear ho he
  go_wp2_with fail
  refine (ints_same _ _ [1, 2, 0] _ (HO.out.ext (ext_alloc _ _)) (HI.out w2 1 2 0) (by decide)).mono ?_
  rintro e w4 ⟨rfl, he⟩
  have X4 := hide' (X2.out.trans ((ext_alloc _ _).trans he))
  clear he
  go_wp2_with fail
  refine (rkIs_any _ [] _ (HNIL.out _) (by decide)).mono ?_
  rw [none_is]
  rintro e w5 ⟨rfl, he⟩
  have X5 := hide' (X4.out.trans he)
  clear he
  go_wp2
  go_ret
  exact ⟨rfl, X5.out⟩
end Go.Proofs.Yteibpkeijodgmaa
