/- whorllaw18's own known answer. -/
import Derived.Test.YtikohabbffjpkaaPhiOp
import Derived.Test.YtikohabbffjpkaaRefInts
namespace Go.Proofs.Ytikohabbffjpkaa
set_option linter.unusedVariables false
set_option linter.unusedSimpArgs false
open Go.RowKit

theorem phi_ok : ordB [2, 0, 1] = true := by decide
theorem phi_row : ahI [2, 0, 1] = [2, 0, -1] := by decide

theorem known_any (w : World) : Calls Try.prog 30 #[] w fun e w' => e = .returned (.bool true) ∧ Ext w w' := by
  have HI : Hid (∀ (w : World) (x y z : Int), Sl .i64 (w.alloc (.cells (([x, y, z] : List Int).map (Value.int .i64)).toArray 3)) (.slice (some ⟨w.heap.size, 0, none⟩) 3 3) [x, y, z]) := fun w x y z => Sl.lit (k := .i64) (e := 3) w [x, y, z] 3 rfl (by decide)
  have S1 := hide' (HI.out w 2 0 1)
  have E1 := hide' (ext_alloc w (.cells (([2, 0, 1] : List Int).map (Value.int .i64)).toArray 3))
  go_enter Try.func30, Try.ntmps30
  go_wp2_with fail
  refine (phAhead_any _ [2, 0, 1] _ S1.out (by decide)).mono ?_
  rw [phi_ok, phi_row]
  rintro e w2 ⟨s, rfl, ho, he⟩
  have HO := hide' ho.sl
  have X2 := hide' (E1.out.trans he)
  clear ho he
  go_wp2_with fail
  refine (ints_same _ _ [2, 0, -1] _ (HO.out.ext (ext_alloc _ _)) (HI.out w2 2 0 (-1)) (by decide)).mono ?_
  rintro e w4 ⟨rfl, he⟩
  have X4 := hide' (X2.out.trans ((ext_alloc _ _).trans he))
  clear he
  go_wp2
  go_ret
  exact ⟨rfl, X4.out⟩
end Go.Proofs.Ytikohabbffjpkaa
