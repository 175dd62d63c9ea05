/- whorllaw10's own known answer. -/
import Derived.Test.YtpkljneipkpdeaaBktPass
import Derived.Test.YtpkljneipkpdeaaRefInts
namespace Go.Proofs.Ytpkljneipkpdeaa
set_option linter.unusedVariables false
set_option linter.unusedSimpArgs false
open Go.RowKit

theorem three_may : passB [0, 1, 2] [1, 0, 1] 2 = true := by decide
theorem three_pass : passI [0, 1, 2] [1, 0, 1] 2 = [1, 0, 2] := by decide

theorem known_any (w : World) : Calls Try.prog 12 #[] w fun e w' => e = .returned (.bool true) ∧ Ext w w' := by
  have HI : Hid (∀ (w : World) (x y z : Int), Sl .i64 (w.alloc (.cells (([x, y, z] : List Int).map (Value.int .i64)).toArray 3)) (.slice (some ⟨w.heap.size, 0, none⟩) 3 3) [x, y, z]) := fun w x y z => Sl.lit (k := .i64) (e := 3) w [x, y, z] 3 rfl (by decide)
  have S1 := hide' ((HI.out w 0 1 2).ext (ext_alloc (w.alloc (.cells (([0, 1, 2] : List Int).map (Value.int .i64)).toArray 3)) (.cells (([1, 0, 1] : List Int).map (Value.int .i64)).toArray 3)))
  have hz : (w.alloc (.cells (([0, 1, 2] : List Int).map (Value.int .i64)).toArray 3)).heap.size = w.heap.size + 1 := by simp
  have s2 := HI.out (w.alloc (.cells (([0, 1, 2] : List Int).map (Value.int .i64)).toArray 3)) 1 0 1
  rw [hz] at s2
  have S2 := hide' s2
  clear s2 hz
  have E1 := hide' ((ext_alloc w (.cells (([0, 1, 2] : List Int).map (Value.int .i64)).toArray 3)).trans (ext_alloc (w.alloc (.cells (([0, 1, 2] : List Int).map (Value.int .i64)).toArray 3)) (.cells (([1, 0, 1] : List Int).map (Value.int .i64)).toArray 3)))
  go_enter Try.func12, Try.ntmps12
  go_wp2_with fail
  refine (pass_any _ _ [0, 1, 2] [1, 0, 1] 2 _ S1.out S2.out (by decide) (by decide)).mono ?_
  rw [three_may, three_pass]
  rintro e w2 ⟨s, rfl, ho, he⟩
  have HO := hide' ho.sl
  have X2 := hide' (E1.out.trans he)
  clear ho he
  go_wp2_with fail
  refine (ints_same _ _ [1, 0, 2] _ (HO.out.ext (ext_alloc _ _)) (HI.out w2 1 0 2) (by decide)).mono ?_
  rintro e w4 ⟨rfl, he⟩
  have X4 := hide' (X2.out.trans ((ext_alloc _ _).trans he))
  clear he
  go_wp2
  go_ret
  exact ⟨rfl, X4.out⟩
end Go.Proofs.Ytpkljneipkpdeaa
