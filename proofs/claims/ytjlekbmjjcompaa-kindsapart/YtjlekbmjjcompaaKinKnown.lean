/- whorllaw11's own known answer. -/
import Derived.Test.YtjlekbmjjcompaaKinFirst
import Derived.Test.YtjlekbmjjcompaaRefInts
namespace Go.Proofs.Ytjlekbmjjcompaa
set_option linter.unusedVariables false
set_option linter.unusedSimpArgs false
open Go.RowKit

theorem five_first : natL (firstN [1, 0, 0, 2, 1]) = [1] := by decide
theorem three_small : (smallI [3]).length = 1 := by decide

theorem known_any (w : World) : Calls Try.prog 12 #[] w fun e w' => e = .returned (.bool true) ∧ Ext w w' := by
  have H5 : Hid (∀ (w : World), Sl .i64 (w.alloc (.cells (([1, 0, 0, 2, 1] : List Int).map (Value.int .i64)).toArray 3)) (.slice (some ⟨w.heap.size, 0, none⟩) 5 5) [1, 0, 0, 2, 1]) := fun w => Sl.lit (k := .i64) (e := 3) w [1, 0, 0, 2, 1] 5 rfl (by decide)
  have H1 : Hid (∀ (w : World) (x : Int), Sl .i64 (w.alloc (.cells (([x] : List Int).map (Value.int .i64)).toArray 3)) (.slice (some ⟨w.heap.size, 0, none⟩) 1 1) [x]) := fun w x => Sl.lit (k := .i64) (e := 3) w [x] 1 rfl (by decide)
  go_enter Try.func12, Try.ntmps12
  go_wp2_with fail
  refine (first_any _ [1, 0, 0, 2, 1] _ (H5.out w) (by decide)).mono ?_
  rw [five_first]
  rintro e w2 ⟨s, rfl, ho, he⟩
  have HO := hide' ho.sl
  have X2 := hide' ((ext_alloc _ _).trans he)
  clear ho he
  go_wp2_with fail
  refine (ints_same _ _ [1] _ (HO.out.ext (ext_alloc _ _)) (H1.out w2 1) (by decide)).mono ?_
  rintro e w4 ⟨rfl, he⟩
  have X4 := hide' (X2.out.trans ((ext_alloc _ _).trans he))
  clear he
  go_wp2_with fail
  refine (small_any _ [3] _ (H1.out w4 3) (by decide)).mono ?_
  rintro e w5 ⟨s5, rfl, ho, he⟩
  have X5 := hide' (X4.out.trans ((ext_alloc _ _).trans he))
  obtain ⟨a5, c5, rfl, _⟩ := ho.sl
  rw [three_small]
  clear ho he
  go_wp2
  go_ret
  exact ⟨rfl, X5.out⟩
end Go.Proofs.Ytjlekbmjjcompaa
