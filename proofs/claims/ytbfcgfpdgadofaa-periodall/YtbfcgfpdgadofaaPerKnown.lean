/- whorllaw5's own known answer. -/
import Derived.Test.YtbfcgfpdgadofaaPerRoot
import Derived.Test.YtbfcgfpdgadofaaRefInts
import Derived.Lib.SlBytesConst
namespace Go.Proofs.Ytbfcgfpdgadofaa
set_option linter.unusedVariables false
set_option linter.unusedSimpArgs false
open Go.RowKit

theorem abab_root : rootN [97, 98, 97, 98] = 2 := by decide
theorem abab_times : ([97, 98, 97, 98] : List Int).length / rootN [97, 98, 97, 98] = 2 := by decide
theorem abab_take : ([97, 98, 97, 98] : List Int).take (rootN [97, 98, 97, 98]) = [97, 98] := by decide
theorem abab_least : leastI [97, 98, 97, 98] = 2 := by decide
theorem abab_bors : borsL [97, 98, 97, 98] = [0, 0, 1, 2] := by decide

theorem known_any (w : World) : Calls Try.prog 15 #[] w fun e w' => e = .returned (.bool true) ∧ Ext w w' := by
  have hcv := fun w => Go.Lib.run_convert_bytes_const (P := Try.prog) w 22 5 #[.int .u8 97, .int .u8 98, .int .u8 97, .int .u8 98] 4 4 Try.underlying22 Try.underlying5
  have HL : Hid (∀ w : World, Sl .u8 (w.alloc (.cells (([97, 98, 97, 98] : List Int).map (Value.int .u8)).toArray 5 (4, 5))) (.slice (some ⟨w.heap.size, 0, none⟩) 4 4) [97, 98, 97, 98]) := fun w => Sl.lit' (k := .u8) (e := 5) (fr := (4, 5)) w [97, 98, 97, 98] 4 rfl (by decide)
  have HI : Hid (∀ w : World, Sl .i64 (w.alloc (.cells (([0, 0, 1, 2] : List Int).map (Value.int .i64)).toArray 3)) (.slice (some ⟨w.heap.size, 0, none⟩) 4 4) [0, 0, 1, 2]) := fun w => Sl.lit (k := .i64) (e := 3) w [0, 0, 1, 2] 4 rfl (by decide)
  go_enter Try.func15, Try.ntmps15
  go_wp2_with fail
  refine (root_any _ [97, 98, 97, 98] _ (HL.out w) (by decide)).mono ?_
  rw [abab_times, abab_take]
  rintro e w1 ⟨s, rfl, ho, he⟩
  have hq : ((strOfNums [97, 98]).toList == [97, 98]) = true := by rw [ByteArray.toList_eq, strOfNums_data]; decide
  have hstr := ho.sl.str (P := Try.prog) 22 5 9 Try.underlying22 Try.underlying5 Try.underlying9
  have X1 := hide' ((ext_alloc _ _).trans he)
  clear ho he
  go_wp2_with fail
  refine (least_any _ [97, 98, 97, 98] _ (HL.out w1) (by decide)).mono ?_
  rw [abab_least]
  rintro e w2 ⟨rfl, he⟩
  have X2 := hide' (X1.out.trans ((ext_alloc _ _).trans he))
  clear he hstr
  go_wp2_with fail
  refine (borders_any _ [97, 98, 97, 98] _ (HL.out w2) (by decide)).mono ?_
  rw [abab_bors]
  rintro e w3 ⟨s3, rfl, ho, he⟩
  have X3 := hide' (X2.out.trans ((ext_alloc _ _).trans he))
  have HO := hide' ho.sl
  clear ho he
  go_wp2_with fail
  refine (ints_same _ _ [0, 0, 1, 2] _ (HO.out.ext (ext_alloc _ _)) (HI.out w3) (by decide)).mono ?_
  rintro e w4 ⟨rfl, he⟩
  have X4 := hide' (X3.out.trans ((ext_alloc _ _).trans he))
  clear he
  go_wp2
  go_ret
  exact ⟨rfl, X4.out⟩
end Go.Proofs.Ytbfcgfpdgadofaa
