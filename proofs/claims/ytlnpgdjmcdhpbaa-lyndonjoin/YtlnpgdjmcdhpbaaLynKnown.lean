/- whorllaw7's own known answer. -/
import Derived.Test.YtlnpgdjmcdhpbaaLynOps
import Derived.Test.YtlnpgdjmcdhpbaaRefInts
import Derived.Lib.SlBytesConst
namespace Go.Proofs.Ytlnpgdjmcdhpbaa
set_option linter.unusedVariables false
set_option linter.unusedSimpArgs false
open Go.RowKit

set_option maxHeartbeats 400000 in
theorem known_any (w : World) : Calls Try.prog 12 #[] w fun e w' => e = .returned (.bool true) ∧ Ext w w' := by
  have hc6 := fun w => Go.Lib.run_convert_bytes_const (P := Try.prog) w 22 5 #[.int .u8 98, .int .u8 97, .int .u8 110, .int .u8 97, .int .u8 110, .int .u8 97] 6 6 Try.underlying22 Try.underlying5
  have hcb := fun w => Go.Lib.run_convert_bytes_const (P := Try.prog) w 22 5 #[.int .u8 97, .int .u8 98] 2 2 Try.underlying22 Try.underlying5
  have hca := fun w => Go.Lib.run_convert_bytes_const (P := Try.prog) w 22 5 #[.int .u8 97, .int .u8 97] 2 2 Try.underlying22 Try.underlying5
  have H6 : Hid (∀ w : World, Sl .u8 (w.alloc (.cells (([98, 97, 110, 97, 110, 97] : List Int).map (Value.int .u8)).toArray 5 (6, 7))) (.slice (some ⟨w.heap.size, 0, none⟩) 6 6) [98, 97, 110, 97, 110, 97]) := fun w => Sl.lit' (k := .u8) (e := 5) (fr := (6, 7)) w [98, 97, 110, 97, 110, 97] 6 rfl (by decide)
  have H2 : Hid (∀ w : World, Sl .u8 (w.alloc (.cells (([97, 98] : List Int).map (Value.int .u8)).toArray 5 (2, 3))) (.slice (some ⟨w.heap.size, 0, none⟩) 2 2) [97, 98]) := fun w => Sl.lit' (k := .u8) (e := 5) (fr := (2, 3)) w [97, 98] 2 rfl (by decide)
  have H1 : Hid (∀ w : World, Sl .u8 (w.alloc (.cells (([97, 97] : List Int).map (Value.int .u8)).toArray 5 (2, 3))) (.slice (some ⟨w.heap.size, 0, none⟩) 2 2) [97, 97]) := fun w => Sl.lit' (k := .u8) (e := 5) (fr := (2, 3)) w [97, 97] 2 rfl (by decide)
  have HI : Hid (∀ w : World, Sl .i64 (w.alloc (.cells (([1, 2, 2, 1] : List Int).map (Value.int .i64)).toArray 3)) (.slice (some ⟨w.heap.size, 0, none⟩) 4 4) [1, 2, 2, 1]) := fun w => Sl.lit (k := .i64) (e := 3) w [1, 2, 2, 1] 4 rfl (by decide)
  have H0 : Hid (∀ w : World, Sl .u8 w (.slice none 0 0) []) := fun w => (Own.nil .u8 5 0 w).sl
  go_enter Try.func12, Try.ntmps12
  go_wp2_with fail
  refine (factors_any _ [98, 97, 110, 97, 110, 97] _ (H6.out w) (by decide)).mono ?_
  rw [banana_fac]
  rintro e w1 ⟨s, rfl, ho, he⟩
  have X1 := hide' ((ext_alloc _ _).trans he)
  have HO := hide' ho.sl
  clear ho he
  go_wp2_with fail
  refine (ints_same _ _ [1, 2, 2, 1] _ (HO.out.ext (ext_alloc _ _)) (HI.out w1) (by decide)).mono ?_
  rintro e w2 ⟨rfl, he⟩
  have X2 := hide' (X1.out.trans ((ext_alloc _ _).trans he))
  clear he
  go_wp2_with fail
  refine (toExt (is_any _ [97, 98] _ (H2.out w2) (by decide))).mono ?_
  rw [lynB_true ab_lyn]
  rintro e w3 ⟨rfl, he⟩
  have X3 := hide' (X2.out.trans ((ext_alloc _ _).trans he))
  clear he
  go_wp2_with fail
  refine (toExt (is_any _ [97, 97] _ (H1.out w3) (by decide))).mono ?_
  rw [lynB_false aa_lyn]
  rintro e w4 ⟨rfl, he⟩
  have X4 := hide' (X3.out.trans ((ext_alloc _ _).trans he))
  clear he
  go_wp2_with fail
  refine (toExt (is_any _ [] _ (H0.out w4) (by decide))).mono ?_
  rw [lynB_false nil_lyn]
  rintro e w5 ⟨rfl, he⟩
  have X5 := hide' (X4.out.trans he)
  clear he
  go_wp2
  go_ret
  exact ⟨rfl, X5.out⟩
end Go.Proofs.Ytlnpgdjmcdhpbaa
