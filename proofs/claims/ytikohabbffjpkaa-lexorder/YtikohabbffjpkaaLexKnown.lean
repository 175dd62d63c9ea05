/- whorllaw4's own known answer. -/
import Derived.Test.YtikohabbffjpkaaLexTurn
import Derived.Lib.SlBytesConst
namespace Go.Proofs.Ytikohabbffjpkaa
set_option linter.unusedVariables false
set_option linter.unusedSimpArgs false
open Go.RowKit

theorem banana_com : comL [98, 97, 110, 97, 110, 97] 1 3 = 3 := by decide
theorem banana_end : endL [98, 97, 110, 97, 110, 97] 3 1 = -1 := by decide
theorem banana_turn : turnsL [98, 97, 110, 97, 110, 97] 1 0 = -1 := by decide

theorem known_any (w : World) : Calls Try.prog 19 #[] w fun e w' => e = .returned (.bool true) ∧ Ext w w' := by
  have HS := hide' (Sl.lit' (k := .u8) (e := 5) (fr := (6, 7)) w [98, 97, 110, 97, 110, 97] 6 rfl (by decide))
  have HB : Hid (Bytes8 [98, 97, 110, 97, 110, 97]) := by show Bytes8 _; unfold Bytes8; decide
  have hcv := Go.Lib.run_convert_bytes_const (P := Try.prog) w 22 5 #[.int .u8 98, .int .u8 97, .int .u8 110, .int .u8 97, .int .u8 110, .int .u8 97] 6 6 Try.underlying22 Try.underlying5
  go_enter Try.func19, Try.ntmps19
  go_wp2_with fail
  refine (toExt (common_any _ _ _ _ _ HS.out (by decide))).mono ?_
  rw [banana_com]
  rintro e w1 ⟨rfl, h1⟩
  have H1 := hide' h1
  clear h1
  go_wp2_with fail
  refine (toExt (endings_any _ _ _ _ _ (HS.out.ext H1.out) HB.out)).mono ?_
  rw [banana_end]
  rintro e w2 ⟨rfl, h2⟩
  have H2 := hide' (H1.out.trans h2)
  clear h2
  go_wp2_with fail
  refine (toExt (turns_any _ _ _ _ _ (HS.out.ext H2.out) (by decide))).mono ?_
  rw [banana_turn]
  rintro e w3 ⟨rfl, h3⟩
  have H3 := hide' (H2.out.trans h3)
  clear h3
  go_wp2
  go_ret
  exact ⟨rfl, (ext_alloc _ _).trans H3.out⟩
end Go.Proofs.Ytikohabbffjpkaa
