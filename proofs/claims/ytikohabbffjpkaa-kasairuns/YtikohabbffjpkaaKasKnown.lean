/- whorllaw17's own known answer. -/
import Derived.Test.YtikohabbffjpkaaKasOp
import Derived.Test.YtikohabbffjpkaaRefInts
import Derived.Lib.SlBytesConst
namespace Go.Proofs.Ytikohabbffjpkaa
set_option linter.unusedVariables false
set_option linter.unusedSimpArgs false
open Go.RowKit

theorem kban_ok : lcpOk [98, 97, 110, 97, 110, 97] [5, 3, 1, 0, 4, 2] = true := by decide
theorem kban_row : lcpL [98, 97, 110, 97, 110, 97] [5, 3, 1, 0, 4, 2] = [0, 1, 3, 0, 0, 2] := by decide

theorem known_any (w : World) : Calls Try.prog 23 #[] w fun e w' => e = .returned (.bool true) ∧ Ext w w' := by
  have hc6 := fun w => Go.Lib.run_convert_bytes_const (P := Try.prog) w 22 5 #[.int .u8 98, .int .u8 97, .int .u8 110, .int .u8 97, .int .u8 110, .int .u8 97] 6 6 Try.underlying22 Try.underlying5
  have H6 : Hid (∀ w : World, Sl .u8 (w.alloc (.cells (([98, 97, 110, 97, 110, 97] : List Int).map (Value.int .u8)).toArray 5 (6, 7))) (.slice (some ⟨w.heap.size, 0, none⟩) 6 6) [98, 97, 110, 97, 110, 97]) := fun w => Sl.lit' (k := .u8) (e := 5) (fr := (6, 7)) w [98, 97, 110, 97, 110, 97] 6 rfl (by decide)
  have H1 : Hid (∀ (w : World) (a b c d e f : Int), Sl .i64 (w.alloc (.cells (([a, b, c, d, e, f] : List Int).map (Value.int .i64)).toArray 3)) (.slice (some ⟨w.heap.size, 0, none⟩) 6 6) [a, b, c, d, e, f]) := fun w a b c d e f => Sl.lit (k := .i64) (e := 3) w _ 6 rfl (by decide)
  have S1 := hide' ((H6.out w).ext (ext_alloc (w.alloc (.cells (([98, 97, 110, 97, 110, 97] : List Int).map (Value.int .u8)).toArray 5 (6, 7))) (.cells (([5, 3, 1, 0, 4, 2] : List Int).map (Value.int .i64)).toArray 3)))
  have hz : (w.alloc (.cells (([98, 97, 110, 97, 110, 97] : List Int).map (Value.int .u8)).toArray 5 (6, 7))).heap.size = w.heap.size + 1 := by simp
  have s2 := H1.out (w.alloc (.cells (([98, 97, 110, 97, 110, 97] : List Int).map (Value.int .u8)).toArray 5 (6, 7))) 5 3 1 0 4 2
  rw [hz] at s2
  have S2 := hide' s2
  clear s2 hz
  have E1 := hide' ((ext_alloc w (.cells (([98, 97, 110, 97, 110, 97] : List Int).map (Value.int .u8)).toArray 5 (6, 7))).trans (ext_alloc (w.alloc (.cells (([98, 97, 110, 97, 110, 97] : List Int).map (Value.int .u8)).toArray 5 (6, 7))) (.cells (([5, 3, 1, 0, 4, 2] : List Int).map (Value.int .i64)).toArray 3)))
  go_enter Try.func23, Try.ntmps23
  go_wp2_with fail
  refine (klcp_any _ _ [98, 97, 110, 97, 110, 97] [5, 3, 1, 0, 4, 2] _ S1.out S2.out (by decide) (by decide)).mono ?_
  rw [kban_ok, kban_row]
  rintro e w2 ⟨u, rfl, ho, he⟩
  have HO := hide' ho.sl
  have X2 := hide' (E1.out.trans he)
  clear ho he
  go_wp2_with fail
  refine (ints_same _ _ [0, 1, 3, 0, 0, 2] _ (HO.out.ext (ext_alloc _ _)) (H1.out w2 0 1 3 0 0 2) (by decide)).mono ?_
  rintro e w4 ⟨rfl, he⟩
  have X4 := hide' (X2.out.trans ((ext_alloc _ _).trans he))
  clear he
  go_wp2
  go_ret
  exact ⟨rfl, X4.out⟩
end Go.Proofs.Ytikohabbffjpkaa
