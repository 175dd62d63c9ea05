/- whorllaw15's own known answer. -/
import Derived.Test.YtimhkmnohkbniaaDbAns
import Derived.Test.YtimhkmnohkbniaaRefInts
import Derived.Lib.SlBytesConst
namespace Go.Proofs.Ytimhkmnohkbniaa
set_option linter.unusedVariables false
set_option linter.unusedSimpArgs false
open Go.RowKit

theorem known_any (w : World) : Calls Try.prog 13 #[] w fun e w' => e = .returned (.bool true) ∧ Ext w w' := by
  have hc6 := fun w => Go.Lib.run_convert_bytes_const (P := Try.prog) w 31 5 #[.int .u8 98, .int .u8 97, .int .u8 110, .int .u8 97, .int .u8 110, .int .u8 97] 6 6 Try.underlying31 Try.underlying5
  have H6 : Hid (∀ w : World, Sl .u8 (w.alloc (.cells (([98, 97, 110, 97, 110, 97] : List Int).map (Value.int .u8)).toArray 5 (6, 7))) (.slice (some ⟨w.heap.size, 0, none⟩) 6 6) [98, 97, 110, 97, 110, 97]) := fun w => Sl.lit' (k := .u8) (e := 5) (fr := (6, 7)) w [98, 97, 110, 97, 110, 97] 6 rfl (by decide)
  have H1 : Hid (∀ (w : World), Sl .i64 (w.alloc (.cells (([5, 3, 1, 0, 4, 2] : List Int).map (Value.int .i64)).toArray 3)) (.slice (some ⟨w.heap.size, 0, none⟩) 6 6) [5, 3, 1, 0, 4, 2]) := fun w => Sl.lit (k := .i64) (e := 3) w _ 6 rfl (by decide)
  go_enter Try.func13, Try.ntmps13
  go_wp2_with fail
  refine (dbBytes_any _ [98, 97, 110, 97, 110, 97] _ (H6.out w) banana_bytes (by decide)).mono ?_
  rintro e w2 ⟨u, L, c, rfl, hR, ho, he⟩
  obtain ⟨rfl, R, hR1, rfl⟩ := hR.ok (by decide) (fit256 banana_bytes)
  obtain rfl := hR1.eq banana_ord
  have HO := hide' ho.sl
  have X2 := hide' ((ext_alloc _ _).trans he)
  clear ho he hR hR1
  go_wp2_with fail
  refine (ints_same _ _ [5, 3, 1, 0, 4, 2] _ (HO.out.ext (ext_alloc _ _)) (H1.out w2) (by decide)).mono ?_
  rintro e w4 ⟨rfl, he⟩
  have X4 := hide' (X2.out.trans ((ext_alloc _ _).trans he))
  clear he
  go_wp2
  go_ret
  exact ⟨rfl, X4.out⟩
end Go.Proofs.Ytimhkmnohkbniaa
