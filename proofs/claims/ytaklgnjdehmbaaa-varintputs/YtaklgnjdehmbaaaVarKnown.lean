/- Contracts of varint.Four and of the law's own known answer. -/
import Derived.Test.YtaklgnjdehmbaaaVarPut
import Derived.Test.YtaklgnjdehmbaaaVarGet
namespace Go.Proofs.Ytaklgnjdehmbaaa
set_option linter.unusedVariables false
set_option linter.unusedSimpArgs false
open Go.RowKit

theorem getL_known : getV (getL [172, 2, 7]) = .tuple #[.int .u64 300, .int .i64 2, .bool true] := by
  rw [show getL [172, 2, 7] = (300, 2, true) from by decide]; rfl
theorem putL_known : putL 300 = [172, 2] := by decide

set_option maxHeartbeats 400000 in
theorem known_any (w : World) : Calls Try.prog 11 #[] w fun e w' => e = .returned (.bool true) ∧ Ext w w' := by
  go_enter Try.func11, Try.ntmps11
  go_wp2_with fail
  refine (get_any _ [172, 2, 7] _ (Sl.lit w [172, 2, 7] 3 rfl (by decide)) (by decide)).mono ?_
  rintro e w1 ⟨rfl, rfl⟩
  rw [getL_known]
  go_wp2_with fail
  refine (put_any 300 _ (by omega) (by show (300 : Int) < 128 * 128 ^ 9; decide)).mono ?_
  rintro e w1 ⟨s, rfl, ho, hb⟩
  rw [putL_known] at ho
  have hq : ((strOfNums [172, 2]).toList == [172, 2]) = true := by rw [ByteArray.toList_eq, strOfNums_data]; decide
  have hstr := ho.sl.str (P := Try.prog) 23 5 9 Try.underlying23 Try.underlying5 Try.underlying9
  go_wp2
  go_ret
  exact ⟨rfl, (((Below.refl _ _).alloc (Nat.le_refl _) _).trans (hb.mono (by simp)))⟩

theorem four_any (v : Int) (w : World) (h0 : 0 ≤ v) (h1 : v < 4294967296) :
    Calls Try.prog 13 #[.int .u32 v] w fun e w' => e = .returned (.slice (some ⟨w.heap.size, 0, none⟩) 4 4) ∧ w' = w.alloc (.cells #[.int .u8 (v % 256), .int .u8 (v / 256 % 256), .int .u8 (v / 65536 % 256), .int .u8 (v / 16777216)] 5) := by
  go_enter Try.func13, Try.ntmps13
  go_wp2
  go_ret
  exact ⟨rfl, rfl⟩
end Go.Proofs.Ytaklgnjdehmbaaa
