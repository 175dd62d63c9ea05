/- VarintFour: the walk. -/
import Derived.Test.YtaklgnjdehmbaaaVarKnown
namespace Go.Proofs.Ytaklgnjdehmbaaa
set_option linter.unusedVariables false
set_option linter.unusedSimpArgs false
open Go.RowKit

set_option maxHeartbeats 1000000 in
theorem lawFour (v : Int) (w : World) (h0 : 0 ≤ v) (h1 : v < 4294967296) : Calls Try.prog 6 #[.int .u32 v] w fun e w' => e = .returned (.bool true) ∧ Ext w w' := by
  go_enter Try.func6, Try.ntmps6
  go_wp2_with fail
  refine (four_any v _ h0 h1).mono ?_
  rintro e w1 ⟨rfl, rfl⟩
  go_wp2_with fail
  have hne := later_some (w.alloc (.cells #[.int .u8 (v % 256), .int .u8 (v / 256 % 256), .int .u8 (v / 65536 % 256), .int .u8 (v / 16777216)] 5))
  have c0 := later_cell (w := w.alloc (.cells #[.int .u8 (v % 256), .int .u8 (v / 256 % 256), .int .u8 (v / 65536 % 256), .int .u8 (v / 16777216)] 5)) (a := ⟨w.heap.size, 0, none⟩) (v := .int .u8 (v % 256)) (by simp)
  have c1 := later_cell (w := w.alloc (.cells #[.int .u8 (v % 256), .int .u8 (v / 256 % 256), .int .u8 (v / 65536 % 256), .int .u8 (v / 16777216)] 5)) (a := ⟨w.heap.size, 1, none⟩) (v := .int .u8 (v / 256 % 256)) (by simp)
  have c2 := later_cell (w := w.alloc (.cells #[.int .u8 (v % 256), .int .u8 (v / 256 % 256), .int .u8 (v / 65536 % 256), .int .u8 (v / 16777216)] 5)) (a := ⟨w.heap.size, 2, none⟩) (v := .int .u8 (v / 65536 % 256)) (by simp)
  have c3 := later_cell (w := w.alloc (.cells #[.int .u8 (v % 256), .int .u8 (v / 256 % 256), .int .u8 (v / 65536 % 256), .int .u8 (v / 16777216)] 5)) (a := ⟨w.heap.size, 3, none⟩) (v := .int .u8 (v / 16777216)) (by simp)
  have hv : (v % 256 + v / 256 % 256 * 256 + v / 65536 % 256 * 65536 + v / 16777216 * 16777216 == v) = true := by rw [beq_iff_eq]; omega
  refine wp_region_k (fun _ _ v _ => v = .bool true) (by kernel_rfl) (by kernel_rfl) (by kernel_rfl) ?_
  refine lexK_take 30 (by kernel_rfl) ?_
  simp only [List.take_succ_cons, List.take_zero, List.drop_succ_cons, List.drop_zero]
  repeat (go_big_quiet_step (fail))
  refine wpQuiet_nil ?_
  refine lexK_call1 11 #[] (.bool true) (fun _ _ => Iff.rfl) rfl (fun w' => ?_) (fun w' _ _ => known_any w') ?_
  · go_simp
  simp only [Act.put, List.setIfInBounds_toArray, List.set_cons_succ, List.set_cons_zero]
  refine lexK_take 2 (by kernel_rfl) ?_
  simp only [List.take_succ_cons, List.take_zero, List.drop_succ_cons, List.drop_zero]
  repeat (go_big_quiet_step (fail))
  refine wpQuiet_nil ?_
  refine lexK_nil ?_
  intro w' he _
  go_wp2
  go_ret
  exact ⟨rfl, ((Below.refl _ _).alloc (Nat.le_refl _) _).trans (he.mono (by simp))⟩
end Go.Proofs.Ytaklgnjdehmbaaa
