/- whorllaw19's own known answer. -/
import Derived.Test.YtmojnliljaefbaaChOp
import Derived.Lib.SlBytesConst
namespace Go.Proofs.Ytmojnliljaefbaa
set_option linter.unusedVariables false
set_option linter.unusedSimpArgs false
open Go.RowKit

theorem ab_ord : InOrd [97, 98] [0, 1] := by
  refine ⟨by decide, ?_⟩
  show List.Pairwise (fun a b => cmpI (([97, 98] : List Int).drop a) (([97, 98] : List Int).drop b) < 0) [0, 1]
  decide
theorem aa_ord : InOrd [97, 97] [1, 0] := by
  refine ⟨by decide, ?_⟩
  show List.Pairwise (fun a b => cmpI (([97, 97] : List Int).drop a) (([97, 97] : List Int).drop b) < 0) [1, 0]
  decide
theorem ab_no : saB [97, 98] [1, 0] = false := by rw [saB_ord ab_ord]; decide
theorem ab_yes : saB [97, 98] [0, 1] = true := by rw [saB_ord ab_ord]; decide
theorem aa_chk : chkB [97, 97] [1, 0] [0, 1] = true := by
  unfold chkB
  rw [saB_ord aa_ord]
  decide
theorem ab_bytes : Bytes8 [97, 98] := by
  intro z hz
  simp only [List.mem_cons, List.not_mem_nil, or_false] at hz
  omega
theorem aa_bytes : Bytes8 [97, 97] := by
  intro z hz
  simp only [List.mem_cons, List.not_mem_nil, or_false] at hz
  omega

set_option maxHeartbeats 1000000 in
theorem known_any (w : World) : Calls Try.prog 11 #[] w fun e w' => e = .returned (.bool true) ∧ Ext w w' := by
  have hca := fun w => Go.Lib.run_convert_bytes_const (P := Try.prog) w 22 5 #[.int .u8 97, .int .u8 98] 2 2 Try.underlying22 Try.underlying5
  have hcb := fun w => Go.Lib.run_convert_bytes_const (P := Try.prog) w 22 5 #[.int .u8 97, .int .u8 97] 2 2 Try.underlying22 Try.underlying5
  have B2 : Hid (∀ (w : World) (x y : Int) (fr : Nat × Nat), Sl .u8 (w.alloc (.cells (([x, y] : List Int).map (Value.int .u8)).toArray 5 fr)) (.slice (some ⟨w.heap.size, 0, none⟩) 2 2) [x, y]) := fun w x y fr => Sl.lit' (k := .u8) (e := 5) (fr := fr) w [x, y] 2 rfl (by decide)
  have I2 : Hid (∀ (w : World) (x y : Int), Sl .i64 (w.alloc (.cells (([x, y] : List Int).map (Value.int .i64)).toArray 3)) (.slice (some ⟨w.heap.size, 0, none⟩) 2 2) [x, y]) := fun w x y => Sl.lit (k := .i64) (e := 3) w [x, y] 2 rfl (by decide)
  have J2 : Hid (∀ (w : World) (o : Obj) (x y : Int), Sl .i64 ((w.alloc o).alloc (.cells (([x, y] : List Int).map (Value.int .i64)).toArray 3)) (.slice (some ⟨w.heap.size + 1, 0, none⟩) 2 2) [x, y]) := fun w o x y => by
    have := I2.out (w.alloc o) x y
    rwa [show (w.alloc o).heap.size = w.heap.size + 1 by simp] at this
  have K2 : Hid (∀ (w : World) (o o' : Obj) (x y : Int), Sl .i64 (((w.alloc o).alloc o').alloc (.cells (([x, y] : List Int).map (Value.int .i64)).toArray 3)) (.slice (some ⟨w.heap.size + 1 + 1, 0, none⟩) 2 2) [x, y]) := fun w o o' x y => by
    have := J2.out (w.alloc o) o' x y
    rwa [show (w.alloc o).heap.size = w.heap.size + 1 by simp] at this
  have E2 : Hid (∀ (w : World) (o o' : Obj), Ext w ((w.alloc o).alloc o')) := fun w o o' => (ext_alloc w o).trans (ext_alloc _ o')
  have E3 : Hid (∀ (w : World) (o o' o'' : Obj), Ext w (((w.alloc o).alloc o').alloc o'')) := fun w o o' o'' => (E2.out w o o').trans (ext_alloc _ o'')
  go_enter Try.func11, Try.ntmps11
  go_wp2_with fail
  refine (chSA_any _ _ [97, 98] [1, 0] _ ((B2.out w 97 98 _).ext (ext_alloc _ _)) ab_bytes (J2.out w _ 1 0) (by decide) (by decide)).mono ?_
  rw [ab_no]
  rintro e w1 ⟨rfl, he⟩
  have X1 := hide' ((E2.out w _ _).trans he)
  clear he
  go_wp2_with fail
  refine (chSA_any _ _ [97, 98] [0, 1] _ ((B2.out w1 97 98 _).ext (ext_alloc _ _)) ab_bytes (J2.out w1 _ 0 1) (by decide) (by decide)).mono ?_
  rw [ab_yes]
  rintro e w2 ⟨rfl, he⟩
  have X2 := hide' (X1.out.trans ((E2.out w1 _ _).trans he))
  clear he
  go_wp2_with fail
  refine (chLcp_any _ _ _ [97, 97] [1, 0] [0, 1] _ (((B2.out w2 97 97 _).ext (ext_alloc _ _)).ext (ext_alloc _ _)) aa_bytes ((J2.out w2 _ 1 0).ext (ext_alloc _ _)) (K2.out w2 _ _ 0 1) (by decide) (by decide) (by decide)).mono ?_
  rw [aa_chk]
  rintro e w3 ⟨rfl, he⟩
  have X3 := hide' (X2.out.trans ((E3.out w2 _ _ _).trans he))
  clear he
  go_wp2
  go_ret
  exact ⟨rfl, X3.out⟩
end Go.Proofs.Ytmojnliljaefbaa
