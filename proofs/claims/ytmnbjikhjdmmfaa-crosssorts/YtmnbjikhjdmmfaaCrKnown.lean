/- whorllaw20's own known answer. -/
import Derived.Test.YtmnbjikhjdmmfaaPart5
import Derived.Test.YtmnbjikhjdmmfaaRefBytes
import Derived.Test.YtmnbjikhjdmmfaaKasRef
import Derived.Test.YtmnbjikhjdmmfaaPart2
import Derived.Lib.SlBytesConst
namespace Go.Proofs.Ytmnbjikhjdmmfaa
set_option linter.unusedVariables false
set_option linter.unusedSimpArgs false
open Go.RowKit

theorem cr_ord : InOrd [97, 97] [1, 0] := by
  refine ⟨by decide, ?_⟩
  show List.Pairwise (fun a b => cmpI (([97, 97] : List Int).drop a) (([97, 97] : List Int).drop b) < 0) [1, 0]
  decide
theorem cr_bytes : Bytes8 [97, 97] := by
  intro z hz
  simp only [List.mem_cons, List.not_mem_nil, or_false] at hz
  omega
theorem cr_lcp : lcpL [97, 97] [1, 0] = [0, 1] := by decide
theorem cr_row {L : List Int} (h : ResI [97, 97] 256 L 0) : L = [1, 0] := by
  obtain ⟨_, R, h2, rfl⟩ := h.ok (by decide) (fit256 cr_bytes)
  obtain rfl := h2.eq cr_ord
  rfl

/-- Three ints are alike. -/
theorem eq3 (a b c d e f : Int) (w : World) : (Op.equalIn 10000 37 (.agg #[.int .i64 a, .int .i64 b, .int .i64 c]) (.agg #[.int .i64 d, .int .i64 e, .int .i64 f])).run Try.prog w = .ok (a == d && (b == e && c == f)) w := by
  have u3 := Try.underlying3
  have a3 := Try.isAgg3
  have z3 := Try.sizeOf3
  rw [show (10000 : Nat) = 9999 + 1 from rfl, Op.equalIn]
  simp only [Sem.run_bind, run_underlying Try.underlying37, Result.andThen_ok]
  simp only [Std.Legacy.Range.forIn_eq_forIn_range', Std.Legacy.Range.size, Nat.sub_zero, Nat.add_sub_cancel, Nat.div_one, List.range'_succ, List.range'_zero, List.forIn_cons, List.forIn_nil]
  go_simp
  by_cases h1 : a = d <;> by_cases h2 : b = e <;> by_cases h3 : c = f <;> simp [h1, h2, h3]

set_option maxHeartbeats 2000000 in
theorem known_any (w : World) : Calls Try.prog 12 #[] w fun e w' => e = .returned (.bool true) ∧ Ext w w' := by
  have hcb := fun w => Go.Lib.run_convert_bytes_const (P := Try.prog) w 22 5 #[.int .u8 97, .int .u8 97] 2 2 Try.underlying22 Try.underlying5
  have B2 : Hid (∀ (w : World) (x y : Int) (fr : Nat × Nat), Sl .u8 (w.alloc (.cells (([x, y] : List Int).map (Value.int .u8)).toArray 5 fr)) (.slice (some ⟨w.heap.size, 0, none⟩) 2 2) [x, y]) := fun w x y fr => Sl.lit' (k := .u8) (e := 5) (fr := fr) w [x, y] 2 rfl (by decide)
  have I2 : Hid (∀ (w : World) (x y : Int), Sl .i64 (w.alloc (.cells (([x, y] : List Int).map (Value.int .i64)).toArray 3)) (.slice (some ⟨w.heap.size, 0, none⟩) 2 2) [x, y]) := fun w x y => Sl.lit (k := .i64) (e := 3) w [x, y] 2 rfl (by decide)
  have J2 : Hid (∀ (w : World) (o : Obj) (x y : Int), Sl .i64 ((w.alloc o).alloc (.cells (([x, y] : List Int).map (Value.int .i64)).toArray 3)) (.slice (some ⟨w.heap.size + 1, 0, none⟩) 2 2) [x, y]) := fun w o x y => by
    have := I2.out (w.alloc o) x y
    rwa [show (w.alloc o).heap.size = w.heap.size + 1 by simp] at this
  have E2 : Hid (∀ (w : World) (o o' : Obj), Ext w ((w.alloc o).alloc o')) := fun w o o' => (ext_alloc w o).trans (ext_alloc _ o')
  have CV : Hid (∀ (w w' : World) (a b c : Value) (T : TypeId) (o' : Obj), Ext ((w.alloc (.cells #[a, b, c] T (0, 0))).alloc o') w' → w'.cell? ⟨w.heap.size, 1, none⟩ = some b) := fun w w' a b c T o' he => ((ext_alloc _ o').trans he).cellOf (by simp only [World.cell?, heap_alloc_top]; rfl)
  have q3 := fun w => eq3 1 1 1 1 1 1 w
  simp only [beq_self_eq_true, Bool.and_self] at q3
  go_enter Try.func12, Try.ntmps12
  go_wp2_with fail
  refine (crsNew_any w).mono ?_
  rintro e w1 ⟨v, fp, rfl, hm, hn, he⟩
  have M1 := hide' hm
  have N1 := hide' hn
  have X1 := hide' he
  clear hm hn he
  obtain ⟨m, rfl⟩ := M1.out.ptr
  go_wp2_with fail
  refine (crsRun_ok _ _ [97, 97] 0 0 0 fp _ (M1.out.ext (ext_alloc _ _)) (B2.out w1 97 97 _) cr_bytes (by decide) (by decide)).mono ?_
  rintro e w3 ⟨a, r, L, rfl, hR, ha, hr, _, hm, hb⟩
  obtain rfl := cr_row hR
  rw [cr_lcp] at hr
  have M3 : Hid (Cro w3 (.pointer (some ⟨m, 0, none⟩)) 1 1 1 fp) := hm
  have A3 := hide' ha.sl
  have R3 := hide' hr.sl
  have X3 := hide' (ButF.ext (X1.out.trans (ext_alloc _ _)) hb N1.out)
  obtain ⟨aa, ac, rfl, _⟩ := ha.sl
  obtain ⟨ra, rc, rfl, _⟩ := hr.sl
  simp only [List.length_cons, List.length_nil, Nat.zero_add, Nat.reduceAdd] at A3 R3 ⊢
  clear hm ha hr hb hR M1 N1 X1
  go_wp2_with fail
  refine (ints_same _ _ [1, 0] _ (A3.out.ext (E2.out w3 _ _)) (J2.out w3 _ 1 0) (by decide)).mono ?_
  rintro e w4 ⟨rfl, he⟩
  have c1 := CV.out w3 w4 _ _ _ _ _ he
  have X34 := hide' ((E2.out w3 _ _).trans he)
  clear he
  go_wp2_with fail
  refine (ints_same _ _ [0, 1] _ ((R3.out.ext X34.out).ext (ext_alloc _ _)) (I2.out w4 0 1) (by decide)).mono ?_
  rintro e w5 ⟨rfl, he⟩
  have X35 := hide' (X34.out.trans ((ext_alloc _ _).trans he))
  clear he c1
  go_wp2_with fail
  refine (crsRuns_any _ 1 1 1 fp w5 (M3.out.ext X35.out)).mono ?_
  rintro e w6 ⟨rfl, he⟩
  have X6 := hide' (X3.out.trans (X35.out.trans he))
  clear he
  go_wp2
  go_ret
  exact ⟨rfl, X6.out⟩
end Go.Proofs.Ytmnbjikhjdmmfaa
