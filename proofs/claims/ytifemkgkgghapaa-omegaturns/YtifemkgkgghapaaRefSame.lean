/- Contract of the document's own Same, at two rows that are one: whorlref8.Same. -/
import Derived.Test.YtifemkgkgghapaaPr
import Derived.Test.YtifemkgkgghapaaInts
import Derived.ChangeKeysEq
namespace Go.Proofs.Ytifemkgkgghapaa
set_option linter.unusedVariables false
set_option linter.unusedSimpArgs false
open Go.RowKit

theorem eq_pair (a b : Int) (w : World) : (Op.equalIn 10000 38 (.agg #[.int .i64 a, .int .i64 b]) (.agg #[.int .i64 a, .int .i64 b])).run Try.prog w = .ok true w := by
  have p0 : (part 3 #[Value.int .i64 a, .int .i64 b] 0).run Try.prog w = .ok (.int .i64 a) w := by kernel_rfl
  have p1 : (part 3 #[Value.int .i64 a, .int .i64 b] 1).run Try.prog w = .ok (.int .i64 b) w := by kernel_rfl
  have q : ∀ x : Int, (Op.equalIn 9999 3 (.int .i64 x) (.int .i64 x)).run Try.prog w = .ok true w := fun x => by
    rw [run_equalIn_int w 9998 3 .i64 .i64 x x Try.underlying3]; simp
  have c1 : Try.prog.cellsOf 3 = 1 := by kernel_rfl
  obtain ⟨i0, hi, _⟩ := info_parts infoI64
  rw [run_equalIn_array w 9999 _ _ Try.underlying38 hi, c1]
  simp only [List.range, List.range.loop, Op.eqItems, Sem.run_bind, Nat.zero_mul, Nat.one_mul, p0, p1, q, Result.andThen_ok]
  simp [Op.eqItems, p1, q]

set_option maxHeartbeats 400000 in
theorem same_any (u v : Value) (l : List (Nat × Nat)) (w : World) (hu : SlP w u l) (hv : SlP w v l) (hlen : l.length ≤ 1000000) :
    Calls Try.prog 11 #[u, v] w fun e w' => e = .returned (.bool true) ∧ Ext w w' := by
  have HU := hide' hu
  have HV := hide' hv
  obtain ⟨a, c, rfl, _⟩ := hu
  obtain ⟨a', c', rfl, _⟩ := hv
  have CU := hide' HU.out.at.2.2.2
  have CV := hide' HV.out.at.2.2.2
  obtain ⟨n, HN⟩ : ∃ n, Hid (l.length = n) := ⟨_, rfl⟩
  rw [HN.out] at hlen CU CV ⊢
  clear HU HV
  have q0 : ((n : Int) == (n : Int)) = true := by simp
  go_enter Try.func11, Try.ntmps11
  go_wp2
  go_loopw [5] (fun vi wr => ∃ (i : Nat), i ≤ n ∧ vi = .int .i64 i ∧ ∃ m, wr = w.drewN m) (fun vi _ => n - (intOf vi).toNat)
  case atStart => exact ⟨0, Nat.zero_le _, rfl, 0, rfl⟩
  case round =>
    obtain ⟨i, hi, rfl, m, rfl⟩ := hrel
    by_cases hlt : i < n
    · have hlt' : (i : Int) < n := by omega
      obtain ⟨g1, o1, rfl, k1⟩ := CU.out (by omega)
      obtain ⟨g2, o2, rfl, k2⟩ := CV.out (by omega)
      obtain ⟨c1, c2⟩ := k1 i hlt
      obtain ⟨c3, c4⟩ := k2 i hlt
      generalize l.getD i (0, 0) = t at *
      obtain ⟨x, y⟩ := t
      simp only [] at c1 c2 c3 c4
      have hE := eq_pair (x : Int) (y : Int)
      clear k1 k2
      go_wp2_with fail
      go_quiet (fail)
      clear c1 c2 c3 c4 hE
      go_wp2
      go_roundw
      case rel => exact ⟨i + 1, by omega, by go_num, _, rfl⟩
      case measure => simp [intOf]; omega
    · have hlt' : decide ((i : Int) < n) = false := by simp; omega
      go_wp2
      go_ret
      exact ⟨rfl, Ext.drewN _ _⟩
end Go.Proofs.Ytifemkgkgghapaa
