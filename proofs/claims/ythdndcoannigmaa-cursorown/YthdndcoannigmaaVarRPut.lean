/- Contract of the document's own Put. -/
import Derived.Test.YthdndcoannigmaaRows
import Derived.Test.YthdndcoannigmaaVarMath
import Derived.Test.YthdndcoannigmaaLib
namespace Go.Proofs.Ythdndcoannigmaa
set_option linter.unusedVariables false
set_option linter.unusedSimpArgs false
open Go.RowKit

theorem infoU8 : (Try.prog.info? 5).map (fun i => (i.zero, i.size, i.bytes)) = some (some (.int .u8 0), 1, 1) := by kernel_rfl

theorem lt_top {v : Int} (h : v < 18446744073709551616) : v < 128 * 128 ^ 9 := by
  have : (128 : Int) * 128 ^ 9 = 1180591620717411303424 := by decide
  omega

set_option maxHeartbeats 400000 in
theorem rput_any (v : Int) (w : World) (h0 : 0 ≤ v) (h1 : Hid (v < 18446744073709551616)) :
    Calls Try.prog 18 #[.int .u64 v] w fun e w' => ∃ s, e = .returned s ∧ Own .u8 5 w.heap.size w' s (putL v) ∧ Below w.heap.size w w' := by
  go_enter Try.func18, Try.ntmps18
  go_wp2
  go_loopw [0, 3] (fun x s wr => ∃ (y : Int) (f : Nat) (acc : List Int), x = .int .u64 y ∧ 0 ≤ y ∧ Hid (y < 128 * 128 ^ f) ∧ Hid (y < 18446744073709551616) ∧ acc.length + f = 9 ∧ Hid (acc ++ putF f y = putL v) ∧ Own .u8 5 w.heap.size wr s acc ∧ Below w.heap.size w wr)
    (fun x _ _ => (intOf x).toNat)
  case atStart =>
    exact ⟨v, 9, [], rfl, h0, lt_top h1.out, h1, rfl, rfl, Own.nil _ _ _ _, Below.refl _ _⟩
  case round =>
    obtain ⟨y, f, acc, rfl, hy0, hyf, hy64, hlen, hacc, hown, hbel⟩ := hrel
    by_cases hlt : y < 128
    · go_wp2_with (at_builtin; refine wpList_snoc _ rfl _ _ 22 rfl 5 .u8 1 Try.underlying22 infoU8 w.heap.size _ acc y ⟨wr.heap.size, 0, none⟩ rfl rfl (by simp) (hown.alloc _) ?c3 ?c5 ?_)
      case c3 => unfold maxLen; omega
      case c5 => have := hbel.size; simp; omega
      intro s' w1 O hb1
      have R := (hbel.alloc hbel.size _).trans hb1
      clear hb1
      go_wp2
      go_ret
      refine ⟨s', rfl, ?_, R⟩
      rw [← hacc.out, putF_small _ _ hlt]
      exact O
    · have hge : 128 ≤ y := by omega
      have hl7 := low7 y hy0 hy64.out
      go_wp2_with (at_builtin; refine wpList_snoc _ rfl _ _ 22 rfl 5 .u8 1 Try.underlying22 infoU8 w.heap.size _ acc (y % 128 + 128) ⟨wr.heap.size, 0, none⟩ rfl rfl (by simp) (hown.alloc _) ?d3 ?d5 ?_)
      case d3 => unfold maxLen; omega
      case d5 => have := hbel.size; simp; omega
      intro s' w1 O hb1
      have R := (hbel.alloc hbel.size _).trans hb1
      clear hb1
      go_wp2
      go_roundw
      case rel =>
        obtain ⟨g, rfl, hg, hgb⟩ := putF_big f y hge hyf.out
        refine ⟨y / 128, g, acc ++ [y % 128 + 128], rfl, by omega, hgb, (by have := hy64.out; show _ < _; omega), by simp; omega, ?_, O, R⟩
        show _ = _
        rw [← hacc.out, hg]; simp
      case measure => simp [intOf]; omega
end Go.Proofs.Ythdndcoannigmaa
