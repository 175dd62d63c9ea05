/- Contract of lex.isEnding. -/
import Derived.Test.YtmojnliljaefbaaByt
import Derived.Test.YtmojnliljaefbaaLexMath
namespace Go.Proofs.Ytmojnliljaefbaa
set_option linter.unusedVariables false
set_option linter.unusedSimpArgs false
open Go.RowKit

theorem isEnding_any (a : Option Addr) (len c : Nat) (i : Int) (w : World) (hl : len ≤ 9223372036854775807) :
    Calls Try.prog 33 #[.slice a len c, .int .i64 i] w fun e w' => e = .returned (.bool (decide (0 ≤ i ∧ i ≤ (len : Int)))) ∧ w' = w := by
  by_cases g1 : i < 0
  · have e1 : decide (0 ≤ i ∧ i ≤ (len : Int)) = false := by simp; omega
    rw [e1]
    go_enter Try.func33, Try.ntmps33
    go_wp2
    go_ret
    exact ⟨rfl, rfl⟩
  · have g1' : 0 ≤ i := by omega
    by_cases g2 : i ≤ (len : Int)
    · have e1 : decide (0 ≤ i ∧ i ≤ (len : Int)) = true := by simp; omega
      rw [e1]
      go_enter Try.func33, Try.ntmps33
      go_wp2
      go_ret
      exact ⟨rfl, rfl⟩
    · have g2' : (len : Int) < i := by omega
      have e1 : decide (0 ≤ i ∧ i ≤ (len : Int)) = false := by simp; omega
      rw [e1]
      go_enter Try.func33, Try.ntmps33
      go_wp2
      go_ret
      exact ⟨rfl, rfl⟩
end Go.Proofs.Ytmojnliljaefbaa
