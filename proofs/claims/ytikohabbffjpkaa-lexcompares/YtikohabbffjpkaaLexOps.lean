/- Contracts of lex: isTurn, next, Endings, Turns, Common (bytes.Compare: BCmp). -/
import Derived.Test.YtikohabbffjpkaaByt
import Derived.Test.YtikohabbffjpkaaLexMath
import Derived.Test.YtikohabbffjpkaaBCmp
import Derived.Test.YtikohabbffjpkaaLexIsE
namespace Go.Proofs.Ytikohabbffjpkaa
set_option linter.unusedVariables false
set_option linter.unusedSimpArgs false
open Go.RowKit

theorem isTurn_any (a : Option Addr) (len c : Nat) (i : Int) (w : World) (hl : len ≤ 9223372036854775807) :
    Calls Try.prog 35 #[.slice a len c, .int .i64 i] w fun e w' => e = .returned (.bool (decide (0 ≤ i ∧ i < (len : Int)))) ∧ w' = w := by
  by_cases g1 : i < 0
  · have e1 : decide (0 ≤ i ∧ i < (len : Int)) = false := by simp; omega
    rw [e1]
    go_enter Try.func35, Try.ntmps35
    go_wp2
    go_ret
    exact ⟨rfl, rfl⟩
  · have g1' : 0 ≤ i := by omega
    by_cases g2 : i < (len : Int)
    · have e1 : decide (0 ≤ i ∧ i < (len : Int)) = true := by simp; omega
      rw [e1]
      go_enter Try.func35, Try.ntmps35
      go_wp2
      go_ret
      exact ⟨rfl, rfl⟩
    · have g2' : (len : Int) ≤ i := by omega
      have e1 : decide (0 ≤ i ∧ i < (len : Int)) = false := by simp; omega
      rw [e1]
      go_enter Try.func35, Try.ntmps35
      go_wp2
      go_ret
      exact ⟨rfl, rfl⟩

theorem next_any (a : Option Addr) (len c i : Nat) (w : World) (hl : len ≤ 1000000) (hi : i < len) :
    Calls Try.prog 37 #[.slice a len c, .int .i64 (i : Int)] w fun e w' => e = .returned (.int .i64 (((i + 1) % len : Nat) : Int)) ∧ w' = w := by
  by_cases g : i + 1 = len
  · have e1 : (i + 1) % len = 0 := by rw [g]; exact Nat.mod_self _
    have d1 : ((i : Int) + 1 == (len : Int)) = true := by simp; omega
    rw [e1]
    go_enter Try.func37, Try.ntmps37
    go_wp2
    go_ret
    exact ⟨rfl, rfl⟩
  · have e1 : (i + 1) % len = i + 1 := Nat.mod_eq_of_lt (by omega)
    have d1 : ((i : Int) + 1 == (len : Int)) = false := by simp; omega
    rw [e1]
    go_enter Try.func37, Try.ntmps37
    go_wp2
    go_ret
    exact ⟨rfl, rfl⟩
end Go.Proofs.Ytikohabbffjpkaa
