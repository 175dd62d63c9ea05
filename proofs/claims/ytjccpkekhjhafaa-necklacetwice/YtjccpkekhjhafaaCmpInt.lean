/- Contract of cmp.Compare at two numbers. -/
import Derived.Test.YtjccpkekhjhafaaByt
namespace Go.Proofs.Ytjccpkekhjhafaa
set_option linter.unusedVariables false
set_option linter.unusedSimpArgs false
open Go.RowKit

theorem isNaNInt_any (x : Int) (w : World) : Calls Try.prog 51 #[.int .i64 x] w fun e w' => e = .returned (.bool false) ∧ w' = w := by
  go_enter Try.func51, Try.ntmps51
  go_wp2
  go_ret
  exact ⟨rfl, rfl⟩

/-- cmp.Compare of two numbers. -/
theorem cmpInt_any (x y : Int) (w : World) : Calls Try.prog 35 #[.int .i64 x, .int .i64 y] w fun e w' => e = .returned (.int .i64 (if x < y then -1 else if y < x then 1 else 0)) ∧ w' = w := by
  by_cases hlt : x < y
  · rw [if_pos hlt]
    go_enter Try.func35, Try.ntmps35
    go_wp2_with fail
    refine (isNaNInt_any x _).mono ?_
    rintro e w' ⟨rfl, rfl⟩
    go_wp2_with fail
    refine (isNaNInt_any y _).mono ?_
    rintro e w' ⟨rfl, rfl⟩
    go_wp2
    go_ret
    exact ⟨rfl, rfl⟩
  · rw [if_neg hlt]
    have d : decide (x < y) = false := by simpa using hlt
    by_cases hgt : y < x
    · rw [if_pos hgt]
      go_enter Try.func35, Try.ntmps35
      go_wp2_with fail
      refine (isNaNInt_any x _).mono ?_
      rintro e w' ⟨rfl, rfl⟩
      go_wp2_with fail
      refine (isNaNInt_any y _).mono ?_
      rintro e w' ⟨rfl, rfl⟩
      go_wp2
      go_ret
      exact ⟨rfl, rfl⟩
    · rw [if_neg hgt]
      have d2 : decide (y < x) = false := by simpa using hgt
      go_enter Try.func35, Try.ntmps35
      go_wp2_with fail
      refine (isNaNInt_any x _).mono ?_
      rintro e w' ⟨rfl, rfl⟩
      go_wp2_with fail
      refine (isNaNInt_any y _).mono ?_
      rintro e w' ⟨rfl, rfl⟩
      go_wp2
      go_ret
      exact ⟨rfl, rfl⟩
end Go.Proofs.Ytjccpkekhjhafaa
