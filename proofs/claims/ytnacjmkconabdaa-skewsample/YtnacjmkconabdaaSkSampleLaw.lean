/- SkewSample: the walk. -/
import Derived.Test.YtnacjmkconabdaaSkKnown
import Derived.Test.YtnacjmkconabdaaSkRSample
namespace Go.Proofs.Ytnacjmkconabdaa
set_option linter.unusedVariables false
set_option linter.unusedSimpArgs false
open Go.RowKit

theorem smpI_len (z : Int) : (smpI z).length ≤ 1000000 := by
  unfold smpI
  split
  · rw [natL_len, twoN_len]
    omega
  · simp

set_option maxHeartbeats 1000000 in
theorem lawSample (z : Int) (w : World) :
    Calls Try.prog 7 #[.int .i64 z] w fun e w' => e = .returned (.bool true) ∧ Ext w w' := by
  by_cases h34 : 2000 < z ∧ z ≤ 100000
  · obtain ⟨h3, h4⟩ := h34
    go_enter Try.func7, Try.ntmps7
    go_wp2
    go_ret
    exact ⟨rfl, Ext.refl _⟩
  have h5 : decide (2000 < z) = false ∨ (2000 < z ∧ decide (z ≤ 100000) = false) := by
    by_cases h3 : 2000 < z
    · exact .inr ⟨h3, by simp; omega⟩
    · exact .inl (by simp; omega)
  have HD2 := hide' (smpI_len z)
  clear h34
  rcases h5 with h5 | ⟨h5, h6⟩
  all_goals
    go_enter Try.func7, Try.ntmps7
    go_wp2_with fail
    refine (sample_any z w).mono ?_
    rintro e w1 ⟨u1, rfl, ho, he⟩
    have O1 := hide' ho.sl
    have X1 := hide' he
    clear ho he
    go_wp2_with fail
    refine (rsample_any z w1).mono ?_
    rintro e w2 ⟨u2, rfl, ho, he⟩
    have O2 := hide' ho.sl
    have O12 := hide' (O1.out.ext he)
    have X2 := hide' (X1.out.trans he)
    clear ho he O1 X1
    go_wp2_with fail
    refine (ints_same _ _ (smpI z) w2 O12.out O2.out HD2.out).mono ?_
    rintro e w3 ⟨rfl, he⟩
    have X3 := hide' (X2.out.trans he)
    clear he
    go_wp2_with fail
    refine (known_any _).mono ?_
    rintro e w4 ⟨rfl, he⟩
    have X4 := hide' (X3.out.trans he)
    clear he
    go_wp2
    go_ret
    exact ⟨rfl, X4.out⟩
end Go.Proofs.Ytnacjmkconabdaa
