/- CrossLong: the walk. -/
import Derived.Test.YtmnbjikhjdmmfaaCrKnown
import Derived.Test.YtmnbjikhjdmmfaaPart3
namespace Go.Proofs.Ytmnbjikhjdmmfaa
set_option linter.unusedVariables false
set_option linter.unusedSimpArgs false
open Go.RowKit

set_option maxHeartbeats 2000000 in
theorem lawLong (x y : Int) (w : World) :
    Calls Try.prog 5 #[.int .i64 x, .int .i64 y] w fun e w' => e = .returned (.bool true) ∧ Ext w w' := by
  by_cases h : x < 1 ∨ 3 < x ∨ y < 0 ∨ 2 < y
  · by_cases h1 : x < 1
    · have d1 : decide (x < 1) = true := decide_eq_true h1
      go_enter Try.func5, Try.ntmps5
      go_wp2
      go_ret
      exact ⟨rfl, Ext.refl _⟩
    have d1 : decide (x < 1) = false := decide_eq_false h1
    by_cases h2 : 3 < x
    · have d2 : decide (3 < x) = true := decide_eq_true h2
      go_enter Try.func5, Try.ntmps5
      go_wp2
      go_ret
      exact ⟨rfl, Ext.refl _⟩
    have d2 : decide (3 < x) = false := decide_eq_false h2
    by_cases h3 : y < 0
    · have d3 : decide (y < 0) = true := decide_eq_true h3
      go_enter Try.func5, Try.ntmps5
      go_wp2
      go_ret
      exact ⟨rfl, Ext.refl _⟩
    have d3 : decide (y < 0) = false := decide_eq_false h3
    have d4 : decide (2 < y) = true := decide_eq_true (by omega)
    go_enter Try.func5, Try.ntmps5
    go_wp2
    go_ret
    exact ⟨rfl, Ext.refl _⟩
  have d1 : decide (x < 1) = false := decide_eq_false (by omega)
  have d2 : decide (3 < x) = false := decide_eq_false (by omega)
  have d3 : decide (y < 0) = false := decide_eq_false (by omega)
  have d4 : decide (2 < y) = false := decide_eq_false (by omega)
  obtain ⟨j, rfl⟩ := Int.eq_ofNat_of_zero_le (show 0 ≤ y by omega)
  have HJ : Hid (j < 3) := by show _ < _; omega
  obtain ⟨n, hn⟩ := Int.eq_ofNat_of_zero_le (show 0 ≤ 100000 + x by omega)
  have HN : Hid (100000 < n ∧ n ≤ 100003) := ⟨by omega, by omega⟩
  have hw : IntKind.i64.wrap (100000 + x) = (n : Int) := by rw [IntKind.wrap_i64]; omega
  have q3 := fun w => eq3 0 0 0 0 0 0 w
  simp only [beq_self_eq_true, Bool.and_self] at q3
  clear h hn
  go_enter Try.func5, Try.ntmps5
  go_wp2_with fail
  refine (crsNew_any w).mono ?_
  rintro e w1 ⟨v, fp, rfl, hm, hn, he⟩
  have M1 := hide' hm
  have X1 := hide' he
  clear hm hn he
  obtain ⟨m, rfl⟩ := M1.out.ptr
  obtain ⟨w2, hmk, ho, he⟩ := make_bytes w1 n (by have := HN.out; omega)
  have S2 := hide' ho.sl
  have X12 := hide' he
  have HZ : Hid (∀ z ∈ List.replicate n (0 : Int), z = 0) := fun z hz => (List.mem_replicate.1 hz).2
  have HZL : Hid ((List.replicate n (0 : Int)).length = n) := List.length_replicate
  obtain ⟨Z, HZZ⟩ : ∃ Z, Hid (List.replicate n (0 : Int) = Z) := ⟨_, rfl⟩
  rw [HZZ.out] at S2 HZ HZL
  clear ho he
  go_wp2_with fail
  refine (crsRun_long _ _ Z 0 0 0 fp w2 (M1.out.ext X12.out) S2.out HZ.out (by have := HN.out; have := HZL.out; omega) (by have := HN.out; have := HZL.out; omega)).mono ?_
  rintro e w3 ⟨rfl, he⟩
  have X13 := hide' (X12.out.trans (he.trans (ext_alloc w3 (.cells #[.slice none 0 0, .slice none 0 0, .bool false] 27 (0, 0)))))
  have S3 := hide' (S2.out.ext (he.trans (ext_alloc w3 (.cells #[.slice none 0 0, .slice none 0 0, .bool false] 27 (0, 0)))))
  clear he hmk
  go_wp2_with fail
  refine (crsSort_long _ _ Z j 0 0 0 fp _ (M1.out.ext X13.out) HJ.out S3.out HZ.out (by have := HN.out; have := HZL.out; omega) (by have := HN.out; have := HZL.out; omega)).mono ?_
  rintro e w4 ⟨u, rfl, he⟩
  have X14 := hide' (X13.out.trans he)
  clear he
  go_wp2_with fail
  refine (crsRuns_any _ 0 0 0 fp w4 (M1.out.ext X14.out)).mono ?_
  rintro e w5 ⟨rfl, he⟩
  have X15 := hide' (X14.out.trans he)
  clear he
  go_wp2_with fail
  refine (known_any w5).mono ?_
  rintro e w6 ⟨rfl, he⟩
  have X6 := hide' (X1.out.trans (X15.out.trans he))
  clear he
  go_wp2
  go_ret
  exact ⟨rfl, X6.out⟩
end Go.Proofs.Ytmnbjikhjdmmfaa
