/- Contract of lex.Endings. -/
import Derived.Test.YtikohabbffjpkaaLexOps
import Derived.Test.YtikohabbffjpkaaLexCom
namespace Go.Proofs.Ytikohabbffjpkaa
set_option linter.unusedVariables false
set_option linter.unusedSimpArgs false
open Go.RowKit

theorem endings_any (v : Value) (zs : List Int) (i j : Int) (w : World) (hs : Sl .u8 w v zs) (hb : Bytes8 zs) :
    Calls Try.prog 13 #[v, .int .i64 i, .int .i64 j] w fun e w' => e = .returned (.int .i64 (endL zs i j)) ∧ ∃ m, w' = w.drewN m := by
  have HS := hide' hs
  have HB := hide' hb
  obtain ⟨a, c, rfl, h2, h3, _⟩ := hs
  unfold maxLen at h3
  clear hb
  have hl : zs.length ≤ 9223372036854775807 := by omega
  by_cases g1 : 0 ≤ i ∧ i ≤ (zs.length : Int)
  · have C1 : Hid (∀ W, Calls Try.prog 32 #[.slice a zs.length c, .int .i64 i] W fun e w' => e = .returned (.bool true) ∧ w' = W) := fun W => by
      have := isEnding_any a zs.length c i W hl
      rwa [show decide (0 ≤ i ∧ i ≤ (zs.length : Int)) = true from decide_eq_true g1] at this
    by_cases g2 : 0 ≤ j ∧ j ≤ (zs.length : Int)
    · have C2 : Hid (∀ W, Calls Try.prog 32 #[.slice a zs.length c, .int .i64 j] W fun e w' => e = .returned (.bool true) ∧ w' = W) := fun W => by
        have := isEnding_any a zs.length c j W hl
        rwa [show decide (0 ≤ j ∧ j ≤ (zs.length : Int)) = true from decide_eq_true g2] at this
      obtain ⟨g1, g1'⟩ := g1
      obtain ⟨g2, g2'⟩ := g2
      obtain ⟨i, rfl⟩ := Int.eq_ofNat_of_zero_le g1
      obtain ⟨j, rfl⟩ := Int.eq_ofNat_of_zero_le g2
      rw [endL_in (by omega) (by omega)]
      obtain ⟨a1, r1, s1, _⟩ := HS.out.runDrop (P := Try.prog) 22 5 Try.underlying22 size8 i (by omega)
      obtain ⟨a2, r2, s2, _⟩ := HS.out.runDrop (P := Try.prog) 22 5 Try.underlying22 size8 j (by omega)
      have S1 := hide' s1
      have S2 := hide' s2
      clear s1 s2
      go_enter Try.func13, Try.ntmps13
      go_wp2_with fail
      refine (C1.out _).mono ?_
      rintro e w' ⟨rfl, rfl⟩
      go_wp2_with fail
      refine (C2.out _).mono ?_
      rintro e w' ⟨rfl, rfl⟩
      go_wp2_with fail
      go_quiet ((go_at_call 33; exact Calls.quiet_of_same (compare_any _ _ _ _ _ (S1.out.drewN _) (S2.out.drewN _) (HB.out.drop i) (HB.out.drop j))))
      go_wp2
      go_ret
      exact ⟨rfl, _, rfl⟩
    · have C2 : Hid (∀ W, Calls Try.prog 32 #[.slice a zs.length c, .int .i64 j] W fun e w' => e = .returned (.bool false) ∧ w' = W) := fun W => by
        have := isEnding_any a zs.length c j W hl
        rwa [show decide (0 ≤ j ∧ j ≤ (zs.length : Int)) = false from decide_eq_false g2] at this
      rw [endL_out (fun h => g2 h.2)]
      go_enter Try.func13, Try.ntmps13
      go_wp2_with fail
      refine (C1.out _).mono ?_
      rintro e w' ⟨rfl, rfl⟩
      go_wp2_with fail
      refine (C2.out _).mono ?_
      rintro e w' ⟨rfl, rfl⟩
      go_wp2
      go_ret
      exact ⟨rfl, 0, rfl⟩
  · have C1 : Hid (∀ W, Calls Try.prog 32 #[.slice a zs.length c, .int .i64 i] W fun e w' => e = .returned (.bool false) ∧ w' = W) := fun W => by
      have := isEnding_any a zs.length c i W hl
      rwa [show decide (0 ≤ i ∧ i ≤ (zs.length : Int)) = false from decide_eq_false g1] at this
    rw [endL_out (fun h => g1 h.1)]
    go_enter Try.func13, Try.ntmps13
    go_wp2_with fail
    refine (C1.out _).mono ?_
    rintro e w' ⟨rfl, rfl⟩
    go_wp2
    go_ret
    exact ⟨rfl, 0, rfl⟩
end Go.Proofs.Ytikohabbffjpkaa
