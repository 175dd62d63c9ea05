/- Contract of the document's own Endings: whorlref4.Endings. -/
import Derived.Test.YtikohabbffjpkaaRefWords
namespace Go.Proofs.Ytikohabbffjpkaa
set_option linter.unusedVariables false
set_option linter.unusedSimpArgs false
open Go.RowKit

theorem rendings_any (v : Value) (zs : List Int) (i j : Int) (w : World) (hs : Sl .u8 w v zs) (hlen : zs.length ≤ 1000000) :
    Calls Try.prog 14 #[v, .int .i64 i, .int .i64 j] w fun e w' => e = .returned (.int .i64 (endL zs i j)) ∧ ∃ m, w' = w.drewN m := by
  have HS := hide' hs
  obtain ⟨a, c, rfl, h2, h3, _⟩ := hs
  unfold maxLen at h3
  by_cases g1 : i < 0
  · rw [endL_out (by omega)]
    go_enter Try.func14, Try.ntmps14
    go_wp2
    go_ret
    exact ⟨rfl, 0, rfl⟩
  have d1 : decide (i < 0) = false := by simpa using g1
  by_cases g2 : (zs.length : Int) < i
  · rw [endL_out (by omega)]
    go_enter Try.func14, Try.ntmps14
    go_wp2
    go_ret
    exact ⟨rfl, 0, rfl⟩
  have d2 : decide ((zs.length : Int) < i) = false := by simpa using g2
  by_cases g3 : j < 0
  · rw [endL_out (by omega)]
    go_enter Try.func14, Try.ntmps14
    go_wp2
    go_ret
    exact ⟨rfl, 0, rfl⟩
  have d3 : decide (j < 0) = false := by simpa using g3
  by_cases g4 : (zs.length : Int) < j
  · rw [endL_out (by omega)]
    go_enter Try.func14, Try.ntmps14
    go_wp2
    go_ret
    exact ⟨rfl, 0, rfl⟩
  have d4 : decide ((zs.length : Int) < j) = false := by simpa using g4
  obtain ⟨i, rfl⟩ := Int.eq_ofNat_of_zero_le (show 0 ≤ i by omega)
  obtain ⟨j, rfl⟩ := Int.eq_ofNat_of_zero_le (show 0 ≤ j by omega)
  have g2' : (i : Int) ≤ zs.length := by omega
  have g4' : (j : Int) ≤ zs.length := by omega
  clear g1 g2 g3 g4
  rw [endL_in (by omega) (by omega)]
  obtain ⟨a1, r1, s1, _⟩ := HS.out.runDrop (P := Try.prog) 22 5 Try.underlying22 size8 i (by omega)
  obtain ⟨a2, r2, s2, _⟩ := HS.out.runDrop (P := Try.prog) 22 5 Try.underlying22 size8 j (by omega)
  have S1 := hide' s1
  have S2 := hide' s2
  have L1 : Hid ((zs.drop i).length ≤ 1000000) := by show _ ≤ _; rw [List.length_drop]; omega
  have L2 : Hid ((zs.drop j).length ≤ 1000000) := by show _ ≤ _; rw [List.length_drop]; omega
  clear s1 s2
  go_enter Try.func14, Try.ntmps14
  go_wp2_with fail
  go_quiet ((go_at_call 34; exact Calls.quiet_of (words_any _ _ _ _ _ (S1.out.drewN _) (S2.out.drewN _) L1.out L2.out)))
  go_wp2
  go_ret
  exact ⟨rfl, _, rfl⟩
end Go.Proofs.Ytikohabbffjpkaa
