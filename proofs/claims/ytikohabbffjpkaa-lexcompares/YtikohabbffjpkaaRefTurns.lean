/- Contract of the document's own Turns: whorlref4.Turns. -/
import Derived.Test.YtikohabbffjpkaaRefTurn
namespace Go.Proofs.Ytikohabbffjpkaa
set_option linter.unusedVariables false
set_option linter.unusedSimpArgs false
open Go.RowKit

theorem rturns_any (v : Value) (zs : List Int) (i j : Int) (w : World) (hs : Sl .u8 w v zs) (hlen : zs.length ≤ 1000000) :
    Calls Try.prog 16 #[v, .int .i64 i, .int .i64 j] w fun e w' => e = .returned (.int .i64 (turnsL zs i j)) ∧ Ext w w' := by
  have HS := hide' hs
  obtain ⟨a, c, rfl, h2, h3, _⟩ := hs
  unfold maxLen at h3
  by_cases g1 : i < 0
  · rw [turnsL_out (by omega)]
    go_enter Try.func16, Try.ntmps16
    go_wp2
    go_ret
    exact ⟨rfl, Ext.refl _⟩
  have d1 : decide (i < 0) = false := by simpa using g1
  by_cases g2 : (zs.length : Int) ≤ i
  · rw [turnsL_out (by omega)]
    go_enter Try.func16, Try.ntmps16
    go_wp2
    go_ret
    exact ⟨rfl, Ext.refl _⟩
  have d2 : decide ((zs.length : Int) ≤ i) = false := by simpa using g2
  by_cases g3 : j < 0
  · rw [turnsL_out (by omega)]
    go_enter Try.func16, Try.ntmps16
    go_wp2
    go_ret
    exact ⟨rfl, Ext.refl _⟩
  have d3 : decide (j < 0) = false := by simpa using g3
  by_cases g4 : (zs.length : Int) ≤ j
  · rw [turnsL_out (by omega)]
    go_enter Try.func16, Try.ntmps16
    go_wp2
    go_ret
    exact ⟨rfl, Ext.refl _⟩
  have d4 : decide ((zs.length : Int) ≤ j) = false := by simpa using g4
  obtain ⟨i, rfl⟩ := Int.eq_ofNat_of_zero_le (show 0 ≤ i by omega)
  obtain ⟨j, rfl⟩ := Int.eq_ofNat_of_zero_le (show 0 ≤ j by omega)
  have g2' : (i : Int) < zs.length := by omega
  have g4' : (j : Int) < zs.length := by omega
  clear g1 g2 g3 g4
  rw [turnsL_in (by omega) (by omega)]
  go_enter Try.func16, Try.ntmps16
  go_wp2_with fail
  refine (rturn_any _ zs i w HS.out (by omega) hlen).mono ?_
  rintro e w1 ⟨s, rfl, ho, he⟩
  have HO := hide' ho.sl
  have HE := hide' he
  have l1 := hide' (turnI_len (s := zs) (i := i) (by omega))
  obtain ⟨x, hx⟩ : ∃ x, turnI zs i = x := ⟨_, rfl⟩
  rw [hx] at HO l1
  have HX := hide' hx
  obtain ⟨a1, c1, hv, _⟩ := HO.out
  subst hv
  clear ho he hx
  go_wp2_with fail
  refine (rturn_any _ zs j w1 (HS.out.ext HE.out) (by omega) hlen).mono ?_
  rintro e w2 ⟨s, rfl, ho, he⟩
  have HO2 := hide' ho.sl
  have HE2 := hide' he
  have l2 := hide' (turnI_len (s := zs) (i := j) (by omega))
  obtain ⟨y, hy⟩ : ∃ y, turnI zs j = y := ⟨_, rfl⟩
  rw [hy] at HO2 l2
  have HY := hide' hy
  obtain ⟨a2, c2, hv, _⟩ := HO2.out
  subst hv
  clear ho he hy
  have h1 : x.length ≤ 1000000 := by rw [l1.out]; exact hlen
  have h2 : y.length ≤ 1000000 := by rw [l2.out]; exact hlen
  clear l1 l2
  go_wp2_with fail
  refine (words_any _ _ x y w2 (HO.out.ext HE2.out) HO2.out h1 h2).mono ?_
  rintro e w3 ⟨rfl, m, rfl⟩
  go_wp2
  go_ret
  rw [HX.out, HY.out]
  exact ⟨rfl, (HE.out.trans HE2.out).trans (Ext.drewN _ _)⟩
end Go.Proofs.Ytikohabbffjpkaa
