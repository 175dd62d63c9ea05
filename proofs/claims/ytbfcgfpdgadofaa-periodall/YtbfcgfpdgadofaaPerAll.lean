/- PeriodAll: the walk. -/
import Derived.Test.YtbfcgfpdgadofaaPerKnown
namespace Go.Proofs.Ytbfcgfpdgadofaa
set_option linter.unusedVariables false
set_option linter.unusedSimpArgs false
open Go.RowKit

set_option maxHeartbeats 400000 in
theorem lawAll (v : Value) (zs : List Int) (w : World) (hs : Sl .u8 w v zs) :
    Calls Try.prog 7 #[v] w fun e w' => e = .returned (.bool true) ∧ Ext w w' := by
  have HS := hide' hs
  obtain ⟨a, cap, rfl, hm2, hm3, _⟩ := hs
  unfold maxLen at hm3
  by_cases h1 : (300 : Int) < (zs.length : Int)
  · go_enter Try.func7, Try.ntmps7
    go_wp2
    go_ret
    exact ⟨rfl, Ext.refl _⟩
  have d1 : decide ((300 : Int) < (zs.length : Int)) = false := by simpa using h1
  have hlen : zs.length ≤ 1000000 := by omega
  clear h1
  by_cases h0 : zs.length = 0
  · have hz : zs = [] := List.length_eq_zero_iff.1 h0
    subst hz
    clear d1
    have HF : Hid (leastI [] = 0) := rfl
    go_enter Try.func7, Try.ntmps7
    go_wp2_with fail
    refine (least_any _ [] w HS.out (by simp)).mono ?_
    rw [HF.out]
    rintro e w1 ⟨rfl, he⟩
    have X1 := hide' he
    clear he
    go_wp2_with fail
    refine (known_any _).mono ?_
    rintro e w2 ⟨rfl, he⟩
    have X2 := hide' (X1.out.trans he)
    clear he
    go_wp2
    go_ret
    exact ⟨rfl, X2.out⟩
  · obtain ⟨p1, p2, p3, _⟩ := leastI_spec (s := zs) (by omega)
    have HPer := hide' p3
    have L1 := hide' hlen
    have hne : zs ≠ [] := fun h => h0 (by rw [h]; rfl)
    obtain ⟨P, HP⟩ : ∃ t, Hid (leastI zs = t) := ⟨_, rfl⟩
    obtain ⟨N, HN⟩ : ∃ n, Hid (zs.length = n) := ⟨_, rfl⟩
    rw [HP.out] at p1 p2 HPer
    rw [HN.out] at p2 HPer d1 hlen h0 hm2 HS ⊢
    obtain ⟨_, b1, o1, rfl, c1⟩ := HS.out.at hne
    have C1 := hide' c1
    clear p3 c1 hne
    have d0 : ((N : Int) == 0) = false := by simp; exact h0
    have d2 : decide ((P : Int) < 1) = false := by simp; omega
    have d2n : decide (P < 1) = false := by simp; omega
    have d3 : decide ((N : Int) < (P : Int)) = false := by simp; omega
    have d3n : decide (N < P) = false := by simp; omega
    clear h0
    go_enter Try.func7, Try.ntmps7
    go_wp2_with fail
    refine (least_any _ zs w HS.out L1.out).mono ?_
    rw [HP.out]
    rintro e w1 ⟨rfl, he⟩
    have X1 := hide' he
    clear he
    go_wp2
    go_loopw [4] (fun vi wr => ∃ (i : Nat), P ≤ i ∧ i ≤ N ∧ vi = .int .i64 i ∧ ∃ m, wr = w1.drewN m) (fun vi _ => N - (intOf vi).toNat)
    case atStart => exact ⟨P, Nat.le_refl _, p2, rfl, 0, rfl⟩
    case round =>
      obtain ⟨i, hi1, hi2, rfl, m, rfl⟩ := hrel
      by_cases hlt : i < N
      · have hlt' : (i : Int) < N := by omega
        have hsub : (i : Int) - (P : Int) = ((i - P : Nat) : Int) := by omega
        have hlt2 : ((i - P : Nat) : Int) < N := by omega
        have ci := X1.out.cellOf (C1.out i hlt)
        have cp := X1.out.cellOf (C1.out (i - P) (by omega))
        have hh := HPer.out (i - P) (by omega)
        rw [show i - P + P = i by omega] at hh
        rw [hh] at cp
        generalize zs.getD i 0 = z at ci cp
        clear hh
        generalize hd : i - P = d at hsub hlt2 cp
        clear hd
        go_wp2_with fail
        go_quiet (fail)
        go_wp2
        go_roundw
        case rel => exact ⟨i + 1, by omega, by omega, by go_num, _, rfl⟩
        case measure => simp [intOf]; omega
      · have hlt' : decide ((i : Int) < N) = false := by simp; omega
        go_wp2_with fail
        refine (known_any _).mono ?_
        rintro e w3 ⟨rfl, he⟩
        have X3 := hide' ((X1.out.trans (Ext.drewN _ _)).trans he)
        clear he
        go_wp2
        go_ret
        exact ⟨rfl, X3.out⟩
end Go.Proofs.Ytbfcgfpdgadofaa
