/- KindsNext: the walk. -/
import Derived.Test.YtjlekbmjjcompaaKinKnown
namespace Go.Proofs.Ytjlekbmjjcompaa
set_option linter.unusedVariables false
set_option linter.unusedSimpArgs false
open Go.RowKit

set_option maxHeartbeats 2000000 in
theorem lawNext (v : Value) (zs : List Int) (w : World) (hv : Sl .i64 w v zs) :
    Calls Try.prog 4 #[v] w fun e w' => e = .returned (.bool true) ∧ Ext w w' := by
  have HV := hide' hv
  obtain ⟨a, c, rfl, _⟩ := hv
  by_cases h1 : (300 : Int) < (zs.length : Int)
  · go_enter Try.func4, Try.ntmps4
    go_wp2
    go_ret
    exact ⟨rfl, Ext.refl _⟩
  have d1 : decide ((300 : Int) < (zs.length : Int)) = false := by simpa using h1
  have HL4 : Hid (zs.length ≤ 4000000) := by show _ ≤ _; omega
  have HSM := hide' (small_any _ zs w HV.out HL4.out)
  obtain ⟨_, _, _, hcv⟩ := HV.out.int
  have CV := hide' hcv
  obtain ⟨n, HN⟩ : ∃ n, Hid (zs.length = n) := ⟨_, rfl⟩
  have HNB : Hid ((smallI zs).length = n) := by show _ = _; rw [smallI_len, HN.out]
  have hn : n ≤ 300 := by have := HN.out; omega
  rw [HN.out] at HSM CV d1 ⊢
  clear h1 hcv HV HL4
  by_cases h0 : n = 0
  · subst h0
    go_enter Try.func4, Try.ntmps4
    go_wp2_with fail
    refine HSM.out.mono ?_
    rintro e w1 ⟨s1, rfl, ho, he⟩
    obtain ⟨a1, c1, rfl, _⟩ := ho.sl
    have X1 := hide' he
    rw [HNB.out]
    clear ho he
    go_wp2
    go_loopw [5] (fun vi wr => vi = .int .i64 0 ∧ wr = w1) (fun _ _ => 0)
    case atStart => exact ⟨rfl, rfl⟩
    case round =>
      obtain ⟨rfl, rfl⟩ := hrel
      go_wp2_with fail
      refine (known_any wr).mono ?_
      rintro e w2 ⟨rfl, he⟩
      have X2 := hide' (X1.out.trans he)
      clear he
      go_wp2
      go_ret
      exact ⟨rfl, X2.out⟩
  · obtain ⟨t, HT⟩ : ∃ t, Hid (n = t + 1) := ⟨n - 1, by show _ = _; omega⟩
    have ht1 : (0 : Int) < (n : Int) := by omega
    have ht2 : (n : Int) - 1 = (t : Int) := by have := HT.out; omega
    have ht3 : (t : Int) < (n : Int) := by omega
    have ht5 : t < n := by omega
    clear h0
    go_enter Try.func4, Try.ntmps4
    go_wp2_with fail
    refine HSM.out.mono ?_
    rintro e w1 ⟨s1, rfl, ho, he⟩
    have O1 := hide' ho.sl
    have X1 := hide' he
    clear ho he HSM
    obtain ⟨a1, c1, rfl, _⟩ := O1.out
    rw [HNB.out] at O1 ⊢
    obtain ⟨_, _, _, hc1⟩ := O1.out.truth
    obtain ⟨g1, o1, rfl, k1⟩ := hc1 (by omega)
    obtain ⟨g2, o2, rfl, k2⟩ := CV.out (by omega)
    have hl := k1 t ht5
    rw [smallI_at (by rw [HN.out]; omega), smB_last (by rw [HN.out]; have := HT.out; omega)] at hl
    have K1 : Hid (∀ j, j < n → w1.cell? ⟨g1, o1 + j, none⟩ = some (.bool (smB zs j))) := fun j hj => by rw [k1 j hj, smallI_at (by rw [HN.out]; exact hj)]
    have K2 : Hid (∀ j, j < n → w1.cell? ⟨g2, o2 + j, none⟩ = some (.int .i64 (zs.getD j 0))) := fun j hj => X1.out.cellOf (k2 j hj)
    clear k1 k2 hc1 CV O1
    go_wp2
    clear hl
    go_loopw [5] (fun vi wr => ∃ (i : Nat), i < n ∧ vi = .int .i64 i ∧ ∃ m, wr = w1.drewN m) (fun vi _ => n - (intOf vi).toNat)
    case atStart => exact ⟨0, by omega, rfl, 0, rfl⟩
    case round =>
      obtain ⟨i, hi, rfl, m, rfl⟩ := hrel
      by_cases hlt : i + 1 < n
      · have hlt' : (i : Int) < (n : Int) := by omega
        have hlt2 : (i : Int) + 1 < (n : Int) := by omega
        have q1 := K1.out i (by omega)
        have q2 := K1.out (i + 1) (by omega)
        have r1 := K2.out i (by omega)
        have r2 := K2.out (i + 1) (by omega)
        obtain ⟨p, HP⟩ : ∃ z, Hid (zs.getD i 0 = z) := ⟨_, rfl⟩
        obtain ⟨q, HQ⟩ : ∃ z, Hid (zs.getD (i + 1) 0 = z) := ⟨_, rfl⟩
        rw [HP.out] at r1
        rw [HQ.out] at r2
        rcases Int.lt_trichotomy p q with h | h | h
        · rw [smB_lt (by rw [HN.out]; omega) (by rw [HP.out, HQ.out]; exact h)] at q1
          go_wp2_with fail
          go_big_quiet (fail)
          go_wp2
          go_roundw
          case rel => exact ⟨i + 1, by omega, by go_num, _, by first | rfl | exact World.drewN_drewN _ _ _⟩
          case measure => simp [intOf]; omega
        · rw [smB_eq (by rw [HN.out]; omega) (by rw [HP.out, HQ.out]; exact h)] at q1
          obtain ⟨r, HR⟩ : ∃ z, Hid (smB zs (i + 1) = z) := ⟨_, rfl⟩
          rw [HR.out] at q1 q2
          subst h
          have h1 : decide (p < p) = false := by simp
          cases r
          all_goals
            go_wp2_with fail
            go_big_quiet (fail)
            go_wp2
            go_roundw
            case rel => exact ⟨i + 1, by omega, by go_num, _, by first | rfl | exact World.drewN_drewN _ _ _⟩
            case measure => simp [intOf]; omega
        · rw [smB_gt (by rw [HN.out]; omega) (by rw [HP.out, HQ.out]; exact h)] at q1
          have h1 : decide (p < q) = false := by simp; omega
          have h2 : (p == q) = false := by simp; omega
          go_wp2_with fail
          go_big_quiet (fail)
          go_wp2
          go_roundw
          case rel => exact ⟨i + 1, by omega, by go_num, _, by first | rfl | exact World.drewN_drewN _ _ _⟩
          case measure => simp [intOf]; omega
      · have hlt' : decide ((i : Int) + 1 < (n : Int)) = false := by simp; omega
        have hlt3 : decide (i + 1 < n) = false := by simp; omega
        have X3 : Hid (Ext w (w1.drewN m)) := X1.out.trans (Ext.drewN _ _)
        generalize w1.drewN m = W at *
        go_wp2_with fail
        refine (known_any W).mono ?_
        rintro e w7 ⟨rfl, he⟩
        have X7 := hide' (X3.out.trans he)
        clear he
        go_wp2
        go_ret
        exact ⟨rfl, X7.out⟩
end Go.Proofs.Ytjlekbmjjcompaa
