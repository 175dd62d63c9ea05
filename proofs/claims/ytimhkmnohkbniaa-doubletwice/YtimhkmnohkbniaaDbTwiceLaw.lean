/- DoubleTwice: the walk. -/
import Derived.Test.YtimhkmnohkbniaaDbKnown
namespace Go.Proofs.Ytimhkmnohkbniaa
set_option linter.unusedVariables false
set_option linter.unusedSimpArgs false
open Go.RowKit

set_option maxHeartbeats 4000000 in
set_option maxRecDepth 100000 in
theorem lawTwice (v : Value) (s : List Int) (h : Int) (w : World) (hv : Sl .i64 w v s) :
    Calls Try.prog 8 #[v, .int .i64 h] w fun e w' => e = .returned (.bool true) ∧ Ext w w' := by
  have HV := hide' hv
  obtain ⟨a, c, hve, _⟩ := hv
  by_cases h1 : (50 : Int) < (s.length : Int)
  · subst hve
    go_enter Try.func8, Try.ntmps8
    go_wp2
    go_ret
    exact ⟨rfl, Ext.refl _⟩
  have d1 : decide ((50 : Int) < (s.length : Int)) = false := by simpa using h1
  by_cases h2 : h < 0
  · subst hve
    go_enter Try.func8, Try.ntmps8
    go_wp2
    go_ret
    exact ⟨rfl, Ext.refl _⟩
  have d2 : decide (h < 0) = false := by simp; omega
  by_cases h3 : 60 < h
  · subst hve
    go_enter Try.func8, Try.ntmps8
    go_wp2
    go_ret
    exact ⟨rfl, Ext.refl _⟩
  have d3 : decide (60 < h) = false := by simp; omega
  obtain ⟨H, rfl⟩ := Int.eq_ofNat_of_zero_le (show 0 ≤ h by omega)
  have hH : H ≤ 60 := by omega
  have hmul : 2 * (H : Int) = ((2 * H : Nat) : Int) := by omega
  have HTW0 : Hid (∀ i k, i < s.length → k < s.length → (hrI s (2 * H) i < hrI s (2 * H) k ↔ hrI s H i < hrI s H k ∨ (hrI s H i = hrI s H k ∧ onI s H H i < onI s H H k))) := fun i k g1 g2 => hr_twice g1 g2
  obtain ⟨D, HD⟩ : ∃ D, Hid (2 * H = D) := ⟨_, rfl⟩
  rw [HD.out] at hmul HTW0
  have hn : s.length ≤ 50 := by omega
  have HC1 : Hid (∀ W, Sl .i64 W v s → Calls Try.prog 16 #[v, .int .i64 (H : Int)] W fun e w' => ∃ u, e = .returned u ∧ Own .i64 3 W.heap.size w' u (natL (hrL s H)) ∧ Ext W w') := fun W g => by
    have := dbRanks_any v s (H : Int) W g (by omega)
    rwa [rkI_yes (by omega)] at this
  have HC2 : Hid (∀ W, Sl .i64 W v s → Calls Try.prog 16 #[v, .int .i64 (D : Int)] W fun e w' => ∃ u, e = .returned u ∧ Own .i64 3 W.heap.size w' u (natL (hrL s D)) ∧ Ext W w') := fun W g => by
    have := dbRanks_any v s (D : Int) W g (by omega)
    rwa [rkI_yes (by omega)] at this
  have HAT : Hid (∀ b i, i < s.length → (hrL s b).getD i 0 = hrI s b i) := fun b i hi => hrL_at hi
  have HON1 : Hid (∀ i, i + H < s.length → onI s H H i = (hrI s H (i + H) : Int)) := fun i hi => by unfold onI; rw [if_pos hi]
  have HON2 : Hid (∀ i, ¬ i + H < s.length → onI s H H i = -1) := fun i hi => by unfold onI; rw [if_neg hi]
  have HLL : Hid (∀ b, (natL (hrL s b)).length = s.length) := fun b => by show _ = _; rw [natL_len, hrL_len]
  subst hve
  obtain ⟨n, HN⟩ : ∃ n, Hid (s.length = n) := ⟨_, rfl⟩
  rw [HN.out] at d1 hn HV HTW0 HC1 HC2 HAT HON1 HON2 HLL
  rw [HN.out]
  clear h1 h2 h3
  go_enter Try.func8, Try.ntmps8
  go_wp2_with fail
  refine (HC1.out w HV.out).mono ?_
  rintro e w1 ⟨u1, rfl, ho, he⟩
  have S1 := hide' ho.sl
  have X1 := hide' he
  clear ho he HC1
  go_wp2_with fail
  refine (HC2.out w1 (HV.out.ext X1.out)).mono ?_
  rintro e w2 ⟨u2, rfl, ho, he⟩
  have S2 := hide' ho.sl
  have S1' := hide' (S1.out.ext he)
  have X2 := hide' (X1.out.trans he)
  clear ho he HC2 S1 X1
  obtain ⟨a1, c1, hu1, _⟩ := id S1'.out
  subst hu1
  obtain ⟨a2, c2, hu2, _⟩ := id S2.out
  subst hu2
  rw [HLL.out] at S1' S2
  rw [HLL.out, HLL.out]
  obtain ⟨_, _, _, ka⟩ := S1'.out.nat
  obtain ⟨_, _, _, kb⟩ := S2.out.nat
  have CA := hide' ka
  have CB := hide' kb
  have dn : ((n : Int) != (n : Int)) = false := by simp
  clear ka kb S1' S2
  go_wp2_with fail
  go_loopw [8] (fun vi wr => ∃ (i : Nat), i ≤ n ∧ vi = .int .i64 i ∧ Hid (Ext w wr) ∧ Hid (Ext w2 wr)) (fun vi _ => n - (intOf vi).toNat)
  case atStart => exact ⟨0, Nat.zero_le _, rfl, X2, Ext.refl _⟩
  case round =>
    clear X2 dn d1 d2 d3 hmul
    obtain ⟨i, hi, rfl, HE0, HE⟩ := hrel
    by_cases hlt : i < n
    · have hlt' : (i : Int) < n := by omega
      have HX0 := hide' HE0.out
      go_wp2
      generalize hWW : wr = W at *
      clear hWW HX0
      go_loopw [9] (fun vk wr => ∃ (k : Nat), k ≤ n ∧ vk = .int .i64 k ∧ Hid (Ext W wr)) (fun vk _ => n - (intOf vk).toNat)
      case atStart => exact ⟨0, Nat.zero_le _, rfl, Ext.refl _⟩
      case round =>
        obtain ⟨k, hk, rfl, HK⟩ := hrel
        by_cases hkt : k < n
        · have hkt' : (k : Int) < n := by omega
          have HTW := hide' (HTW0.out i k hlt hkt)
          obtain ⟨g1, o1, rfl, k1⟩ := CA.out (by omega)
          obtain ⟨g2, o2, rfl, k2⟩ := CB.out (by omega)
          have HCA : Hid (∀ j, j < n → ∀ m, (wr.drewN m).cell? ⟨g1, o1 + j, none⟩ = some (.int .i64 ((hrI s H j : Nat) : Int))) := fun j hj m => by
            have := (Ext.drewN wr m).cellOf (HK.out.cellOf (HE.out.cellOf (k1 j hj)))
            rwa [HAT.out H j hj] at this
          have HCB : Hid (∀ j, j < n → ∀ m, (wr.drewN m).cell? ⟨g2, o2 + j, none⟩ = some (.int .i64 ((hrI s D j : Nat) : Int))) := fun j hj m => by
            have := (Ext.drewN wr m).cellOf (HK.out.cellOf (HE.out.cellOf (k2 j hj)))
            rwa [HAT.out D j hj] at this
          have ca := HCA.out i hlt
          have cak := HCA.out k hkt
          have cb := HCB.out i hlt
          have cbk := HCB.out k hkt
          clear k1 k2
          obtain ⟨ai, HAI⟩ : ∃ x, Hid (hrI s H i = x) := ⟨_, rfl⟩
          obtain ⟨ak, HAK⟩ : ∃ x, Hid (hrI s H k = x) := ⟨_, rfl⟩
          obtain ⟨bi, HBI⟩ : ∃ x, Hid (hrI s D i = x) := ⟨_, rfl⟩
          obtain ⟨bk, HBK⟩ : ∃ x, Hid (hrI s D k = x) := ⟨_, rfl⟩
          rw [HAI.out] at ca HTW
          rw [HAK.out] at cak HTW
          rw [HBI.out] at cb HTW
          rw [HBK.out] at cbk HTW
          have eI : (i : Int) + (H : Int) = ((i + H : Nat) : Int) := by omega
          have eJ : (k : Int) + (H : Int) = ((k + H : Nat) : Int) := by omega
          have HOI1 := hide' (HON1.out i)
          have HOI2 := hide' (HON2.out i)
          have HOK1 := hide' (HON1.out k)
          have HOK2 := hide' (HON2.out k)
          obtain ⟨I, HI⟩ : ∃ x, Hid (i + H = x) := ⟨_, rfl⟩
          obtain ⟨J, HJ⟩ : ∃ x, Hid (k + H = x) := ⟨_, rfl⟩
          have hI2 : I ≤ 200 := by rw [← HI.out]; omega
          have hJ2 : J ≤ 200 := by rw [← HJ.out]; omega
          rw [HI.out] at eI HOI1 HOI2
          rw [HJ.out] at eJ HOK1 HOK2
          by_cases hI : I < n
          · have hI' : (I : Int) < n := by omega
            have cI := HCA.out I hI
            have cI0 := cI 0
            rw [HOI1.out hI] at HTW
            obtain ⟨x, HX⟩ : ∃ x, Hid (hrI s H I = x) := ⟨_, rfl⟩
            rw [HX.out] at cI cI0 HTW
            have cI1 : wr.cell? ⟨g1, o1 + I, none⟩ = some (.int .i64 ((x : Nat) : Int)) := cI0
            clear cI0
            by_cases hJ : J < n
            · have hJ' : (J : Int) < n := by omega
              have cJ := HCA.out J hJ
              have cJ0 := cJ 0
              rw [HOK1.out hJ] at HTW
              obtain ⟨y, HY⟩ : ∃ y, Hid (hrI s H J = y) := ⟨_, rfl⟩
              rw [HY.out] at cJ cJ0 HTW
              have cJ1 : wr.cell? ⟨g1, o1 + J, none⟩ = some (.int .i64 ((y : Nat) : Int)) := cJ0
              clear cJ0 HCA HCB HOI1 HOI2 HOK1 HOK2
              rcases Nat.lt_trichotomy ai ak with hq | hq | hq
              · have q1 : (ai : Int) < (ak : Int) := by omega
                have q2 : bi < bk := HTW.out.2 (.inl hq)
                have q3 : (bi : Int) < (bk : Int) := by omega
                clear HTW
                go_wp2_with fail
                go_quiet (fail)
                go_wp2
                go_roundw
                case rel => exact ⟨k + 1, by omega, by go_num, by first | exact hide' (HK.out.trans (Ext.drewN _ _)) | exact hide' (HK.out.trans ((Ext.drewN _ _).trans (Ext.drewN _ _)))⟩
                case measure => simp [intOf] <;> omega
              · have q1 : decide ((ai : Int) < (ak : Int)) = false := by simp; omega
                have q1' : decide (ai < ak) = false := by simp; omega
                have q4 : ((ai : Int) == (ak : Int)) = true := by simp; omega
                by_cases hxy : ((x : Int) : Int) < (y : Int)
                · have q2 : bi < bk := HTW.out.2 (.inr ⟨hq, hxy⟩)
                  have q3 : (bi : Int) < (bk : Int) := by omega
                  have q5 : decide (((x : Int) : Int) < (y : Int)) = true := decide_eq_true (by omega)
                  clear HTW
                  go_wp2_with fail
                  go_quiet (fail)
                  go_wp2
                  go_roundw
                  case rel => exact ⟨k + 1, by omega, by go_num, by first | exact hide' (HK.out.trans (Ext.drewN _ _)) | exact hide' (HK.out.trans ((Ext.drewN _ _).trans (Ext.drewN _ _)))⟩
                  case measure => simp [intOf] <;> omega
                · have q2 : ¬ bi < bk := fun g => by
                    rcases HTW.out.1 g with g | g
                    · omega
                    · exact hxy g.2
                  have q3 : decide ((bi : Int) < (bk : Int)) = false := by simp; omega
                  have q3' : decide (bi < bk) = false := by simp; omega
                  have q5 : decide (((x : Int) : Int) < (y : Int)) = false := decide_eq_false (by omega)
                  have q5' : decide ((x) < (y)) = false := by simp; omega
                  clear HTW q2
                  go_wp2_with fail
                  go_quiet (fail)
                  go_wp2
                  go_roundw
                  case rel => exact ⟨k + 1, by omega, by go_num, by first | exact hide' (HK.out.trans (Ext.drewN _ _)) | exact hide' (HK.out.trans ((Ext.drewN _ _).trans (Ext.drewN _ _)))⟩
                  case measure => simp [intOf] <;> omega
              · have q1 : decide ((ai : Int) < (ak : Int)) = false := by simp; omega
                have q1' : decide (ai < ak) = false := by simp; omega
                have q4 : ((ai : Int) == (ak : Int)) = false := by simp; omega
                have q2 : ¬ bi < bk := fun g => by
                  rcases HTW.out.1 g with g | g
                  · omega
                  · omega
                have q3 : decide ((bi : Int) < (bk : Int)) = false := by simp; omega
                have q3' : decide (bi < bk) = false := by simp; omega
                clear HTW q2
                go_wp2_with fail
                go_quiet (fail)
                go_wp2
                go_roundw
                case rel => exact ⟨k + 1, by omega, by go_num, by first | exact hide' (HK.out.trans (Ext.drewN _ _)) | exact hide' (HK.out.trans ((Ext.drewN _ _).trans (Ext.drewN _ _)))⟩
                case measure => simp [intOf] <;> omega
            · have hJ' : decide ((J : Int) < n) = false := by simp; omega
              have hJ'' : decide (J < n) = false := by simp; omega
              rw [HOK2.out hJ] at HTW
              clear HCA HCB HOI1 HOI2 HOK1 HOK2
              rcases Nat.lt_trichotomy ai ak with hq | hq | hq
              · have q1 : (ai : Int) < (ak : Int) := by omega
                have q2 : bi < bk := HTW.out.2 (.inl hq)
                have q3 : (bi : Int) < (bk : Int) := by omega
                clear HTW
                go_wp2_with fail
                go_quiet (fail)
                go_wp2
                go_roundw
                case rel => exact ⟨k + 1, by omega, by go_num, by first | exact hide' (HK.out.trans (Ext.drewN _ _)) | exact hide' (HK.out.trans ((Ext.drewN _ _).trans (Ext.drewN _ _)))⟩
                case measure => simp [intOf] <;> omega
              · have q1 : decide ((ai : Int) < (ak : Int)) = false := by simp; omega
                have q1' : decide (ai < ak) = false := by simp; omega
                have q4 : ((ai : Int) == (ak : Int)) = true := by simp; omega
                by_cases hxy : ((x : Int) : Int) < (-1 : Int)
                · exact absurd hxy (by omega)
                · have q2 : ¬ bi < bk := fun g => by
                    rcases HTW.out.1 g with g | g
                    · omega
                    · exact hxy g.2
                  have q3 : decide ((bi : Int) < (bk : Int)) = false := by simp; omega
                  have q3' : decide (bi < bk) = false := by simp; omega
                  have q5 : decide (((x : Int) : Int) < (-1 : Int)) = false := decide_eq_false (by omega)
                  clear HTW q2
                  go_wp2_with fail
                  go_quiet (fail)
                  go_wp2
                  go_roundw
                  case rel => exact ⟨k + 1, by omega, by go_num, by first | exact hide' (HK.out.trans (Ext.drewN _ _)) | exact hide' (HK.out.trans ((Ext.drewN _ _).trans (Ext.drewN _ _)))⟩
                  case measure => simp [intOf] <;> omega
              · have q1 : decide ((ai : Int) < (ak : Int)) = false := by simp; omega
                have q1' : decide (ai < ak) = false := by simp; omega
                have q4 : ((ai : Int) == (ak : Int)) = false := by simp; omega
                have q2 : ¬ bi < bk := fun g => by
                  rcases HTW.out.1 g with g | g
                  · omega
                  · omega
                have q3 : decide ((bi : Int) < (bk : Int)) = false := by simp; omega
                have q3' : decide (bi < bk) = false := by simp; omega
                clear HTW q2
                go_wp2_with fail
                go_quiet (fail)
                go_wp2
                go_roundw
                case rel => exact ⟨k + 1, by omega, by go_num, by first | exact hide' (HK.out.trans (Ext.drewN _ _)) | exact hide' (HK.out.trans ((Ext.drewN _ _).trans (Ext.drewN _ _)))⟩
                case measure => simp [intOf] <;> omega
          · have hI' : decide ((I : Int) < n) = false := by simp; omega
            have hI'' : decide (I < n) = false := by simp; omega
            rw [HOI2.out hI] at HTW
            by_cases hJ : J < n
            · have hJ' : (J : Int) < n := by omega
              have cJ := HCA.out J hJ
              have cJ0 := cJ 0
              rw [HOK1.out hJ] at HTW
              obtain ⟨y, HY⟩ : ∃ y, Hid (hrI s H J = y) := ⟨_, rfl⟩
              rw [HY.out] at cJ cJ0 HTW
              have cJ1 : wr.cell? ⟨g1, o1 + J, none⟩ = some (.int .i64 ((y : Nat) : Int)) := cJ0
              clear cJ0 HCA HCB HOI1 HOI2 HOK1 HOK2
              rcases Nat.lt_trichotomy ai ak with hq | hq | hq
              · have q1 : (ai : Int) < (ak : Int) := by omega
                have q2 : bi < bk := HTW.out.2 (.inl hq)
                have q3 : (bi : Int) < (bk : Int) := by omega
                clear HTW
                go_wp2_with fail
                go_quiet (fail)
                go_wp2
                go_roundw
                case rel => exact ⟨k + 1, by omega, by go_num, by first | exact hide' (HK.out.trans (Ext.drewN _ _)) | exact hide' (HK.out.trans ((Ext.drewN _ _).trans (Ext.drewN _ _)))⟩
                case measure => simp [intOf] <;> omega
              · have q1 : decide ((ai : Int) < (ak : Int)) = false := by simp; omega
                have q1' : decide (ai < ak) = false := by simp; omega
                have q4 : ((ai : Int) == (ak : Int)) = true := by simp; omega
                by_cases hxy : ((-1 : Int) : Int) < (y : Int)
                · have q2 : bi < bk := HTW.out.2 (.inr ⟨hq, hxy⟩)
                  have q3 : (bi : Int) < (bk : Int) := by omega
                  have q5 : decide (((-1 : Int) : Int) < (y : Int)) = true := decide_eq_true (by omega)
                  clear HTW
                  go_wp2_with fail
                  go_quiet (fail)
                  go_wp2
                  go_roundw
                  case rel => exact ⟨k + 1, by omega, by go_num, by first | exact hide' (HK.out.trans (Ext.drewN _ _)) | exact hide' (HK.out.trans ((Ext.drewN _ _).trans (Ext.drewN _ _)))⟩
                  case measure => simp [intOf] <;> omega
                · exact absurd (show ((-1 : Int) < (y : Int)) by omega) hxy
              · have q1 : decide ((ai : Int) < (ak : Int)) = false := by simp; omega
                have q1' : decide (ai < ak) = false := by simp; omega
                have q4 : ((ai : Int) == (ak : Int)) = false := by simp; omega
                have q2 : ¬ bi < bk := fun g => by
                  rcases HTW.out.1 g with g | g
                  · omega
                  · omega
                have q3 : decide ((bi : Int) < (bk : Int)) = false := by simp; omega
                have q3' : decide (bi < bk) = false := by simp; omega
                clear HTW q2
                go_wp2_with fail
                go_quiet (fail)
                go_wp2
                go_roundw
                case rel => exact ⟨k + 1, by omega, by go_num, by first | exact hide' (HK.out.trans (Ext.drewN _ _)) | exact hide' (HK.out.trans ((Ext.drewN _ _).trans (Ext.drewN _ _)))⟩
                case measure => simp [intOf] <;> omega
            · have hJ' : decide ((J : Int) < n) = false := by simp; omega
              have hJ'' : decide (J < n) = false := by simp; omega
              rw [HOK2.out hJ] at HTW
              clear HCA HCB HOI1 HOI2 HOK1 HOK2
              rcases Nat.lt_trichotomy ai ak with hq | hq | hq
              · have q1 : (ai : Int) < (ak : Int) := by omega
                have q2 : bi < bk := HTW.out.2 (.inl hq)
                have q3 : (bi : Int) < (bk : Int) := by omega
                clear HTW
                go_wp2_with fail
                go_quiet (fail)
                go_wp2
                go_roundw
                case rel => exact ⟨k + 1, by omega, by go_num, by first | exact hide' (HK.out.trans (Ext.drewN _ _)) | exact hide' (HK.out.trans ((Ext.drewN _ _).trans (Ext.drewN _ _)))⟩
                case measure => simp [intOf] <;> omega
              · have q1 : decide ((ai : Int) < (ak : Int)) = false := by simp; omega
                have q1' : decide (ai < ak) = false := by simp; omega
                have q4 : ((ai : Int) == (ak : Int)) = true := by simp; omega
                by_cases hxy : ((-1 : Int) : Int) < (-1 : Int)
                · exact absurd hxy (by omega)
                · have q2 : ¬ bi < bk := fun g => by
                    rcases HTW.out.1 g with g | g
                    · omega
                    · exact hxy g.2
                  have q3 : decide ((bi : Int) < (bk : Int)) = false := by simp; omega
                  have q3' : decide (bi < bk) = false := by simp; omega
                  have q5 : decide (((-1 : Int) : Int) < (-1 : Int)) = false := decide_eq_false (by omega)
                  clear HTW q2
                  go_wp2_with fail
                  go_quiet (fail)
                  go_wp2
                  go_roundw
                  case rel => exact ⟨k + 1, by omega, by go_num, by first | exact hide' (HK.out.trans (Ext.drewN _ _)) | exact hide' (HK.out.trans ((Ext.drewN _ _).trans (Ext.drewN _ _)))⟩
                  case measure => simp [intOf] <;> omega
              · have q1 : decide ((ai : Int) < (ak : Int)) = false := by simp; omega
                have q1' : decide (ai < ak) = false := by simp; omega
                have q4 : ((ai : Int) == (ak : Int)) = false := by simp; omega
                have q2 : ¬ bi < bk := fun g => by
                  rcases HTW.out.1 g with g | g
                  · omega
                  · omega
                have q3 : decide ((bi : Int) < (bk : Int)) = false := by simp; omega
                have q3' : decide (bi < bk) = false := by simp; omega
                clear HTW q2
                go_wp2_with fail
                go_quiet (fail)
                go_wp2
                go_roundw
                case rel => exact ⟨k + 1, by omega, by go_num, by first | exact hide' (HK.out.trans (Ext.drewN _ _)) | exact hide' (HK.out.trans ((Ext.drewN _ _).trans (Ext.drewN _ _)))⟩
                case measure => simp [intOf] <;> omega
        · have d1 : decide ((k : Int) < n) = false := by simp; omega
          go_wp2
          go_roundw
          case rel => exact ⟨i + 1, by omega, by go_num, hide' (HE0.out.trans HK.out), hide' (HE.out.trans HK.out)⟩
          case measure => simp [intOf] <;> omega
    · have d1 : decide ((i : Int) < n) = false := by simp; omega
      go_wp2_with fail
      refine (known_any _).mono ?_
      rintro e w4 ⟨rfl, he⟩
      have X4 := hide' (HE0.out.trans he)
      clear he
      go_wp2
      go_ret
      exact ⟨rfl, X4.out⟩
end Go.Proofs.Ytimhkmnohkbniaa
