/- Contracts of the document's own Ahead and PLCP: whorlref18. -/
import Derived.Test.YtikohabbffjpkaaPhiMath
import Derived.Test.YtikohabbffjpkaaRefInv
import Derived.Test.YtikohabbffjpkaaRefCom
namespace Go.Proofs.Ytikohabbffjpkaa
set_option linter.unusedVariables false
set_option linter.unusedSimpArgs false
open Go.RowKit

set_option maxHeartbeats 1000000 in
theorem rahead_any (v : Value) (a : List Int) (w : World) (hv : Sl .i64 w v a) (ha : a.length ≤ 1000000) :
    Calls Try.prog 26 #[v] w fun e w' => ∃ r, e = .returned (.tuple #[r, .bool (ordB a)]) ∧ Own .i64 3 w.heap.size w' r (ahI a) ∧ Ext w w' := by
  have HU := hide' hv
  obtain ⟨ua, uc, rfl, _⟩ := hv
  have C := hide' (ris_any _ a w HU.out ha)
  cases h2 : ordB a
  · rw [ahI_no h2]
    rw [h2] at C
    clear h2 HU
    go_enter Try.func26, Try.ntmps26
    go_wp2_with fail
    refine C.out.mono ?_
    rintro e w1 ⟨rfl, he1⟩
    have X1 := hide' he1
    clear he1
    go_wp2
    go_ret2
    exact ⟨_, rfl, Own.nil _ _ _ _, X1.out⟩
  · rw [h2] at C
    obtain ⟨hA, hP⟩ := ordB_cast h2
    obtain ⟨A, HA⟩ : ∃ A, Hid (toN a = A) := ⟨_, rfl⟩
    rw [HA.out] at hA hP
    obtain ⟨n, HN⟩ : ∃ n, Hid (a.length = n) := ⟨_, rfl⟩
    have hAL : A.length = n := by rw [← HN.out, ← hA, natL_len]
    have HP : Hid (A.Perm (List.range A.length)) := by show _; rw [hAL, ← HN.out]; exact hP
    rw [← hA, ahI_nat HP.out]
    have HB := hide' (inv_nat HP.out).2
    obtain ⟨B, HBB⟩ : ∃ B, Hid (toN (invI (natL A)) = B) := ⟨_, rfl⟩
    rw [HBB.out] at HB ⊢
    have HU2 : Hid (Sl .i64 w (.slice ua n uc) (natL A)) := by have := HU.out; rw [← hA, natL_len, hAL] at this; exact this
    have HAL := hide' hAL
    rw [HN.out] at C ha
    rw [natL_len, hAL]
    clear hA hP hAL h2 HU HA HBB HN
    go_enter Try.func26, Try.ntmps26
    go_wp2_with fail
    refine C.out.mono ?_
    rintro e w1 ⟨rfl, he1⟩
    have X1 := hide' he1
    have hz1 := he1.size
    clear he1 C
    obtain ⟨w2, hmk, ho, he⟩ := make_intsB w1 n (by omega)
    have HO := hide' (ho.low hz1)
    have HE := hide' (X1.out.trans he)
    clear ho he
    go_wp2
    clear hmk
    obtain ⟨g, HG⟩ : ∃ g, Hid (w1.heap.size = g) := ⟨_, rfl⟩
    rw [HG.out] at HO ⊢
    go_loopw [5] (fun vi wr => ∃ (i : Nat) (R : List Int), i ≤ n ∧ vi = .int .i64 i ∧ Hid (R.length = n) ∧ Hid (AhTo A R i) ∧
      Hid (Own .i64 3 w.heap.size wr (.slice (some ⟨g, 0, none⟩) n n) R) ∧ Hid (Ext w wr) ∧ Hid (w.heap.size ≤ g)) (fun vi _ => n - (intOf vi).toNat)
    case atStart =>
      refine ⟨0, List.replicate n 0, by omega, rfl, List.length_replicate, ?_, HO, HE, (show _ ≤ _ by rw [← HG.out]; exact hz1)⟩
      have := AhTo.start A
      rw [HAL.out] at this
      exact this
    case round =>
      clear HO HE hz1
      obtain ⟨i, R, hi, rfl, HL, HK, HO, HE, Hg⟩ := hrel
      by_cases hlt : i < n
      · have hlt' : (i : Int) < n := by omega
        obtain ⟨_, _, _, hco⟩ := HU2.out.nat
        obtain ⟨og, ooff, hoa, ocell⟩ := hco (by omega)
        subst hoa
        have HCELL : Hid (∀ W j, j < n → Ext w W → W.cell? ⟨og, ooff + j, none⟩ = some (.int .i64 (A.getD j 0 : Nat))) := fun W j hj he => he.cellOf (ocell j hj)
        clear hco ocell
        have hy := perm_lt HP.out (p := i) (by rw [HAL.out]; exact hlt)
        rw [HAL.out] at hy
        have HNX : Hid (∀ z, z = (if i = 0 then (-1 : Int) else (A.getD (i - 1) 0 : Int)) → AhTo A (R.set (A.getD i 0) z) (i + 1)) := fun z hz => HK.out.next HP.out (by rw [HAL.out]; exact hlt) hz
        have HC1 := HCELL.out wr i hlt HE.out
        obtain ⟨y, HY⟩ : ∃ y, Hid (A.getD i 0 = y) := ⟨_, rfl⟩
        rw [HY.out] at HC1 hy HNX
        have hy' : (y : Int) < n := by omega
        have hfz := HO.out.frozen HL.out y
        have hci := HO.out.cell HL.out y hy
        have HO2 := hide' (HO.out.store HL.out y (-1))
        have HE2 := hide' (Ext.but HE.out Hg.out (but_set wr g y (.int .i64 (-1))))
        by_cases hi0 : i = 0
        · have d0 : decide ((0 : Int) < (i : Int)) = false := by simp; omega
          have d0' : decide (0 < i) = false := by simp; omega
          have HK2 := hide' (HNX.out (-1) (by rw [if_pos hi0]))
          clear HNX hi0
          go_wp2
          go_roundw
          case rel => exact ⟨i + 1, R.set y (-1), by omega, by go_num, (show _ = _ by rw [List.length_set]; exact HL.out), HK2, HO2, HE2, Hg⟩
          case measure => simp [intOf]; omega
        · have d0 : decide ((0 : Int) < (i : Int)) = true := by simp; omega
          have d0' : decide (0 < i) = true := by simp; omega
          obtain ⟨J, HJ⟩ : ∃ J, Hid (i = J + 1) := ⟨i - 1, by show _ = _; omega⟩
          have hJn : J < n := by have := HJ.out; omega
          have hJn' : (J : Int) < n := by omega
          have hJ : (i : Int) - 1 = (J : Int) := by have := HJ.out; omega
          have wJ : IntKind.i64.wrap (J : Int) = (J : Int) := by rw [IntKind.wrap_i64]; omega
          have HJ2 : Hid (i - 1 = J) := by show _ = _; have := HJ.out; omega
          obtain ⟨x, HX⟩ : ∃ x, Hid (A.getD J 0 = x) := ⟨_, rfl⟩
          have HK2 := hide' (HNX.out (x : Int) (by rw [if_neg hi0, HJ2.out, HX.out]))
          clear HNX hi0
          go_wp2_with fail
          have HC2 := HCELL.out _ i hlt HE2.out
          have HC3 := HCELL.out _ J hJn HE2.out
          rw [HY.out] at HC2
          rw [HX.out] at HC3
          have L2 : Hid ((R.set y (-1)).length = n) := by show _ = _; rw [List.length_set]; exact HL.out
          have hfz2 := HO2.out.frozen L2.out y
          have hci2 := HO2.out.cell L2.out y hy
          have ho3 := (HO2.out.store L2.out y (x : Int)).ext (Ext.drewN _ 1)
          rw [List.set_set] at ho3
          have HO3 := hide' ho3
          have HE3 : Hid (Ext w (((wr.setCell ⟨g, y, none⟩ (.int .i64 (-1))).setCell ⟨g, y, none⟩ (.int .i64 (x : Int))).drewN 1)) := (Ext.but HE2.out Hg.out (but_set _ _ _ _)).trans (Ext.drewN _ 1)
          clear HO HE HC1 hfz hci HO2 HE2 HCELL ho3
          go_big_region
          clear HC2 HC3 hfz2 hci2
          go_wp2
          go_roundw
          case rel => exact ⟨i + 1, R.set y (x : Int), by omega, by go_num, (show _ = _ by rw [List.length_set]; exact HL.out), HK2, HO3, HE3, Hg⟩
          case measure => simp [intOf]; omega
      · have hlt' : decide ((i : Int) < n) = false := by simp; omega
        have hin : n = i := by omega
        have HR := hide' ((show AhTo A R A.length by rw [HAL.out, hin]; exact HK.out).done HB.out)
        go_wp2
        go_ret2
        refine ⟨_, rfl, ?_, HE.out⟩
        rw [← HR.out]
        exact HO.out

set_option maxHeartbeats 1000000 in
theorem rplcp_any (v u : Value) (s a : List Int) (w : World) (hv : Sl .u8 w v s) (hu : Sl .i64 w u a) (hs : s.length ≤ 1000000) (ha : a.length ≤ 1000000) :
    Calls Try.prog 28 #[v, u] w fun e w' => ∃ r, e = .returned (.tuple #[r, .bool (lcpOk s a)]) ∧ Own .i64 3 w.heap.size w' r (plI s a) ∧ Ext w w' := by
  have HV := hide' hv
  have HU := hide' hu
  obtain ⟨va, vc, rfl, _⟩ := hv
  obtain ⟨ua, uc, rfl, _⟩ := hu
  have C := hide' (rahead_any _ a w HU.out ha)
  cases h2 : ordB a
  · rw [plI_no (lcpOk_no h2), lcpOk_no h2]
    rw [h2] at C
    clear h2 HU
    go_enter Try.func28, Try.ntmps28
    go_wp2_with fail
    refine C.out.mono ?_
    rintro e w1 ⟨r1, rfl, _, he1⟩
    have X1 := hide' he1
    clear he1
    go_wp2
    go_ret2
    exact ⟨_, rfl, Own.nil _ _ _ _, X1.out⟩
  · by_cases h1 : a.length = s.length
    · rw [h2] at C
      obtain ⟨hA, hP⟩ := ordB_cast h2
      obtain ⟨A, HA⟩ : ∃ A, Hid (toN a = A) := ⟨_, rfl⟩
      rw [HA.out] at hA hP
      obtain ⟨n, HN⟩ : ∃ n, Hid (s.length = n) := ⟨_, rfl⟩
      have hAL : A.length = n := by rw [← HN.out, ← h1, ← hA, natL_len]
      have HP : Hid (A.Perm (List.range A.length)) := by show _; rw [hAL, ← HN.out, ← h1]; exact hP
      rw [lcpOk_yes h1 h2]
      rw [← hA] at C ⊢
      rw [plI_nat HP.out (by rw [hAL, HN.out])]
      rw [ahI_nat HP.out] at C
      have HB := hide' (inv_nat HP.out).2
      obtain ⟨B, HBB⟩ : ∃ B, Hid (toN (invI (natL A)) = B) := ⟨_, rfl⟩
      rw [HBB.out] at HB C ⊢
      have HAL := hide' hAL
      rw [HN.out] at HV hs
      rw [natL_len, hAL] at C ⊢
      rw [HN.out]
      have HQL : Hid ((ahL A B).length = n) := by show _ = _; rw [ahL_len, hAL]
      have HQA : Hid (∀ x, x < n → (ahL A B).getD x 0 = if B.getD x 0 = 0 then (-1 : Int) else (A.getD (B.getD x 0 - 1) 0 : Int)) := fun x hx => ahL_at (by rw [hAL]; exact hx)
      obtain ⟨Q, HQ⟩ : ∃ Q, Hid (ahL A B = Q) := ⟨_, rfl⟩
      rw [HQ.out] at C HQL HQA
      clear hA hP hAL h2 HU HA HBB h1 HQ
      go_enter Try.func28, Try.ntmps28
      go_wp2_with fail
      refine C.out.mono ?_
      rintro e w1 ⟨r1, rfl, ho1, he1⟩
      have S1 := hide' ho1.sl
      have X1 := hide' he1
      have hz1 := he1.size
      obtain ⟨s1a, s1c, hs1, _⟩ := ho1.sl
      rw [HQL.out] at hs1
      subst hs1
      clear he1 C ho1
      obtain ⟨w2, hmk, ho, he⟩ := make_nats w1 n hs
      have HO := hide' (ho.low hz1)
      have HE := hide' he
      have d6 : ((n : Int) != (n : Int)) = false := by simp
      clear ho he
      go_wp2
      clear hmk
      obtain ⟨g, HG⟩ : ∃ g, Hid (w1.heap.size = g) := ⟨_, rfl⟩
      rw [HG.out] at HO ⊢
      go_loopw [9] (fun vi wr => ∃ (i : Nat) (R : List Nat), i ≤ n ∧ vi = .int .i64 i ∧ Hid (R.length = n) ∧ Hid (PlTo s A B R i) ∧
        Hid (Own .i64 3 w.heap.size wr (.slice (some ⟨g, 0, none⟩) n n) (natL R)) ∧ Hid (Ext w1 wr) ∧ Hid (w1.heap.size ≤ g)) (fun vi _ => n - (intOf vi).toNat)
      case atStart =>
        refine ⟨0, List.replicate n 0, by omega, rfl, List.length_replicate, ?_, HO, HE, (show _ ≤ _ by rw [← HG.out]; exact Nat.le_refl _)⟩
        have := PlTo.start s A B
        rw [HAL.out] at this
        exact this
      case round =>
        clear HO HE
        obtain ⟨i, R, hi, rfl, HL, HK, HO, HE, Hg⟩ := hrel
        have HEW := hide' (X1.out.trans HE.out)
        by_cases hlt : i < n
        · have hlt' : (i : Int) < n := by omega
          obtain ⟨_, _, _, hco⟩ := S1.out.int
          obtain ⟨og, ooff, hoa, ocell⟩ := hco (by omega)
          subst hoa
          have c1 := HE.out.cellOf (ocell i hlt)
          clear hco ocell
          have hb := HB.out.lt i (by rw [HAL.out]; exact hlt)
          rw [HAL.out] at hb
          have HQI := hide' (HQA.out i hlt)
          have HPL := hide' (plN_at (s := s) (A := A) (B := B) (x := i) (by rw [HAL.out]; exact hlt))
          have HNX : Hid (∀ c, c = (plN s A B).getD i 0 → PlTo s A B (R.set i c) (i + 1)) := fun c hc => HK.out.next (by rw [HAL.out]; exact hlt) hc
          have HSK : Hid ((plN s A B).getD i 0 = 0 → PlTo s A B R (i + 1)) := fun hc => HK.out.skip (by rw [HAL.out]; exact hlt) hc
          by_cases hb0 : B.getD i 0 = 0
          · rw [HQI.out, if_pos hb0] at c1
            have HK2 := hide' (HSK.out (by rw [HPL.out, if_pos hb0]))
            clear HNX HSK HPL HQI hb0 hb
            go_wp2
            go_roundw
            case rel => exact ⟨i + 1, R, by omega, by go_num, HL, HK2, HO, HE, Hg⟩
            case measure => simp [intOf]; omega
          · rw [HQI.out, if_neg hb0] at c1
            have hx := perm_lt HP.out (p := B.getD i 0 - 1) (by rw [HAL.out]; omega)
            rw [HAL.out] at hx
            have HPL2 : Hid ((plN s A B).getD i 0 = comN s (A.getD (B.getD i 0 - 1) 0) i) := by show _ = _; rw [HPL.out, if_neg hb0]
            obtain ⟨x, HX⟩ : ∃ x, Hid (A.getD (B.getD i 0 - 1) 0 = x) := ⟨_, rfl⟩
            rw [HX.out] at c1 hx HPL2
            obtain ⟨c, HC⟩ : ∃ c, Hid (comN s x i = c) := ⟨_, rfl⟩
            have HK2 := hide' (HNX.out c (by rw [HPL2.out, HC.out]))
            have CC : Hid (∀ w', Ext wr w' → Calls Try.prog 18 #[.slice va n vc, .int .i64 x, .int .i64 i] w' fun e w'' => e = .returned (.int .i64 (c : Int)) ∧ Ext w' w'') := fun w' he => by
              have := rcommon_any _ s x i w' (HV.out.ext (HEW.out.trans he)) (by rw [HN.out]; exact hs)
              rw [comL_nat (by rw [HN.out]; omega) (by rw [HN.out]; omega), HC.out] at this
              exact this
            have e0 : decide ((0 : Int) ≤ (x : Int)) = true := by simp
            clear HNX HSK HPL HPL2 HQI hb0 hb
            go_wp2_with fail
            refine (CC.out wr (Ext.refl _)).mono ?_
            rintro e w3 ⟨rfl, he3⟩
            have HO3 := hide' (HO.out.ext he3)
            have HE3 := hide' (HE.out.trans he3)
            have hfz := HO3.out.frozen (by rw [natL_len]; exact HL.out) i
            have hci := HO3.out.intCell HL.out i hlt
            have HO4 := hide' (HO3.out.storeN HL.out i c)
            clear c1 he3 HO HE HEW CC
            go_wp2
            go_roundw
            case rel => exact ⟨i + 1, R.set i c, by omega, by go_num, (show _ = _ by rw [List.length_set]; exact HL.out), HK2, HO4, Ext.but HE3.out Hg.out (but_set _ _ _ _), Hg⟩
            case measure => simp [intOf]; omega
        · have hlt' : decide ((i : Int) < n) = false := by simp; omega
          have hin : n = i := by omega
          have HR := hide' ((show PlTo s A B R A.length by rw [HAL.out, hin]; exact HK.out).done)
          go_wp2
          go_ret2
          refine ⟨_, rfl, ?_, HEW.out⟩
          rw [← HR.out]
          exact HO.out
    · have d1 : ((a.length : Int) != (s.length : Int)) = true := by simp; omega
      rw [plI_no (lcpOk_long h1), lcpOk_long h1]
      rw [h2] at C
      clear h1 h2 HU
      go_enter Try.func28, Try.ntmps28
      go_wp2_with fail
      refine C.out.mono ?_
      rintro e w1 ⟨r1, rfl, _, he1⟩
      have X1 := hide' he1
      clear he1
      go_wp2
      go_ret2
      exact ⟨_, rfl, Own.nil _ _ _ _, X1.out⟩
end Go.Proofs.Ytikohabbffjpkaa
