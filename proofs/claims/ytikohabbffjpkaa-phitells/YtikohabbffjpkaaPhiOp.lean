/- Contracts of phi.Ahead, phi.PLCP and phi.LCP, of texts of at most 500 bytes. -/
import Derived.Test.YtikohabbffjpkaaPhiMath
import Derived.Test.YtikohabbffjpkaaRkIs
import Derived.Test.YtikohabbffjpkaaLexCom
namespace Go.Proofs.Ytikohabbffjpkaa
set_option linter.unusedVariables false
set_option linter.unusedSimpArgs false
open Go.RowKit

set_option maxHeartbeats 1000000 in
theorem phAhead_any (v : Value) (a : List Int) (w : World) (hv : Sl .i64 w v a) (ha : a.length ≤ 1000000) :
    Calls Try.prog 25 #[v] w fun e w' => ∃ r, e = .returned (.tuple #[r, .bool (ordB a)]) ∧ Own .i64 3 w.heap.size w' r (ahI a) ∧ Ext w w' := by
  have HU := hide' hv
  obtain ⟨ua, uc, rfl, _⟩ := hv
  have C := hide' (rkIs_any _ a w HU.out ha)
  cases h2 : ordB a
  · rw [ahI_no h2]
    rw [h2] at C
    clear h2 HU
    go_enter Try.func25, Try.ntmps25
    go_wp2_with fail
    refine C.out.mono ?_
    rintro e w1 ⟨rfl, he1⟩
    have X1 := hide' he1
    clear he1
    go_wp2
    go_ret2
    exact ⟨_, rfl, Own.nil _ _ _ _, X1.out⟩
  · rw [h2] at C
    obtain ⟨hA, hP⟩ := ordB_cast h2
    obtain ⟨A, HA⟩ : ∃ A, Hid (toN a = A) := ⟨_, rfl⟩
    rw [HA.out] at hA hP
    obtain ⟨n, HN⟩ : ∃ n, Hid (a.length = n) := ⟨_, rfl⟩
    have hAL : A.length = n := by rw [← HN.out, ← hA, natL_len]
    have HP : Hid (A.Perm (List.range A.length)) := by show _; rw [hAL, ← HN.out]; exact hP
    rw [← hA, ahI_nat HP.out]
    have HB := hide' (inv_nat HP.out).2
    obtain ⟨B, HBB⟩ : ∃ B, Hid (toN (invI (natL A)) = B) := ⟨_, rfl⟩
    rw [HBB.out] at HB ⊢
    have HU2 : Hid (Sl .i64 w (.slice ua n uc) (natL A)) := by have := HU.out; rw [← hA, natL_len, hAL] at this; exact this
    have HAL := hide' hAL
    rw [← hA, natL_len, hAL] at C
    rw [HN.out] at ha
    rw [natL_len, hAL]
    clear hA hP hAL h2 HU HA HBB HN
    go_enter Try.func25, Try.ntmps25
    go_wp2_with fail
    refine C.out.mono ?_
    rintro e w1 ⟨rfl, he1⟩
    have X1 := hide' he1
    have hz1 := he1.size
    clear he1 C
    obtain ⟨w2, hmk, ho, he⟩ := make_intsB w1 n (by omega)
    have HO := hide' (ho.low hz1)
    have HE := hide' (X1.out.trans he)
    clear ho he
    go_wp2
    clear hmk
    obtain ⟨g, HG⟩ : ∃ g, Hid (w1.heap.size = g) := ⟨_, rfl⟩
    rw [HG.out] at HO ⊢
    go_loopw [5, 7, 16] (fun vl _ vi wr => ∃ (i : Nat) (R : List Int) (z : Int), i ≤ n ∧ vi = .int .i64 i ∧ vl = .int .i64 z ∧ Hid (z = if i = 0 then (-1 : Int) else (A.getD (i - 1) 0 : Int)) ∧ Hid (R.length = n) ∧ Hid (AhTo A R i) ∧
      Hid (Own .i64 3 w.heap.size wr (.slice (some ⟨g, 0, none⟩) n n) R) ∧ Hid (Ext w wr) ∧ Hid (w.heap.size ≤ g)) (fun _ _ vi _ => n - (intOf vi).toNat)
    case atStart =>
      refine ⟨0, List.replicate n 0, -1, by omega, rfl, rfl, (show _ = _ by rw [if_pos rfl]), List.length_replicate, ?_, HO, HE, (show _ ≤ _ by rw [← HG.out]; exact hz1)⟩
      have := AhTo.start A
      rw [HAL.out] at this
      exact this
    case round =>
      clear HO HE hz1
      obtain ⟨i, R, z, hi, rfl, rfl, HZ, HL, HK, HO, HE, Hg⟩ := hrel
      by_cases hlt : i < n
      · have hlt' : (i : Int) < n := by omega
        obtain ⟨_, _, _, hco⟩ := HU2.out.nat
        obtain ⟨og, ooff, hoa, ocell⟩ := hco (by omega)
        subst hoa
        have c1 := HE.out.cellOf (ocell i hlt)
        clear hco ocell
        have hy := perm_lt HP.out (p := i) (by rw [HAL.out]; exact hlt)
        rw [HAL.out] at hy
        have HK2 := hide' (HK.out.next HP.out (by rw [HAL.out]; exact hlt) HZ.out)
        have HZ2 : Hid ((A.getD i 0 : Int) = if i + 1 = 0 then (-1 : Int) else (A.getD (i + 1 - 1) 0 : Int)) := by show _ = _; rw [if_neg (by omega), Nat.add_sub_cancel]
        obtain ⟨y, HY⟩ : ∃ y, Hid (A.getD i 0 = y) := ⟨_, rfl⟩
        rw [HY.out] at c1 hy HK2 HZ2
        have hy' : (y : Int) < n := by omega
        have hfz := HO.out.frozen HL.out y
        have hci := HO.out.cell HL.out y hy
        have HO2 := hide' (HO.out.store HL.out y z)
        have HE2 := hide' (Ext.but HE.out Hg.out (but_set wr g y (.int .i64 z)))
        go_wp2
        go_roundw
        case rel => exact ⟨i + 1, R.set y z, y, by omega, by go_num, rfl, HZ2, (show _ = _ by rw [List.length_set]; exact HL.out), HK2, HO2, HE2, Hg⟩
        case measure => simp [intOf]; omega
      · have hlt' : decide ((i : Int) < n) = false := by simp; omega
        have hin : n = i := by omega
        have HR := hide' ((show AhTo A R A.length by rw [HAL.out, hin]; exact HK.out).done HB.out)
        go_wp2
        go_ret2
        refine ⟨_, rfl, ?_, HE.out⟩
        rw [← HR.out]
        exact HO.out

theorem plN_le (s : List Int) (A B : List Nat) (x : Nat) : (plN s A B).getD x 0 ≤ s.length := by
  by_cases hx : x < A.length
  · rw [plN_at hx]
    split
    · exact Nat.zero_le _
    · exact comN_le _ _ _
  · rw [List.getD_eq_getElem?_getD, List.getElem?_eq_none (by rw [plN_len]; omega)]
    exact Nat.zero_le _
/-- One byte on, where what stands ahead has moved on by one too. -/
theorem pl_next {s : List Int} {A B : List Nat} {i : Nat} (h0 : 0 < i) (hi : i < A.length) (hb : B.getD i 0 ≠ 0) (hc : 0 < (plN s A B).getD (i - 1) 0) (hx : (A.getD (B.getD i 0 - 1) 0 : Int) = (ahL A B).getD (i - 1) 0 + 1) : (plN s A B).getD i 0 + 1 = (plN s A B).getD (i - 1) 0 := by
  have e1 := plN_at (s := s) (A := A) (B := B) (x := i - 1) (by omega)
  have e2 := plN_at (s := s) (A := A) (B := B) (x := i) hi
  rw [e1] at hc ⊢
  rw [e2, if_neg hb]
  rw [ahL_at (by omega)] at hx
  by_cases e0 : B.getD (i - 1) 0 = 0
  · rw [if_pos e0] at hc; omega
  · rw [if_neg e0] at hc hx ⊢
    have := comN_next hc
    rw [Nat.sub_add_cancel h0] at this
    rw [show A.getD (B.getD i 0 - 1) 0 = A.getD (B.getD (i - 1) 0 - 1) 0 + 1 by omega]
    omega
theorem phCommon_any (v : Value) (zs : List Int) (i j : Nat) (w : World) (hs : Sl .u8 w v zs) (hlen : zs.length ≤ 500) (hi : i ≤ zs.length) (hj : j ≤ zs.length) :
    Calls Try.prog 17 #[v, .int .i64 i, .int .i64 j] w fun e w' => e = .returned (.int .i64 (comN zs i j : Int)) ∧ Ext w w' := by
  have := toExt (common_any v zs i j w hs hlen)
  rw [comL_nat hi hj] at this
  exact this

set_option maxHeartbeats 2000000 in
theorem phPlcp_any (v u : Value) (s a : List Int) (w : World) (hv : Sl .u8 w v s) (hu : Sl .i64 w u a) (hs : s.length ≤ 500) (ha : a.length ≤ 1000000) :
    Calls Try.prog 27 #[v, u] w fun e w' => ∃ r, e = .returned (.tuple #[r, .bool (lcpOk s a)]) ∧ Own .i64 3 w.heap.size w' r (plI s a) ∧ Ext w w' := by
  have HV := hide' hv
  have HU := hide' hu
  obtain ⟨va, vc, rfl, _⟩ := hv
  obtain ⟨ua, uc, rfl, _⟩ := hu
  have C := hide' (phAhead_any _ a w HU.out ha)
  by_cases h1 : a.length = s.length
  · cases h2 : ordB a
    · rw [plI_no (lcpOk_no h2), lcpOk_no h2]
      rw [h2] at C
      clear h2 HU
      obtain ⟨n, HN⟩ : ∃ n, Hid (s.length = n) := ⟨_, rfl⟩
      rw [h1] at C ⊢
      rw [HN.out] at C HV ⊢
      clear h1
      go_enter Try.func27, Try.ntmps27
      go_wp2_with fail
      refine C.out.mono ?_
      rintro e w1 ⟨r1, rfl, _, he1⟩
      have X1 := hide' he1
      clear he1
      go_wp2
      go_ret2
      exact ⟨_, rfl, Own.nil _ _ _ _, X1.out⟩
    · rw [h2] at C
      obtain ⟨hA, hP⟩ := ordB_cast h2
      obtain ⟨A, HA⟩ : ∃ A, Hid (toN a = A) := ⟨_, rfl⟩
      rw [HA.out] at hA hP
      obtain ⟨n, HN⟩ : ∃ n, Hid (s.length = n) := ⟨_, rfl⟩
      have hAL : A.length = n := by rw [← HN.out, ← h1, ← hA, natL_len]
      have HP : Hid (A.Perm (List.range A.length)) := by show _; rw [hAL, ← HN.out, ← h1]; exact hP
      rw [lcpOk_yes h1 h2]
      rw [← hA] at C ⊢
      rw [plI_nat HP.out (by rw [hAL, HN.out])]
      rw [ahI_nat HP.out] at C
      have HB := hide' (inv_nat HP.out).2
      obtain ⟨B, HBB⟩ : ∃ B, Hid (toN (invI (natL A)) = B) := ⟨_, rfl⟩
      rw [HBB.out] at HB C ⊢
      have HAL := hide' hAL
      rw [HN.out] at HV hs
      rw [natL_len, hAL] at C ⊢
      rw [HN.out]
      have HQL : Hid ((ahL A B).length = n) := by show _ = _; rw [ahL_len, hAL]
      have HQA : Hid (∀ x, x < n → (ahL A B).getD x 0 = if B.getD x 0 = 0 then (-1 : Int) else (A.getD (B.getD x 0 - 1) 0 : Int)) := fun x hx => ahL_at (by rw [hAL]; exact hx)
      have HPN : Hid (∀ i, 0 < i → i < n → B.getD i 0 ≠ 0 → 0 < (plN s A B).getD (i - 1) 0 → (A.getD (B.getD i 0 - 1) 0 : Int) = (ahL A B).getD (i - 1) 0 + 1 → (plN s A B).getD i 0 + 1 = (plN s A B).getD (i - 1) 0) := fun i h0 hi hb hc hx => pl_next h0 (by rw [hAL]; exact hi) hb hc hx
      obtain ⟨Q, HQ⟩ : ∃ Q, Hid (ahL A B = Q) := ⟨_, rfl⟩
      rw [HQ.out] at C HQL HQA HPN
      clear hA hP hAL h2 HU HA HBB h1 HQ
      go_enter Try.func27, Try.ntmps27
      go_wp2_with fail
      refine C.out.mono ?_
      rintro e w1 ⟨r1, rfl, ho1, he1⟩
      have S1 := hide' ho1.sl
      have X1 := hide' he1
      have hz1 := he1.size
      obtain ⟨s1a, s1c, hs1, _⟩ := ho1.sl
      rw [HQL.out] at hs1
      subst hs1
      clear he1 C ho1
      obtain ⟨w2, hmk, ho, he⟩ := make_nats w1 n (by omega)
      have HO := hide' (ho.low hz1)
      have HE := hide' he
      clear ho he
      go_wp2
      clear hmk
      obtain ⟨g, HG⟩ : ∃ g, Hid (w1.heap.size = g) := ⟨_, rfl⟩
      rw [HG.out] at HO ⊢
      go_loopw [9, 10, 28, 40, 43] (fun _ _ vi _ _ wr => ∃ (i : Nat) (R : List Nat), i ≤ n ∧ vi = .int .i64 i ∧ Hid (R.length = n) ∧ Hid (PlTo s A B R i) ∧
        Hid (Own .i64 3 w.heap.size wr (.slice (some ⟨g, 0, none⟩) n n) (natL R)) ∧ Hid (Ext w1 wr) ∧ Hid (w1.heap.size ≤ g)) (fun _ _ vi _ _ _ => n - (intOf vi).toNat)
      case atStart =>
        refine ⟨0, List.replicate n 0, by omega, rfl, List.length_replicate, ?_, HO, HE, (show _ ≤ _ by rw [← HG.out]; exact Nat.le_refl _)⟩
        have := PlTo.start s A B
        rw [HAL.out] at this
        exact this
      case round =>
        clear HO HE
        obtain ⟨i, R, hi, rfl, HL, HK, HO, HE, Hg⟩ := hrel
        have HEW := hide' (X1.out.trans HE.out)
        by_cases hlt : i < n
        · have hlt' : (i : Int) < n := by omega
          obtain ⟨_, _, _, hco⟩ := S1.out.int
          obtain ⟨og, ooff, hoa, ocell⟩ := hco (by omega)
          subst hoa
          have c1 := HE.out.cellOf (ocell i hlt)
          have HAC : Hid (∀ j, j < n → wr.cell? ⟨og, ooff + j, none⟩ = some (.int .i64 (Q.getD j 0))) := fun j hj => HE.out.cellOf (ocell j hj)
          clear hco ocell
          have hb := HB.out.lt i (by rw [HAL.out]; exact hlt)
          rw [HAL.out] at hb
          have HQI := hide' (HQA.out i hlt)
          have HPL := hide' (plN_at (s := s) (A := A) (B := B) (x := i) (by rw [HAL.out]; exact hlt))
          have HNX : Hid (∀ c, c = (plN s A B).getD i 0 → PlTo s A B (R.set i c) (i + 1)) := fun c hc => HK.out.next (by rw [HAL.out]; exact hlt) hc
          by_cases hb0 : B.getD i 0 = 0
          · rw [HQI.out, if_pos hb0] at c1
            have HK2 := hide' (HK.out.skip (by rw [HAL.out]; exact hlt) (by rw [HPL.out, if_pos hb0]))
            clear HNX HPL HQI hb0 hb HAC
            go_wp2
            go_roundw
            case rel => exact ⟨i + 1, R, by omega, by go_num, HL, HK2, HO, HE, Hg⟩
            case measure => simp [intOf]; omega
          · rw [HQI.out, if_neg hb0] at c1
            have hx := perm_lt HP.out (p := B.getD i 0 - 1) (by rw [HAL.out]; omega)
            rw [HAL.out] at hx
            have HPL2 : Hid ((plN s A B).getD i 0 = comN s (A.getD (B.getD i 0 - 1) 0) i) := by show _ = _; rw [HPL.out, if_neg hb0]
            have HST : Hid (∀ J, i = J + 1 → 0 < R.getD J 0 → (A.getD (B.getD i 0 - 1) 0 : Int) = Q.getD J 0 + 1 → R.getD J 0 - 1 = (plN s A B).getD i 0) := fun J hJ h1 h2 => by
              have e1 := HK.out.at' J (by omega) (by rw [HAL.out]; omega)
              have := HPN.out i (by omega) hlt hb0 (by rw [hJ, Nat.add_sub_cancel, ← e1]; exact h1) (by rw [h2, hJ, Nat.add_sub_cancel])
              rw [hJ, Nat.add_sub_cancel] at this
              rw [hJ]
              omega
            obtain ⟨x, HX⟩ : ∃ x, Hid (A.getD (B.getD i 0 - 1) 0 = x) := ⟨_, rfl⟩
            rw [HX.out] at c1 hx HPL2 HST
            have e0 : ((x : Int) == -1) = false := by simp <;> omega
            clear HPL HQI hb0 hb HX
            by_cases hi0 : i = 0
            · have d0 : decide ((0 : Int) < (i : Int)) = false := by simp; omega
              have d0' : decide (0 < i) = false := by simp; omega
              clear hi0 HST HAC
              have HCM := hide' (phCommon_any (.slice va n vc) s i x wr (HV.out.ext HEW.out) (by rw [HN.out]; exact hs) (by rw [HN.out]; omega) (by rw [HN.out]; omega))
              have HK2 := hide' (HNX.out (comN s i x) (by rw [HPL2.out, comN_swap]))
              obtain ⟨C, HC⟩ : ∃ C, Hid (comN s i x = C) := ⟨_, rfl⟩
              rw [HC.out] at HCM HK2
              clear HNX
              go_wp2_with fail
              refine HCM.out.mono ?_
              rintro e w3 ⟨rfl, he3⟩
              have HO3 := hide' (HO.out.ext he3)
              have HE3 := hide' (HE.out.trans he3)
              have hfz3 := HO3.out.frozen (by rw [natL_len]; exact HL.out) i
              have hci3 := HO3.out.intCell HL.out i hlt
              have HO4 := hide' (HO3.out.storeN HL.out i C)
              have HBT := but_set w3 g i (.int .i64 (C : Int))
              clear he3 HO HE HEW HCM
              go_wp2
              go_roundw
              case rel => exact ⟨i + 1, R.set i C, by omega, by go_num, (show _ = _ by rw [List.length_set]; exact HL.out), HK2, HO4, Ext.but HE3.out Hg.out HBT, Hg⟩
              case measure => simp [intOf]; omega
            · have d0 : decide ((0 : Int) < (i : Int)) = true := by simp; omega
              have d0' : decide (0 < i) = true := by simp; omega
              obtain ⟨J, HJ⟩ : ∃ J, Hid (i = J + 1) := ⟨i - 1, by show _ = _; omega⟩
              have hJn : J < n := by have := HJ.out; omega
              have hJn' : (J : Int) < n := by omega
              have hJ : (i : Int) - 1 = (J : Int) := by have := HJ.out; omega
              have wJ : IntKind.i64.wrap (J : Int) = (J : Int) := by rw [IntKind.wrap_i64]; omega
              have hcJ := HO.out.intCell HL.out J hJn
              have hST2 := HST.out J HJ.out
              have hcle : R.getD J 0 ≤ 500 := by
                have e1 := HK.out.at' J (by have := HJ.out; omega) (by rw [HAL.out]; omega)
                rw [e1]
                exact Nat.le_trans (plN_le s A B J) (by rw [HN.out]; exact hs)
              obtain ⟨c, HCV⟩ : ∃ c, Hid (R.getD J 0 = c) := ⟨_, rfl⟩
              rw [HCV.out] at hcJ hST2 hcle
              clear hi0 HST
              by_cases l1 : 0 < c
              · have l1' : decide ((0 : Int) < (c : Int)) = true := by simp; omega
                have l1'' : decide (0 < c) = true := by simp; omega
                have hqJ := HAC.out J hJn
                obtain ⟨q, HQJ⟩ : ∃ q, Hid (Q.getD J 0 = q) := ⟨_, rfl⟩
                have hqb : -1 ≤ q ∧ q ≤ 500 := by
                  rw [← HQJ.out, HQA.out J hJn]
                  split
                  · omega
                  · rename_i hbJ
                    have h1 := HB.out.lt J (by rw [HAL.out]; exact hJn)
                    have h2 := perm_lt HP.out (p := B.getD J 0 - 1) (by omega)
                    rw [HAL.out] at h2
                    omega
                rw [HQJ.out] at hqJ hST2
                clear HAC
                have wq : IntKind.i64.wrap (q + 1) = q + 1 := by rw [IntKind.wrap_i64]; omega
                by_cases l2 : (x : Int) = q + 1
                · have l2' : ((x : Int) == q + 1) = true := by simp; omega
                  obtain ⟨C, HC⟩ : ∃ C, Hid (c = C + 1) := ⟨c - 1, by show _ = _; omega⟩
                  have hC : (c : Int) - 1 = (C : Int) := by have := HC.out; omega
                  have wC : IntKind.i64.wrap (C : Int) = (C : Int) := by rw [IntKind.wrap_i64]; have := HC.out; omega
                  have HK2 := hide' (HNX.out C (by rw [← hST2 l1 l2]; have := HC.out; omega))
                  have hfz3 := HO.out.frozen (by rw [natL_len]; exact HL.out) i
                  have hci3 := HO.out.intCell HL.out i hlt
                  have HO4 := hide' (HO.out.storeN HL.out i C)
                  have HBT := but_set wr g i (.int .i64 (C : Int))
                  clear HNX hST2 l2
                  go_wp2
                  go_roundw
                  case rel => exact ⟨i + 1, R.set i C, by omega, by go_num, (show _ = _ by rw [List.length_set]; exact HL.out), HK2, HO4, Ext.but HE.out Hg.out HBT, Hg⟩
                  case measure => simp [intOf]; omega
                · have l2' : ((x : Int) == q + 1) = false := by simp; omega
                  clear hST2 l2
                  have HCM := hide' (phCommon_any (.slice va n vc) s i x wr (HV.out.ext HEW.out) (by rw [HN.out]; exact hs) (by rw [HN.out]; omega) (by rw [HN.out]; omega))
                  have HK2 := hide' (HNX.out (comN s i x) (by rw [HPL2.out, comN_swap]))
                  obtain ⟨C, HC⟩ : ∃ C, Hid (comN s i x = C) := ⟨_, rfl⟩
                  rw [HC.out] at HCM HK2
                  clear HNX
                  go_wp2_with fail
                  refine HCM.out.mono ?_
                  rintro e w3 ⟨rfl, he3⟩
                  have HO3 := hide' (HO.out.ext he3)
                  have HE3 := hide' (HE.out.trans he3)
                  have hfz3 := HO3.out.frozen (by rw [natL_len]; exact HL.out) i
                  have hci3 := HO3.out.intCell HL.out i hlt
                  have HO4 := hide' (HO3.out.storeN HL.out i C)
                  have HBT := but_set w3 g i (.int .i64 (C : Int))
                  clear he3 HO HE HEW HCM
                  go_wp2
                  go_roundw
                  case rel => exact ⟨i + 1, R.set i C, by omega, by go_num, (show _ = _ by rw [List.length_set]; exact HL.out), HK2, HO4, Ext.but HE3.out Hg.out HBT, Hg⟩
                  case measure => simp [intOf]; omega
              · have l1' : decide ((0 : Int) < (c : Int)) = false := by simp; omega
                have l1'' : decide (0 < c) = false := by simp; omega
                clear hST2 HAC
                have HCM := hide' (phCommon_any (.slice va n vc) s i x wr (HV.out.ext HEW.out) (by rw [HN.out]; exact hs) (by rw [HN.out]; omega) (by rw [HN.out]; omega))
                have HK2 := hide' (HNX.out (comN s i x) (by rw [HPL2.out, comN_swap]))
                obtain ⟨C, HC⟩ : ∃ C, Hid (comN s i x = C) := ⟨_, rfl⟩
                rw [HC.out] at HCM HK2
                clear HNX
                go_wp2_with fail
                refine HCM.out.mono ?_
                rintro e w3 ⟨rfl, he3⟩
                have HO3 := hide' (HO.out.ext he3)
                have HE3 := hide' (HE.out.trans he3)
                have hfz3 := HO3.out.frozen (by rw [natL_len]; exact HL.out) i
                have hci3 := HO3.out.intCell HL.out i hlt
                have HO4 := hide' (HO3.out.storeN HL.out i C)
                have HBT := but_set w3 g i (.int .i64 (C : Int))
                clear he3 HO HE HEW HCM
                go_wp2
                go_roundw
                case rel => exact ⟨i + 1, R.set i C, by omega, by go_num, (show _ = _ by rw [List.length_set]; exact HL.out), HK2, HO4, Ext.but HE3.out Hg.out HBT, Hg⟩
                case measure => simp [intOf]; omega
        · have hlt' : decide ((i : Int) < n) = false := by simp; omega
          have hin : n = i := by omega
          have HR := hide' ((show PlTo s A B R A.length by rw [HAL.out, hin]; exact HK.out).done)
          go_wp2
          go_ret2
          refine ⟨_, rfl, ?_, HEW.out⟩
          rw [← HR.out]
          exact HO.out
  · have d1 : ((a.length : Int) != (s.length : Int)) = true := by simp; omega
    rw [plI_no (lcpOk_long h1), lcpOk_long h1]
    clear h1
    go_enter Try.func27, Try.ntmps27
    go_wp2_with fail
    go_ret2
    exact ⟨_, rfl, Own.nil _ _ _ _, Ext.refl _⟩

set_option maxHeartbeats 1000000 in
theorem phLcp_any (v u : Value) (s a : List Int) (w : World) (hv : Sl .u8 w v s) (hu : Sl .i64 w u a) (hs : s.length ≤ 500) (ha : a.length ≤ 1000000) :
    Calls Try.prog 29 #[v, u] w fun e w' => ∃ r, e = .returned (.tuple #[r, .bool (lcpOk s a)]) ∧ Own .i64 3 w.heap.size w' r (lcpL s a) ∧ Ext w w' := by
  have C := hide' (phPlcp_any v u s a w hv hu hs ha)
  have HU := hide' hu
  obtain ⟨va, vc, rfl, _⟩ := hv
  obtain ⟨ua, uc, rfl, _⟩ := hu
  cases h0 : lcpOk s a
  · rw [lcpL_no h0]
    rw [h0] at C
    clear h0
    go_enter Try.func29, Try.ntmps29
    go_wp2_with fail
    refine C.out.mono ?_
    rintro e w1 ⟨r1, rfl, _, he1⟩
    have X1 := hide' he1
    clear he1
    go_wp2
    go_ret2
    exact ⟨_, rfl, Own.nil _ _ _ _, X1.out⟩
  · have h1 : a.length = s.length := by
      apply Classical.byContradiction
      intro h; rw [lcpOk_long h] at h0; exact absurd h0 (by decide)
    have h2 : ordB a = true := by
      cases h : ordB a
      · rw [lcpOk_no h] at h0; exact absurd h0 (by decide)
      · rfl
    rw [lcpL_yes h0]
    rw [h0] at C
    obtain ⟨hA, hP⟩ := ordB_cast h2
    obtain ⟨A, HA⟩ : ∃ A, Hid (toN a = A) := ⟨_, rfl⟩
    rw [HA.out] at hA hP ⊢
    obtain ⟨n, HN⟩ : ∃ n, Hid (s.length = n) := ⟨_, rfl⟩
    have hAL : A.length = n := by rw [← HN.out, ← h1, ← hA, natL_len]
    have HP : Hid (A.Perm (List.range A.length)) := by show _; rw [hAL, ← HN.out, ← h1]; exact hP
    rw [← hA] at C HU
    rw [plI_nat HP.out (by rw [hAL, HN.out])] at C
    have HB := hide' (inv_nat HP.out).2
    obtain ⟨B, HBB⟩ : ∃ B, Hid (toN (invI (natL A)) = B) := ⟨_, rfl⟩
    rw [HBB.out] at HB C
    have HAL := hide' hAL
    rw [HN.out] at hs
    rw [natL_len, hAL] at C HU
    rw [HN.out] at C
    rw [h1, HN.out]
    have HLP : Hid (∀ i, i < n → (lcpN s A).getD i 0 = (plN s A B).getD (A.getD i 0) 0) := fun i hi => lcp_pl HP.out HB.out (by rw [hAL]; exact hi)
    have HPL : Hid ((plN s A B).length = n) := by show _ = _; rw [plN_len, hAL]
    obtain ⟨F, HF⟩ : ∃ F, Hid (plN s A B = F) := ⟨_, rfl⟩
    rw [HF.out] at C HLP HPL
    have HGL : Hid ((lcpN s A).length = n) := by show _ = _; rw [lcpN_len, hAL]
    obtain ⟨G, HG⟩ : ∃ G, Hid (lcpN s A = G) := ⟨_, rfl⟩
    rw [HG.out] at HGL HLP ⊢
    clear hA hP hAL h0 h1 h2 HA HBB HF HG HB
    go_enter Try.func29, Try.ntmps29
    go_wp2_with fail
    refine C.out.mono ?_
    rintro e w1 ⟨r1, rfl, ho1, he1⟩
    have S1 := hide' ho1.sl
    have X1 := hide' he1
    have hz1 := he1.size
    obtain ⟨s1a, s1c, hs1, _⟩ := ho1.sl
    rw [natL_len, HPL.out] at hs1
    subst hs1
    clear he1 C ho1
    obtain ⟨w2, hmk, ho, he⟩ := make_nats w1 n (by omega)
    have HO := hide' (ho.low hz1)
    have HE := hide' he
    clear ho he
    go_wp2
    clear hmk
    obtain ⟨g, HGG⟩ : ∃ g, Hid (w1.heap.size = g) := ⟨_, rfl⟩
    rw [HGG.out] at HO ⊢
    go_loopw [9, 10, 24] (fun _ _ vi wr => ∃ (i : Nat) (R : List Nat), i ≤ n ∧ vi = .int .i64 i ∧ Hid (R.length = n) ∧ Hid (∀ q, q < i → R.getD q 0 = G.getD q 0) ∧
      Hid (Own .i64 3 w.heap.size wr (.slice (some ⟨g, 0, none⟩) n n) (natL R)) ∧ Hid (Ext w1 wr) ∧ Hid (w1.heap.size ≤ g)) (fun _ _ vi _ => n - (intOf vi).toNat)
    case atStart => exact ⟨0, List.replicate n 0, by omega, rfl, List.length_replicate, (fun q hq => by omega), HO, HE, (show _ ≤ _ by rw [← HGG.out]; exact Nat.le_refl _)⟩
    case round =>
      clear HO HE
      obtain ⟨i, R, hi, rfl, HL, HK, HO, HE, Hg⟩ := hrel
      have HEW := hide' (X1.out.trans HE.out)
      by_cases hlt : i < n
      · have hlt' : (i : Int) < n := by omega
        obtain ⟨_, _, _, hco⟩ := HU.out.nat
        obtain ⟨og, ooff, hoa, ocell⟩ := hco (by omega)
        subst hoa
        have c1 := HEW.out.cellOf (ocell i hlt)
        clear hco ocell
        have hy := perm_lt HP.out (p := i) (by rw [HAL.out]; exact hlt)
        rw [HAL.out] at hy
        have HGI := hide' (HLP.out i hlt)
        obtain ⟨y, HY⟩ : ∃ y, Hid (A.getD i 0 = y) := ⟨_, rfl⟩
        rw [HY.out] at c1 hy HGI
        have hy' : (y : Int) < n := by omega
        obtain ⟨_, _, _, hcp⟩ := S1.out.nat
        obtain ⟨pg, poff, hpa, pcell⟩ := hcp (by omega)
        subst hpa
        have c2 := HE.out.cellOf (pcell y hy)
        clear hcp pcell
        obtain ⟨C, HC⟩ : ∃ C, Hid (F.getD y 0 = C) := ⟨_, rfl⟩
        rw [HC.out] at c2 HGI
        have hfz := HO.out.frozen (by rw [natL_len]; exact HL.out) i
        have hci := HO.out.intCell HL.out i hlt
        have HO2 := hide' (HO.out.storeN HL.out i C)
        have HBT := but_set wr g i (.int .i64 (C : Int))
        have HK2 : Hid (∀ q, q < i + 1 → (R.set i C).getD q 0 = G.getD q 0) := fun q hq => by
          by_cases e : q = i
          · subst e; rw [set_same (by rw [HL.out]; exact hlt), HGI.out]
          · rw [set_other fun e2 => e e2.symm]; exact HK.out q (by omega)
        go_wp2
        go_roundw
        case rel => exact ⟨i + 1, R.set i C, by omega, by go_num, (show _ = _ by rw [List.length_set]; exact HL.out), HK2, HO2, Ext.but HE.out Hg.out HBT, Hg⟩
        case measure => simp [intOf]; omega
      · have hlt' : decide ((i : Int) < n) = false := by simp; omega
        have hin : n = i := by omega
        have HR : Hid (R = G) := natL_ext (by rw [HL.out, HGL.out]) fun q hq => HK.out q (by rw [HL.out] at hq; omega)
        go_wp2
        go_ret2
        refine ⟨_, rfl, ?_, HEW.out⟩
        rw [← HR.out]
        exact HO.out
end Go.Proofs.Ytikohabbffjpkaa
