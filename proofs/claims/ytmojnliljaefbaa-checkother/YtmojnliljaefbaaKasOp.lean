/- Contract of kasai.LCP, of texts of at most 500 bytes. -/
import Derived.Test.YtmojnliljaefbaaKasMath
import Derived.Test.YtmojnliljaefbaaRkInv
import Derived.Test.YtmojnliljaefbaaLexCom
namespace Go.Proofs.Ytmojnliljaefbaa
set_option linter.unusedVariables false
set_option linter.unusedSimpArgs false
open Go.RowKit

theorem kcommon_any (v : Value) (zs : List Int) (i j : Nat) (w : World) (hs : Sl .u8 w v zs) (hlen : zs.length ≤ 500) (hi : i ≤ zs.length) (hj : j ≤ zs.length) :
    Calls Try.prog 30 #[v, .int .i64 i, .int .i64 j] w fun e w' => e = .returned (.int .i64 (comN zs i j : Int)) ∧ Ext w w' := by
  have := toExt (common_any v zs i j w hs hlen)
  rw [comL_nat hi hj] at this
  exact this

set_option maxHeartbeats 2000000 in
theorem klcp_any (v u : Value) (s a : List Int) (w : World) (hv : Sl .u8 w v s) (hu : Sl .i64 w u a) (hs : s.length ≤ 500) (ha : a.length ≤ 1000000) :
    Calls Try.prog 20 #[v, u] w fun e w' => ∃ r, e = .returned (.tuple #[r, .bool (lcpOk s a)]) ∧ Own .i64 3 w.heap.size w' r (lcpL s a) ∧ Ext w w' := by
  have HV := hide' hv
  have HU := hide' hu
  obtain ⟨va, vc, rfl, _⟩ := hv
  obtain ⟨ua, uc, rfl, _⟩ := hu
  by_cases h1 : a.length = s.length
  · have C := hide' (rkInv_any _ a w HU.out ha)
    cases h2 : ordB a
    · rw [lcpL_no (lcpOk_no h2), lcpOk_no h2]
      rw [h2] at C
      clear h2 HU
      obtain ⟨n, HN⟩ : ∃ n, Hid (s.length = n) := ⟨_, rfl⟩
      rw [h1] at C ⊢
      rw [HN.out] at C HV ⊢
      clear h1
      go_enter Try.func20, Try.ntmps20
      go_wp2_with fail
      refine C.out.mono ?_
      rintro e w1 ⟨s1, rfl, _, he1⟩
      have X1 := hide' he1
      clear he1
      go_wp2
      go_ret2
      exact ⟨_, rfl, Own.nil _ _ _ _, X1.out⟩
    · rw [lcpL_yes (lcpOk_yes h1 h2), lcpOk_yes h1 h2]
      rw [h2] at C
      obtain ⟨hA, hP⟩ := ordB_cast h2
      obtain ⟨A, HA⟩ : ∃ A, Hid (toN a = A) := ⟨_, rfl⟩
      rw [HA.out] at hA hP ⊢
      rw [← hA] at HU C
      obtain ⟨n, HN⟩ : ∃ n, Hid (s.length = n) := ⟨_, rfl⟩
      have hAL : A.length = n := by rw [← HN.out, ← h1, ← hA, natL_len]
      have HAL := hide' hAL
      rw [h1] at hP
      rw [HN.out] at hs hP HV
      have HP := hide' (show A.Perm (List.range A.length) by rw [hAL]; exact hP)
      obtain ⟨hB1, hB2⟩ := inv_nat HP.out
      obtain ⟨B, HB0⟩ : ∃ B, Hid (toN (invI (natL A)) = B) := ⟨_, rfl⟩
      rw [HB0.out] at hB1 hB2
      have HB := hide' hB2
      have HBL : Hid (B.length = n) := by show _ = _; rw [HB.out.len, hAL]
      rw [hB1, natL_len, hAL] at C
      rw [natL_len, hAL] at HU
      rw [h1, HN.out]
      clear hA hP hAL h2 h1 HA hB1 hB2 HB0
      go_enter Try.func20, Try.ntmps20
      go_wp2_with fail
      refine C.out.mono ?_
      rintro e w1 ⟨s1, rfl, ho1, he1⟩
      have S1 := hide' ho1.sl
      have X1 := hide' he1
      have hz1 := he1.size
      obtain ⟨s1a, s1c, hs1, _⟩ := ho1.sl
      rw [natL_len, HBL.out] at hs1
      subst hs1
      clear he1 C ho1
      obtain ⟨w2, hmk, ho, he⟩ := make_nats w1 n (by omega)
      have HO := hide' (ho.low hz1)
      have HE := hide' he
      clear ho he
      go_wp2
      clear hmk
      obtain ⟨g, HG⟩ : ∃ g, Hid (w1.heap.size = g) := ⟨_, rfl⟩
      rw [HG.out] at HO ⊢
      go_loopw [9, 10, 11, 12, 13, 31] (fun vc9 vb10 _ _ _ vi wr => ∃ (i : Nat) (R : List Nat) (c b : Nat), i ≤ n ∧ vi = .int .i64 i ∧ vc9 = .int .i64 c ∧ vb10 = .int .i64 b ∧ c ≤ n ∧ b ≤ n ∧ Hid (R.length = n) ∧ Hid (Kas s A R i) ∧ Hid (0 < c → 0 < i ∧ c = comN s (i - 1) b) ∧
        Hid (Own .i64 3 w.heap.size wr (.slice (some ⟨g, 0, none⟩) n n) (natL R)) ∧ Hid (Ext w1 wr) ∧ Hid (w1.heap.size ≤ g)) (fun _ _ _ _ _ vi _ => n - (intOf vi).toNat)
      case atStart =>
        refine ⟨0, List.replicate n 0, 0, 0, by omega, rfl, rfl, rfl, by omega, by omega, List.length_replicate, ?_, (fun h => by omega), HO, HE, (show _ ≤ _ by rw [← HG.out]; exact Nat.le_refl _)⟩
        have := Kas.start s A
        rw [HAL.out] at this
        exact this
      case round =>
        clear HO HE HG
        obtain ⟨i, R, c, b, hi, rfl, rfl, rfl, hcn, hbn, HL, HK, HCB, HO, HE, Hg⟩ := hrel
        have HEW := hide' (X1.out.trans HE.out)
        have HS := hide' (S1.out.ext HE.out)
        by_cases hlt : i < n
        · have hlt' : (i : Int) < n := by omega
          obtain ⟨_, _, _, hco⟩ := HS.out.nat
          obtain ⟨og, ooff, hoa, ocell⟩ := hco (by omega)
          subst hoa
          have c1 := ocell i hlt
          clear hco ocell
          have hp := HB.out.lt i (by rw [HAL.out]; exact hlt)
          rw [HAL.out] at hp
          have HSK : Hid (B.getD i 0 = 0 → Kas s A R (i + 1)) := fun h => HK.out.skip HB.out h
          have HNX : Hid (∀ p c', B.getD i 0 = p → 0 < p → c' = comN s i (A.getD (p - 1) 0) → Kas s A (R.set p c') (i + 1)) := fun p c' h1 h2 h3 => HK.out.next HB.out (by rw [HAL.out]; exact hlt) h1 h2 h3
          obtain ⟨p, HPP⟩ : ∃ p, Hid (B.getD i 0 = p) := ⟨_, rfl⟩
          rw [HPP.out] at c1 hp
          by_cases hp0 : p = 0
          · have e0 : ((p : Int) == 0) = true := by simp; omega
            have HK2 := hide' (HSK.out (by rw [HPP.out]; exact hp0))
            clear hp0 HSK HNX HPP
            go_wp2
            go_roundw
            case rel => exact ⟨i + 1, R, 0, b, by omega, by go_num, rfl, rfl, by omega, hbn, HL, HK2, (fun h => by omega), HO, HE, Hg⟩
            case measure => simp [intOf]; omega
          · have e0 : ((p : Int) == 0) = false := by simp; omega
            obtain ⟨J, HJ⟩ : ∃ J, Hid (p = J + 1) := ⟨p - 1, by show _ = _; omega⟩
            have hJn : J < n := by have := HJ.out; omega
            have hJn' : (J : Int) < n := by omega
            have hJ : (p : Int) - 1 = (J : Int) := by have := HJ.out; omega
            have wJ : IntKind.i64.wrap (J : Int) = (J : Int) := by rw [IntKind.wrap_i64]; omega
            have HJ2 : Hid (p - 1 = J) := by show _ = _; have := HJ.out; omega
            have hp' : (p : Int) < n := by omega
            obtain ⟨_, _, _, hco⟩ := HU.out.nat
            obtain ⟨ag, aoff, haa, acell⟩ := hco (by omega)
            subst haa
            have c2 := HEW.out.cellOf (acell J hJn)
            clear hco acell
            have hx := perm_lt HP.out (p := J) (by rw [HAL.out]; exact hJn)
            rw [HAL.out] at hx
            have HNX2 : Hid (∀ c', c' = comN s i (A.getD J 0) → Kas s A (R.set p c') (i + 1)) := fun c' h => HNX.out p c' HPP.out (by omega) (by rw [HJ2.out]; exact h)
            obtain ⟨x, HX⟩ : ∃ x, Hid (A.getD J 0 = x) := ⟨_, rfl⟩
            rw [HX.out] at c2 hx HNX2
            clear hp0 HSK HNX
            have hfz := HO.out.frozen (by rw [natL_len]; exact HL.out) p
            have hci := HO.out.intCell HL.out p hp
            by_cases l1 : 0 < c
            · have l1' : decide ((0 : Int) < (c : Int)) = true := by simp; omega
              by_cases l2 : x = b + 1
              · have l2' : ((x : Int) == (b : Int) + 1) = true := by simp; omega
                obtain ⟨C, HC⟩ : ∃ C, Hid (c = C + 1) := ⟨c - 1, by show _ = _; omega⟩
                have hC : (c : Int) - 1 = (C : Int) := by have := HC.out; omega
                have HCC : Hid (C = comN s i x) := by
                  obtain ⟨h1, h2⟩ := HCB.out l1
                  have h3 := comN_next (s := s) (i := i - 1) (j := b) (by omega)
                  rw [Nat.sub_add_cancel h1, ← l2] at h3
                  have := HC.out
                  show _ = _
                  omega
                have HO4 := hide' (HO.out.storeN HL.out p C)
                have HK3 := hide' (HNX2.out C HCC.out)
                have hCn : C ≤ n := by have := HC.out; omega
                clear HNX2
                go_wp2
                go_roundw
                case rel => exact ⟨i + 1, R.set p C, C, x, by omega, by go_num, by first | rfl | go_num, by rw [l2]; first | rfl | go_num, hCn, by omega, (show _ = _ by rw [List.length_set]; exact HL.out), HK3, (fun h => ⟨by omega, by rw [Nat.add_sub_cancel]; exact HCC.out⟩), HO4, Ext.but HE.out Hg.out (but_set _ _ _ _), Hg⟩
                case measure => simp [intOf]; omega
              · have l2' : ((x : Int) == (b : Int) + 1) = false := by simp; omega
                have HCM := hide' (kcommon_any (.slice va n vc) s i x wr (HV.out.ext HEW.out) (by rw [HN.out]; exact hs) (by rw [HN.out]; omega) (by rw [HN.out]; omega))
                have hcl := comN_le s i x
                rw [HN.out] at hcl
                obtain ⟨C, HC⟩ : ∃ C, Hid (comN s i x = C) := ⟨_, rfl⟩
                rw [HC.out] at HCM hcl
                go_wp2_with fail
                refine HCM.out.mono ?_
                rintro e w3 ⟨rfl, he3⟩
                have HO3 := hide' (HO.out.ext he3)
                have HE3 := hide' (HE.out.trans he3)
                have hfz3 := HO3.out.frozen (by rw [natL_len]; exact HL.out) p
                have hci3 := HO3.out.intCell HL.out p hp
                have HO4 := hide' (HO3.out.storeN HL.out p C)
                have HK3 := hide' (HNX2.out C HC.out.symm)
                have HBT := but_set w3 g p (.int .i64 (C : Int))
                clear he3 HO HE HS HEW hfz hci HNX2 HCM
                go_wp2
                go_roundw
                case rel => exact ⟨i + 1, R.set p C, C, x, by omega, by go_num, rfl, rfl, hcl, by omega, (show _ = _ by rw [List.length_set]; exact HL.out), HK3, (fun h => ⟨by omega, by rw [Nat.add_sub_cancel]; exact HC.out.symm⟩), HO4, Ext.but HE3.out Hg.out HBT, Hg⟩
                case measure => simp [intOf]; omega
            · have l1' : decide ((0 : Int) < (c : Int)) = false := by simp; omega
              have HCM := hide' (kcommon_any (.slice va n vc) s i x wr (HV.out.ext HEW.out) (by rw [HN.out]; exact hs) (by rw [HN.out]; omega) (by rw [HN.out]; omega))
              have hcl := comN_le s i x
              rw [HN.out] at hcl
              obtain ⟨C, HC⟩ : ∃ C, Hid (comN s i x = C) := ⟨_, rfl⟩
              rw [HC.out] at HCM hcl
              go_wp2_with fail
              refine HCM.out.mono ?_
              rintro e w3 ⟨rfl, he3⟩
              have HO3 := hide' (HO.out.ext he3)
              have HE3 := hide' (HE.out.trans he3)
              have hfz3 := HO3.out.frozen (by rw [natL_len]; exact HL.out) p
              have hci3 := HO3.out.intCell HL.out p hp
              have HO4 := hide' (HO3.out.storeN HL.out p C)
              have HK3 := hide' (HNX2.out C HC.out.symm)
              have HBT := but_set w3 g p (.int .i64 (C : Int))
              clear he3 HO HE HS HEW hfz hci HNX2 HCM
              go_wp2
              go_roundw
              case rel => exact ⟨i + 1, R.set p C, C, x, by omega, by go_num, rfl, rfl, hcl, by omega, (show _ = _ by rw [List.length_set]; exact HL.out), HK3, (fun h => ⟨by omega, by rw [Nat.add_sub_cancel]; exact HC.out.symm⟩), HO4, Ext.but HE3.out Hg.out HBT, Hg⟩
              case measure => simp [intOf]; omega
        · have hlt' : decide ((i : Int) < n) = false := by simp; omega
          have hin : n = i := by omega
          have HR := hide' ((show Kas s A R A.length by rw [HAL.out, hin]; exact HK.out).done HP.out)
          go_wp2
          go_ret2
          refine ⟨_, rfl, ?_, HEW.out⟩
          rw [← HR.out]
          exact HO.out
  · have d1 : ((a.length : Int) != (s.length : Int)) = true := by simp; omega
    rw [lcpL_no (lcpOk_long h1), lcpOk_long h1]
    clear h1
    go_enter Try.func20, Try.ntmps20
    go_wp2_with fail
    go_ret2
    exact ⟨_, rfl, Own.nil _ _ _ _, Ext.refl _⟩
end Go.Proofs.Ytmojnliljaefbaa
