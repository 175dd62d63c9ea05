/- Contract of the document's own LCP: whorlref17.LCP. -/
import Derived.Test.YtmnbjikhjdmmfaaPart4
import Derived.Test.YtmnbjikhjdmmfaaRefInv
import Derived.Test.YtmnbjikhjdmmfaaRefCom
namespace Go.Proofs.Ytmnbjikhjdmmfaa
set_option linter.unusedVariables false
set_option linter.unusedSimpArgs false
open Go.RowKit

set_option maxHeartbeats 1000000 in
theorem rlcp_any (v u : Value) (s a : List Int) (w : World) (hv : Sl .u8 w v s) (hu : Sl .i64 w u a) (hs : s.length ≤ 1000000) (ha : a.length ≤ 1000000) :
    Calls Try.prog 10 #[v, u] w fun e w' => ∃ r, e = .returned (.tuple #[r, .bool (lcpOk s a)]) ∧ Own .i64 3 w.heap.size w' r (lcpL s a) ∧ Ext w w' := by
  have HV := hide' hv
  have HU := hide' hu
  obtain ⟨va, vc, rfl, _⟩ := hv
  obtain ⟨ua, uc, rfl, _⟩ := hu
  by_cases h1 : a.length = s.length
  · have C : Hid (∀ w', Ext w w' → Calls Try.prog 18 #[.slice ua a.length uc] w' fun e w'' => e = .returned (.bool (ordB a)) ∧ Ext w' w'') := fun w' he => ris_any _ a w' (HU.out.ext he) ha
    cases h2 : ordB a
    · rw [lcpL_no (lcpOk_no h2), lcpOk_no h2]
      rw [h2] at C
      clear h2 HU
      obtain ⟨n, HN⟩ : ∃ n, Hid (s.length = n) := ⟨_, rfl⟩
      rw [h1] at C ⊢
      rw [HN.out] at C HV ⊢
      clear h1
      go_enter Try.func10, Try.ntmps10
      go_wp2_with fail
      refine (C.out _ (Ext.refl _)).mono ?_
      rintro e w1 ⟨rfl, he1⟩
      have X1 := hide' he1
      clear he1
      go_wp2
      go_ret2
      exact ⟨_, rfl, Own.nil _ _ _ _, X1.out⟩
    · rw [lcpL_yes (lcpOk_yes h1 h2), lcpOk_yes h1 h2]
      rw [h2] at C
      obtain ⟨hA, hP⟩ := ordB_cast h2
      obtain ⟨A, HA⟩ : ∃ A, Hid (toN a = A) := ⟨_, rfl⟩
      rw [HA.out] at hA hP ⊢
      rw [← hA] at HU
      obtain ⟨n, HN⟩ : ∃ n, Hid (s.length = n) := ⟨_, rfl⟩
      have hAL : A.length = n := by rw [← HN.out, ← h1, ← hA, natL_len]
      have HAL := hide' hAL
      rw [h1] at hP
      rw [HN.out] at hs hP HV
      rw [h1, HN.out] at C ⊢
      have HP := hide' (show A.Perm (List.range A.length) by rw [hAL]; exact hP)
      have HU2 : Hid (Sl .i64 w (.slice ua n uc) (natL A)) := by have := HU.out; rw [natL_len, hAL] at this; exact this
      clear hA hP hAL h2 HU h1 HA
      go_enter Try.func10, Try.ntmps10
      go_wp2_with fail
      refine (C.out _ (Ext.refl _)).mono ?_
      rintro e w1 ⟨rfl, he1⟩
      have X1 := hide' he1
      have hz1 := he1.size
      clear he1 C
      obtain ⟨w2, hmk, ho, he⟩ := make_nats w1 n hs
      have HO := hide' (ho.low hz1)
      have HE := hide' (X1.out.trans he)
      clear ho he
      go_wp2
      clear hmk
      obtain ⟨g, HG⟩ : ∃ g, Hid (w1.heap.size = g) := ⟨_, rfl⟩
      rw [HG.out] at HO ⊢
      go_loopw [7] (fun vi wr => ∃ (i : Nat) (R : List Nat), 1 ≤ i ∧ i ≤ n + 1 ∧ vi = .int .i64 i ∧ Hid (R.length = n) ∧ Hid (LcpTo s A R i) ∧
        Hid (Own .i64 3 w.heap.size wr (.slice (some ⟨g, 0, none⟩) n n) (natL R)) ∧ Hid (Ext w wr) ∧ w.heap.size ≤ g) (fun vi _ => n + 1 - (intOf vi).toNat)
      case atStart =>
        refine ⟨1, List.replicate n 0, by omega, by omega, rfl, List.length_replicate, ?_, HO, HE, by rw [← HG.out]; exact hz1⟩
        have := LcpTo.start s A
        rw [HAL.out] at this
        exact this
      case round =>
        clear HO HE hz1
        obtain ⟨i, R, hi1, hi, rfl, HL, HK, HO, HE, hg⟩ := hrel
        by_cases hlt : i < n
        · have hlt' : (i : Int) < n := by omega
          obtain ⟨J, HJ⟩ : ∃ J, Hid (i = J + 1) := ⟨i - 1, by show _ = _; omega⟩
          have hJn : J < n := by have := HJ.out; omega
          have hJn' : (J : Int) < n := by omega
          have hJ : (i : Int) - 1 = (J : Int) := by have := HJ.out; omega
          have wJ : IntKind.i64.wrap (J : Int) = (J : Int) := by rw [IntKind.wrap_i64]; omega
          have HJ2 : Hid (i - 1 = J) := by show _ = _; have := HJ.out; omega
          obtain ⟨_, _, _, hco⟩ := HU2.out.nat
          obtain ⟨og, ooff, hoa, ocell⟩ := hco (by omega)
          subst hoa
          have c1 := later_cell (HE.out.cellOf (ocell J hJn))
          have c2 := later_cell (HE.out.cellOf (ocell i hlt))
          clear hco ocell
          have hx := perm_lt HP.out (p := J) (by rw [HAL.out]; exact hJn)
          have hy := perm_lt HP.out (p := i) (by rw [HAL.out]; exact hlt)
          rw [HAL.out] at hx hy
          have HK2 : Hid (∀ c, c = comN s (A.getD J 0) (A.getD i 0) → LcpTo s A (R.set i c) (i + 1)) := fun c hc => HK.out.next (by omega) (by rw [HAL.out]; exact hlt) (by rw [HJ2.out]; exact hc)
          obtain ⟨x, HX⟩ : ∃ x, Hid (A.getD J 0 = x) := ⟨_, rfl⟩
          obtain ⟨y, HY⟩ : ∃ y, Hid (A.getD i 0 = y) := ⟨_, rfl⟩
          rw [HX.out] at c1 hx HK2
          rw [HY.out] at c2 hy HK2
          obtain ⟨c, HC⟩ : ∃ c, Hid (comN s x y = c) := ⟨_, rfl⟩
          have CC : Hid (∀ w', Ext wr w' → Calls Try.prog 19 #[.slice va n vc, .int .i64 x, .int .i64 y] w' fun e w'' => e = .returned (.int .i64 (c : Int)) ∧ Ext w' w'') := fun w' he => by
            have := rcommon_any _ s x y w' (HV.out.ext (HE.out.trans he)) (by rw [HN.out]; exact hs)
            rw [comL_nat (by rw [HN.out]; omega) (by rw [HN.out]; omega), HC.out] at this
            exact this
          go_wp2_with fail
          refine wp_region_kt (fun _ _ v _ => v = .int .i64 (c : Int)) 14 (by kernel_rfl) (by kernel_rfl) (by kernel_rfl) ?_
          have hne := later_some wr
          simp only [List.take_succ_cons, List.take_zero, List.drop_succ_cons, List.drop_zero]
          refine lexK_take 12 (by kernel_rfl) ?_
          simp only [List.take_succ_cons, List.take_zero, List.drop_succ_cons, List.drop_zero]
          repeat (go_big_quiet_step (fail))
          refine wpQuiet_nil ?_
          refine lexK_call1 19 #[.slice va n vc, .int .i64 x, .int .i64 y] (.int .i64 (c : Int)) (fun _ _ => Iff.rfl) rfl (fun w' => ?_) (fun w' he _ => CC.out w' he) ?_
          · go_simp
          simp only [Act.put, List.setIfInBounds_toArray, List.set_cons_succ, List.set_cons_zero]
          refine lexK_take 1 (by kernel_rfl) ?_
          simp only [List.take_succ_cons, List.take_zero, List.drop_succ_cons, List.drop_zero]
          repeat (go_big_quiet_step (fail))
          refine wpQuiet_nil ?_
          refine lexK_nil ?_
          intro w3 he3 _
          have HO3 := hide' (HO.out.ext he3)
          have HE3 := hide' (HE.out.trans he3)
          have hfz := HO3.out.frozen (by rw [natL_len]; exact HL.out) i
          have hci := HO3.out.intCell HL.out i hlt
          have HO4 := hide' (HO3.out.storeN HL.out i c)
          have HK3 := hide' (HK2.out c HC.out.symm)
          clear hne c1 c2 he3 HO HE HK HK2 CC
          go_wp2
          go_roundw
          case rel => exact ⟨i + 1, R.set i c, by omega, by omega, by go_num, (show _ = _ by rw [List.length_set]; exact HL.out), HK3, HO4, Ext.but HE3.out hg (but_set _ _ _ _), hg⟩
          case measure => simp [intOf]; omega
        · have hlt' : decide ((i : Int) < n) = false := by simp; omega
          have HR := hide' (HK.out.done (by rw [HAL.out]; omega))
          go_wp2
          go_ret2
          refine ⟨_, rfl, ?_, HE.out⟩
          rw [← HR.out]
          exact HO.out
  · have d1 : ((a.length : Int) != (s.length : Int)) = true := by simp; omega
    rw [lcpL_no (lcpOk_long h1), lcpOk_long h1]
    clear h1
    go_enter Try.func10, Try.ntmps10
    go_wp2_with fail
    go_ret2
    exact ⟨_, rfl, Own.nil _ _ _ _, Ext.refl _⟩
end Go.Proofs.Ytmnbjikhjdmmfaa
