/- PhiAhead: the walk. -/
import Derived.Test.YtikohabbffjpkaaPhiKnown
import Derived.Test.YtikohabbffjpkaaRefInv
namespace Go.Proofs.Ytikohabbffjpkaa
set_option linter.unusedVariables false
set_option linter.unusedSimpArgs false
open Go.RowKit

set_option maxHeartbeats 1000000 in
theorem lawAhead (v : Value) (a : List Int) (w : World) (hv : Sl .i64 w v a) :
    Calls Try.prog 12 #[v] w fun e w' => e = .returned (.bool true) ∧ Ext w w' := by
  have HU := hide' hv
  obtain ⟨ua, uc, rfl, _⟩ := hv
  by_cases h1 : (200 : Int) < (a.length : Int)
  · go_enter Try.func12, Try.ntmps12
    go_wp2
    go_ret
    exact ⟨rfl, Ext.refl _⟩
  have d1 : decide ((200 : Int) < (a.length : Int)) = false := by simpa using h1
  have HA6 : Hid (a.length ≤ 1000000) := by show _ ≤ _; omega
  have C := hide' (ris_any _ a w HU.out HA6.out)
  clear h1
  cases h2 : ordB a
  · rw [h2] at C
    clear h2
    go_enter Try.func12, Try.ntmps12
    go_wp2_with fail
    refine C.out.mono ?_
    rintro e w1 ⟨rfl, he1⟩
    have X1 := hide' he1
    clear he1
    go_wp2
    go_ret
    exact ⟨rfl, X1.out⟩
  · rw [h2] at C
    obtain ⟨hA, hP⟩ := ordB_cast h2
    obtain ⟨A, HA⟩ : ∃ A, Hid (toN a = A) := ⟨_, rfl⟩
    rw [HA.out] at hA hP
    obtain ⟨n, HN⟩ : ∃ n, Hid (a.length = n) := ⟨_, rfl⟩
    have hAL : A.length = n := by rw [← HN.out, ← hA, natL_len]
    have HP : Hid (A.Perm (List.range A.length)) := by show _; rw [hAL, ← HN.out]; exact hP
    have HB := hide' (inv_nat HP.out).2
    obtain ⟨B, HBB⟩ : ∃ B, Hid (toN (invI (natL A)) = B) := ⟨_, rfl⟩
    rw [HBB.out] at HB
    have HQ : Hid (ahI a = ahL A B) := by show _ = _; rw [← hA, ahI_nat HP.out, HBB.out]
    have HQA : Hid (∀ i, i < n → A.getD i 0 < n ∧ (ahL A B).getD (A.getD i 0) 0 = if i = 0 then (-1 : Int) else (A.getD (i - 1) 0 : Int)) := fun i hi => by
      have h3 := perm_lt HP.out (p := i) (by rw [hAL]; exact hi)
      refine ⟨by rw [hAL] at h3; exact h3, ?_⟩
      rw [ahL_at h3, HB.out.on i (by rw [hAL]; exact hi)]
    have HQL : Hid ((ahL A B).length = n) := by show _ = _; rw [ahL_len, hAL]
    have HU2 : Hid (Sl .i64 w (.slice ua n uc) (natL A)) := by have := HU.out; rw [← hA, natL_len, hAL] at this; exact this
    obtain ⟨Q, HQQ⟩ : ∃ Q, Hid (ahL A B = Q) := ⟨_, rfl⟩
    rw [HQQ.out] at HQ HQA HQL
    have HOK := hide' h2
    have C2 : Hid (∀ W, Ext w W → Calls Try.prog 25 #[.slice ua n uc] W fun e w' => ∃ r, e = .returned (.tuple #[r, .bool true]) ∧ Own .i64 3 W.heap.size w' r Q ∧ Ext W w') := fun W he => by
      have := phAhead_any _ a W (HU.out.ext he) HA6.out
      rw [HOK.out, HQ.out, HN.out] at this
      exact this
    rw [HN.out] at C d1 ⊢
    have hn2 : n ≤ 1000000 := by have := HA6.out; rw [HN.out] at this; exact this
    clear hA hP h2 HU HQ HOK HA
    go_enter Try.func12, Try.ntmps12
    go_wp2_with fail
    refine C.out.mono ?_
    rintro e w1 ⟨rfl, he1⟩
    have X1 := hide' he1
    clear he1 C
    go_wp2_with fail
    refine (C2.out w1 X1.out).mono ?_
    rintro e w2 ⟨r, rfl, ho, he⟩
    have S2 := hide' ho.sl
    have X2 := hide' (X1.out.trans he)
    clear ho he X1 C2
    obtain ⟨ra, rc, rfl, _⟩ := S2.out
    rw [HQL.out] at S2 ⊢
    obtain ⟨_, _, _, hcq⟩ := S2.out.int
    obtain ⟨_, _, _, hca⟩ := HU2.out.nat
    have CQ := hide' hcq
    have CA := hide' hca
    have d6 : ((n : Int) != (n : Int)) = false := by simp
    clear hcq hca S2
    go_wp2
    go_loopw [5] (fun vi wr => ∃ (i : Nat), 1 ≤ i ∧ i ≤ n + 1 ∧ vi = .int .i64 i ∧ Hid (Ext w2 wr)) (fun vi _ => n + 1 - (intOf vi).toNat)
    case atStart => exact ⟨1, Nat.le_refl _, by omega, rfl, Ext.refl _⟩
    case round =>
      obtain ⟨i, hi1, hi, rfl, HE⟩ := hrel
      have HEW := hide' (X2.out.trans HE.out)
      by_cases hlt : i < n
      · have hlt' : (i : Int) < n := by omega
        obtain ⟨g1, o1, rfl, k1⟩ := CQ.out (by omega)
        obtain ⟨g2, o2, rfl, k2⟩ := CA.out (by omega)
        obtain ⟨J, HJ⟩ : ∃ J, Hid (i = J + 1) := ⟨i - 1, by show _ = _; omega⟩
        have hJn : J < n := by have := HJ.out; omega
        have hJn' : (J : Int) < n := by omega
        have hJ : (i : Int) - 1 = (J : Int) := by have := HJ.out; omega
        have wJ : IntKind.i64.wrap (J : Int) = (J : Int) := by rw [IntKind.wrap_i64]; omega
        obtain ⟨hy, hq⟩ := HQA.out i hlt
        rw [if_neg (by omega), show i - 1 = J by have := HJ.out; omega] at hq
        have c1 := HEW.out.cellOf (k2 i hlt)
        have c2 := HEW.out.cellOf (k2 J hJn)
        have c3 := HE.out.cellOf (k1 _ hy)
        rw [hq] at c3
        obtain ⟨y, HY⟩ : ∃ y, Hid (A.getD i 0 = y) := ⟨_, rfl⟩
        obtain ⟨z, HZ⟩ : ∃ y, Hid (A.getD J 0 = y) := ⟨_, rfl⟩
        rw [HY.out] at c1 c3 hy
        rw [HZ.out] at c2 c3
        have hy' : (y : Int) < n := by omega
        have d7 : ((z : Int) != (z : Int)) = false := by simp
        clear k1 k2 hq
        go_wp2_with fail
        go_quiet (fail)
        go_wp2
        go_roundw
        case rel => exact ⟨i + 1, by omega, by omega, by go_num, HE.out.trans (Ext.drewN _ _)⟩
        case measure => simp [intOf] <;> omega
      · have d7 : decide ((i : Int) < n) = false := by simp; omega
        by_cases h0 : n = 0
        · have d8 : ((n : Int) == 0) = true := by simp; omega
          clear h0
          go_wp2_with fail
          refine (known_any _).mono ?_
          rintro e w5 ⟨rfl, he⟩
          have X5 := hide' (HEW.out.trans he)
          clear he
          go_wp2
          go_ret
          exact ⟨rfl, X5.out⟩
        · have d8 : ((n : Int) == 0) = false := by simp; omega
          have d9 : (0 : Int) < n := by omega
          have d10 : 0 < n := by omega
          obtain ⟨g1, o1, rfl, k1⟩ := CQ.out (by omega)
          obtain ⟨g2, o2, rfl, k2⟩ := CA.out (by omega)
          obtain ⟨hy, hq⟩ := HQA.out 0 (by omega)
          rw [if_pos rfl] at hq
          have c1 := HEW.out.cellOf (k2 0 (by omega))
          have c3 := HE.out.cellOf (k1 _ hy)
          rw [hq] at c3
          rw [Nat.add_zero] at c1
          obtain ⟨y, HY⟩ : ∃ y, Hid (A.getD 0 0 = y) := ⟨_, rfl⟩
          rw [HY.out] at c1 c3 hy
          have hy' : (y : Int) < n := by omega
          clear k1 k2 hq h0
          go_wp2_with fail
          refine (known_any _).mono ?_
          rintro e w5 ⟨rfl, he⟩
          have X5 := hide' (HEW.out.trans he)
          clear he
          go_wp2
          go_ret
          exact ⟨rfl, X5.out⟩
end Go.Proofs.Ytikohabbffjpkaa
