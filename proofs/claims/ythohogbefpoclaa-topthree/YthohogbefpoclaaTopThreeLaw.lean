/- TopThree: the walk. -/
import Derived.Test.YthohogbefpoclaaPart5
import Derived.Test.YthohogbefpoclaaPart2
namespace Go.Proofs.Ythohogbefpoclaa
set_option linter.unusedVariables false
set_option linter.unusedSimpArgs false
open Go.RowKit

set_option maxHeartbeats 1000000 in
theorem lawTopThree (v : Value) (s : List Int) (w : World) (hv : Sl .u8 w v s) (h8 : Bytes8 s) :
    Calls Try.prog 3 #[v] w fun e w' => e = .returned (.bool true) ∧ Ext w w' := by
  have HV := hide' hv
  have H8 := hide' h8
  obtain ⟨va, vc, rfl, _⟩ := hv
  by_cases h1 : (400 : Int) < (s.length : Int)
  · go_enter Try.func3, Try.ntmps3
    go_wp2
    go_ret
    exact ⟨rfl, Ext.refl _⟩
  have d1 : decide ((400 : Int) < (s.length : Int)) = false := by simpa using h1
  have HS5 : Hid (s.length ≤ 100000) := by show _ ≤ _; omega
  have HS6 : Hid (s.length ≤ 1000000) := by show _ ≤ _; omega
  clear h1 h8
  go_enter Try.func3, Try.ntmps3
  go_wp2_with fail
  refine (saBytes_any _ s w HV.out H8.out HS6.out).mono ?_
  rintro e w1 ⟨u1, L1, c1, rfl, hR, ho, he⟩
  obtain ⟨rfl, R, hR2, rfl⟩ := hR.ok HS5.out (fit256 H8.out)
  have RS := hide' hR
  have RO := hide' hR2
  have O1 := hide' ho.sl
  have X1 := hide' he
  clear hR hR2 ho he
  go_wp2_with fail
  refine (skBytes_any _ s w1 (HV.out.ext X1.out) H8.out HS6.out).mono ?_
  rintro e w2 ⟨u2, L2, c2, rfl, hR, ho, he⟩
  obtain ⟨rfl, rfl⟩ := RS.out.eq hR
  have O12 := hide' (O1.out.ext he)
  have O2 := hide' ho.sl
  have X2 := hide' (X1.out.trans he)
  clear hR ho he O1 X1
  go_wp2_with fail
  refine (dbBytes_any _ s w2 (HV.out.ext X2.out) H8.out HS6.out).mono ?_
  rintro e w3 ⟨u3, L3, c3, rfl, hR, ho, he⟩
  obtain ⟨rfl, rfl⟩ := RS.out.eq hR
  have O13 := hide' (O12.out.ext he)
  have O23 := hide' (O2.out.ext he)
  have O3 := hide' ho.sl
  have X3 := hide' (X2.out.trans he)
  have HRL : Hid (R.length = s.length) := RO.out.len
  obtain ⟨a1, k1, rfl, _⟩ := O13.out
  obtain ⟨a2, k2, rfl, _⟩ := O23.out
  obtain ⟨a3, k3, rfl, _⟩ := O3.out
  clear hR ho he O12 O2 X2
  have HOB : Hid (ordB (natL R) = true) := ordB_nat RO.out.1
  have HNL : Hid ((natL R).length = s.length) := by show _ = _; rw [natL_len]; exact HRL.out
  have dl : (((natL R).length : Int) != (s.length : Int)) = false := by rw [HNL.out]; simp
  go_wp2_with fail
  refine (ris_any _ (natL R) w3 O13.out (by rw [HNL.out]; exact HS6.out)).mono ?_
  rw [HOB.out]
  rintro e w4 ⟨rfl, he⟩
  have X4 := hide' (X3.out.trans he)
  have O14 := hide' (O13.out.ext he)
  have O24 := hide' (O23.out.ext he)
  have O34 := hide' (O3.out.ext he)
  clear he
  go_wp2_with fail
  refine (ints_same _ _ (natL R) w4 O14.out O24.out (by rw [HNL.out]; exact HS6.out)).mono ?_
  rintro e w5 ⟨rfl, he⟩
  have X5 := hide' (X4.out.trans he)
  have O15 := hide' (O14.out.ext he)
  have O35 := hide' (O34.out.ext he)
  clear he
  go_wp2_with fail
  refine (ints_same _ _ (natL R) w5 O15.out O35.out (by rw [HNL.out]; exact HS6.out)).mono ?_
  rintro e w6 ⟨rfl, he⟩
  have X6 := hide' (X5.out.trans he)
  have O16 := hide' (O15.out.ext he)
  clear he O14 O24 O34 O15 O35 O23 O3 O13 X3 X4 X5 dl
  obtain ⟨n, HN⟩ : ∃ n, Hid (s.length = n) := ⟨_, rfl⟩
  have hRn : (natL R).length = n := by rw [HNL.out]; exact HN.out
  rw [hRn] at O16 ⊢
  rw [HN.out] at HV HS6 d1 ⊢
  have hn6 : n ≤ 100000 := by have := HS5.out; have := HN.out; omega
  obtain ⟨_, _, _, hco⟩ := O16.out.nat
  have CO := hide' hco
  clear hco hRn
  go_wp2
  go_loopw [9] (fun vi wr => ∃ (i : Nat), 1 ≤ i ∧ (i ≤ n ∨ i = 1) ∧ vi = .int .i64 i ∧ Hid (Ext w6 wr)) (fun vi _ => n + 1 - (intOf vi).toNat)
  case atStart => exact ⟨1, by omega, .inr rfl, rfl, Ext.refl _⟩
  case round =>
    obtain ⟨i, hi1, hi2, rfl, HE⟩ := hrel
    by_cases hlt : i < n
    · have hlt' : (i : Int) < n := by omega
      obtain ⟨J, hJ⟩ : ∃ J, i = J + 1 := ⟨i - 1, by omega⟩
      have hJn : J < n := by omega
      have hJn' : (J : Int) < n := by omega
      have hJj : (i : Int) - 1 = (J : Int) := by omega
      have wJ : IntKind.i64.wrap (J : Int) = (J : Int) := by rw [IntKind.wrap_i64]; omega
      obtain ⟨g, off, ha, k1⟩ := CO.out (by omega)
      have c1 := HE.out.cellOf (k1 J hJn)
      have c2 := HE.out.cellOf (k1 i hlt)
      have hp : R.getD J 0 < n := by rw [← HN.out]; exact RO.out.mem (by rw [HN.out]; exact hJn)
      have hq : R.getD i 0 < n := by rw [← HN.out]; exact RO.out.mem (by rw [HN.out]; exact hlt)
      have hc : cmpI (s.drop (R.getD J 0)) (s.drop (R.getD i 0)) < 0 := by
        have hr := RO.out.2
        have hRl : R.length = n := by rw [HRL.out]; exact HN.out
        have := (List.pairwise_iff_getElem.1 hr) J i (by omega) (by omega) (by omega)
        simpa [ltE, List.getD, List.getElem?_eq_getElem (show J < R.length by omega), List.getElem?_eq_getElem (show i < R.length by omega)] using this
      obtain ⟨p, HP⟩ : ∃ p, Hid (R.getD J 0 = p) := ⟨_, rfl⟩
      obtain ⟨q, HQ⟩ : ∃ q, Hid (R.getD i 0 = q) := ⟨_, rfl⟩
      rw [HP.out] at c1 hp hc
      rw [HQ.out] at c2 hq hc
      obtain ⟨da, ra, sa, _⟩ := (HV.out.ext (X6.out.trans HE.out)).runDrop (P := Try.prog) 22 5 Try.underlying22 size8 p (by rw [HN.out]; omega)
      obtain ⟨db, rb, sb, _⟩ := (HV.out.ext (X6.out.trans HE.out)).runDrop (P := Try.prog) 22 5 Try.underlying22 size8 q (by rw [HN.out]; omega)
      obtain ⟨C, HC⟩ : ∃ C, Hid (cmpI (s.drop p) (s.drop q) = C) := ⟨_, rfl⟩
      have HW : Hid (∀ m, Calls Try.prog 12 #[.slice da (n - p) (vc - p), .slice db (n - q) (vc - q)] (wr.drewN m) fun e w' => e = .returned (.int .i64 C) ∧ ∃ k, w' = (wr.drewN m).drewN k) := fun m => by
        have := words_any _ _ (s.drop p) (s.drop q) (wr.drewN m) (sa.drewN m) (sb.drewN m) (by rw [List.length_drop]; have := HN.out; omega) (by rw [List.length_drop]; have := HN.out; omega)
        rw [HC.out] at this
        exact this
      rw [HC.out] at hc
      have dC : decide ((0 : Int) ≤ C) = false := by simp; omega
      subst ha
      clear hJ k1 sa sb hc hi2
      go_wp2_with fail
      go_quiet ((go_at_call 12; exact Calls.quiet_of (HW.out _)))
      go_wp2
      go_roundw
      case rel => exact ⟨i + 1, by omega, .inl (by omega), by go_num, HE.out.trans (Ext.drewN _ _)⟩
      case measure => simp [intOf]; omega
    · have hlt' : decide ((i : Int) < n) = false := by simp; omega
      go_wp2_with fail
      refine (topKnown_any _).mono ?_
      rintro e w7 ⟨rfl, he⟩
      have X7 := hide' (X6.out.trans (HE.out.trans he))
      clear he
      go_wp2
      go_ret
      exact ⟨rfl, X7.out⟩
end Go.Proofs.Ythohogbefpoclaa
