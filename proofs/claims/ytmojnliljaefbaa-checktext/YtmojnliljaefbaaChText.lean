/- CheckText: the walk. -/
import Derived.Test.YtmojnliljaefbaaChKnown
namespace Go.Proofs.Ytmojnliljaefbaa
set_option linter.unusedVariables false
set_option linter.unusedSimpArgs false
open Go.RowKit

set_option maxRecDepth 100000 in
set_option maxHeartbeats 1000000 in
theorem lawText (v u : Value) (s t : List Int) (w : World) (hv : Sl .u8 w v s) (hu : Sl .u8 w u t) (h8 : Bytes8 s) (k8 : Bytes8 t) :
    Calls Try.prog 6 #[v, u] w fun e w' => e = .returned (.bool true) ∧ Ext w w' := by
  have HV := hide' hv
  have HU := hide' hu
  have H8 := hide' h8
  have K8 := hide' k8
  obtain ⟨va, vc, rfl, _⟩ := hv
  obtain ⟨ua, uc, rfl, _⟩ := hu
  clear h8 k8
  by_cases h1 : (100 : Int) < (s.length : Int)
  · go_enter Try.func6, Try.ntmps6
    go_wp2
    go_ret
    exact ⟨rfl, Ext.refl _⟩
  have d1 : decide ((100 : Int) < (s.length : Int)) = false := by simpa using h1
  by_cases h2 : (100 : Int) < (t.length : Int)
  · clear h1
    go_enter Try.func6, Try.ntmps6
    go_wp2
    go_ret
    exact ⟨rfl, Ext.refl _⟩
  have d2 : decide ((100 : Int) < (t.length : Int)) = false := by simpa using h2
  have HS3 : Hid (s.length ≤ 500) := by show _ ≤ _; omega
  have HS5 : Hid (s.length ≤ 100000) := by show _ ≤ _; omega
  have HT3 : Hid (t.length ≤ 500) := by show _ ≤ _; omega
  have HT5 : Hid (t.length ≤ 100000) := by show _ ≤ _; omega
  have hs3 : s.length ≤ 500 := by omega
  have ht3 : t.length ≤ 500 := by omega
  clear h1 h2
  go_enter Try.func6, Try.ntmps6
  go_wp2_with fail
  refine (srBytes_any _ s w HV.out H8.out HS5.out).mono ?_
  rintro e w0 ⟨u0, L0, rfl, hR, ho, he⟩
  obtain ⟨_, A, hA, rfl⟩ := hR.ok HS5.out (fit256 H8.out)
  have HSA : Hid (∀ a, saB s a = decide (a = natL A)) := fun a => saB_ord hA a
  have hLA : (natL A).length = s.length := by rw [natL_len, hA.len]
  have S0 := hide' ho.sl
  have X0 := hide' he
  clear hR hA ho he
  go_wp2_with fail
  refine (srBytes_any _ t w0 (HU.out.ext X0.out) K8.out HT5.out).mono ?_
  rintro e w1 ⟨u1, L1, rfl, hR, ho, he⟩
  obtain ⟨_, B, hB, rfl⟩ := hR.ok HT5.out (fit256 K8.out)
  have HSB : Hid (∀ a, saB t a = decide (a = natL B)) := fun a => saB_ord hB a
  have hLB : (natL B).length = t.length := by rw [natL_len, hB.len]
  have S1 := hide' (S0.out.ext he)
  have T1 := hide' ho.sl
  have X1 := hide' (X0.out.trans he)
  clear hR hB ho he S0 X0
  obtain ⟨L, HL⟩ : ∃ z, Hid (natL A = z) := ⟨_, rfl⟩
  obtain ⟨M, HM⟩ : ∃ z, Hid (natL B = z) := ⟨_, rfl⟩
  rw [HL.out] at S1 HSA hLA
  rw [HM.out] at T1 HSB hLB
  obtain ⟨n, HN⟩ : ∃ z, Hid (L.length = z) := ⟨_, rfl⟩
  obtain ⟨m, HMM⟩ : ∃ z, Hid (M.length = z) := ⟨_, rfl⟩
  rw [HN.out] at hLA
  rw [HMM.out] at hLB
  have hn : n ≤ 500 := by omega
  have hm : m ≤ 500 := by omega
  have HL6 : Hid (L.length ≤ 1000000) := by show _ ≤ _; rw [HN.out]; omega
  have HM6 : Hid (M.length ≤ 1000000) := by show _ ≤ _; rw [HMM.out]; omega
  have S1K := S1
  have T1K := T1
  obtain ⟨aa, ac, hs0, _⟩ := S1.out
  obtain ⟨ba, bc, hs1, _⟩ := T1.out
  rw [HN.out] at hs0
  rw [HMM.out] at hs1
  subst hs0 hs1
  obtain ⟨_, _, _, hca⟩ := S1.out.int
  obtain ⟨_, _, _, hcb⟩ := T1.out.int
  have CA := hide' hca
  have CB := hide' hcb
  clear hca hcb hLA hLB hs3 ht3 S1K T1K
  obtain ⟨c0, HC0⟩ : ∃ c, Hid (((n : Int) == (m : Int)) = c) := ⟨_, rfl⟩
  have q0 : ((n : Int) == (m : Int)) = c0 := HC0.out
  have HI : Hid (c0 = true → n = m) := fun h => by rw [h] at q0; simp at q0; omega
  have HJ : Hid (c0 = false → L ≠ M) := fun h e => by
    rw [h] at q0
    have : n = m := by rw [← HN.out, ← HMM.out, e]
    simp at q0
    omega
  go_wp2
  clear q0
  go_loopw [7, 8] (fun vs vi wr => ∃ (i : Nat) (c : Bool), i ≤ n ∧ vi = .int .i64 i ∧ vs = .bool c ∧ Hid (c = true → n = m ∧ ∀ j, j < i → L.getD j 0 = M.getD j 0) ∧ Hid (c = false → L ≠ M) ∧ Hid (Ext w1 wr)) (fun _ vi _ => n - (intOf vi).toNat)
  case atStart => exact ⟨0, c0, Nat.zero_le _, rfl, rfl, (fun h => ⟨HI.out h, fun j hj => by omega⟩), HJ, Ext.refl _⟩
  case round =>
    obtain ⟨i, c, hi, rfl, rfl, HP, HQ, HE⟩ := hrel
    have hdone : (c = false ∨ n ≤ i) → c = decide (L = M) := fun h => by
      cases c
      · exact (decide_eq_false (HQ.out rfl)).symm
      · have hin : i = n := by
          rcases h with h | h
          · cases h
          · omega
        obtain ⟨g1, g2⟩ := HP.out rfl
        refine (decide_eq_true ?_).symm
        refine rowI_ext (by rw [HN.out, HMM.out, g1]) fun j hj => ?_
        rw [HN.out] at hj
        exact g2 j (by omega)
    have HDN := hide' hdone
    clear hdone
    have FIN : Hid (∀ (c : Bool), c = decide (L = M) → saB s M = c ∧ saB t L = c) := fun c h => by
      rw [HSA.out, HSB.out, h]
      exact ⟨decide_eq_decide.2 ⟨fun e => e.symm, fun e => e.symm⟩, rfl⟩
    by_cases hlt : i < n
    · have hlt' : (i : Int) < n := by omega
      cases c
      · have HF := hide' (FIN.out false (HDN.out (.inl rfl)))
        have X2 := hide' (X1.out.trans HE.out)
        go_wp2_with fail
        refine (chSA_any _ _ s M _ (HV.out.ext X2.out) H8.out (T1.out.ext HE.out) HS3.out HM6.out).mono ?_
        rw [HF.out.1]
        rintro e w3 ⟨rfl, he⟩
        have E3 := hide' (HE.out.trans he)
        have X3 := hide' (X2.out.trans he)
        clear he
        go_wp2_with fail
        refine (chSA_any _ _ t L _ (HU.out.ext X3.out) K8.out (S1.out.ext E3.out) HT3.out HL6.out).mono ?_
        rw [HF.out.2]
        rintro e w4 ⟨rfl, he⟩
        have X4 := hide' (X3.out.trans he)
        clear he
        go_wp2_with fail
        refine (known_any _).mono ?_
        rintro e w5 ⟨rfl, he⟩
        have X5 := hide' (X4.out.trans he)
        clear he
        go_wp2
        go_ret
        exact ⟨rfl, X5.out⟩
      · have G1 : Hid (n = m) := (HP.out rfl).1
        have G2 := hide' (HP.out rfl).2
        have him : i < m := by have := G1.out; omega
        have him' : (i : Int) < m := by omega
        obtain ⟨p1, o1, rfl, k1⟩ := CA.out (by omega)
        obtain ⟨p2, o2, rfl, k2⟩ := CB.out (by omega)
        have c1 := HE.out.cellOf (k1 i hlt)
        have c2 := HE.out.cellOf (k2 i him)
        obtain ⟨x, HX⟩ : ∃ z, Hid (L.getD i 0 = z) := ⟨_, rfl⟩
        obtain ⟨y, HY⟩ : ∃ z, Hid (M.getD i 0 = z) := ⟨_, rfl⟩
        rw [HX.out] at c1
        rw [HY.out] at c2
        obtain ⟨b, HB⟩ : ∃ b, Hid ((x == y) = b) := ⟨_, rfl⟩
        have qb : (x == y) = b := HB.out
        clear k1 k2
        go_wp2_with fail
        go_quiet (fail)
        clear qb c1 c2
        go_wp2
        go_roundw
        case rel =>
          refine ⟨i + 1, b, by omega, by go_num, by first | rfl | rw [HB.out], (fun h => ⟨G1.out, fun j hj => ?_⟩), (fun h e => ?_), HE.out.trans (Ext.drewN _ _)⟩
          · by_cases e : j = i
            · subst e
              rw [HX.out, HY.out]
              have := HB.out
              rw [h] at this
              simpa using this
            · exact G2.out j (by omega)
          · have := HB.out
            rw [h, ← HX.out, ← HY.out, e] at this
            simp at this
        case measure => simp [intOf] <;> omega
    · have d7 : decide ((i : Int) < n) = false := by simp; omega
      have HF := hide' (FIN.out c (HDN.out (.inr (by omega))))
      have X2 := hide' (X1.out.trans HE.out)
      have qc : (c == c) = true := by simp
      go_wp2_with fail
      refine (chSA_any _ _ s M _ (HV.out.ext X2.out) H8.out (T1.out.ext HE.out) HS3.out HM6.out).mono ?_
      rw [HF.out.1]
      rintro e w3 ⟨rfl, he⟩
      have E3 := hide' (HE.out.trans he)
      have X3 := hide' (X2.out.trans he)
      clear he
      go_wp2_with fail
      refine (chSA_any _ _ t L _ (HU.out.ext X3.out) K8.out (S1.out.ext E3.out) HT3.out HL6.out).mono ?_
      rw [HF.out.2]
      rintro e w4 ⟨rfl, he⟩
      have X4 := hide' (X3.out.trans he)
      clear he
      go_wp2_with fail
      refine (known_any _).mono ?_
      rintro e w5 ⟨rfl, he⟩
      have X5 := hide' (X4.out.trans he)
      clear he
      go_wp2
      go_ret
      exact ⟨rfl, X5.out⟩
end Go.Proofs.Ytmojnliljaefbaa
