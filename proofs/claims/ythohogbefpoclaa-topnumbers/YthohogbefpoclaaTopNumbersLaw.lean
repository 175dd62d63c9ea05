/- TopNumbers: the walk. -/
import Derived.Test.YthohogbefpoclaaPart5
namespace Go.Proofs.Ythohogbefpoclaa
set_option linter.unusedVariables false
set_option linter.unusedSimpArgs false
open Go.RowKit

theorem good_step {s : List Int} {k : Int} {i : Nat} (hi : i < s.length) (h : goodI k (s.take i) = true) (h0 : 0 ≤ s.getD i 0) (h1 : s.getD i 0 < k) : goodI k (s.take (i + 1)) = true := by
  rw [goodI_iff] at h ⊢
  rw [takeI_succ hi]
  intro z hz
  rcases List.mem_append.1 hz with g | g
  · exact h z g
  · rw [List.mem_singleton.1 g]; exact ⟨h0, h1⟩

set_option maxHeartbeats 1000000 in
theorem lawTopNumbers (v : Value) (s : List Int) (k : Int) (w : World) (hv : Sl .i64 w v s) :
    Calls Try.prog 4 #[v, .int .i64 k] w fun e w' => e = .returned (.bool true) ∧ Ext w w' := by
  have HV := hide' hv
  obtain ⟨a, c, rfl, hx⟩ := hv
  clear hx
  by_cases h1 : (200 : Int) < (s.length : Int)
  · go_enter Try.func4, Try.ntmps4
    go_wp2
    go_ret
    exact ⟨rfl, Ext.refl _⟩
  have d1 : decide ((200 : Int) < (s.length : Int)) = false := by simpa using h1
  by_cases h2 : k < 1
  · clear h1
    go_enter Try.func4, Try.ntmps4
    go_wp2
    go_ret
    exact ⟨rfl, Ext.refl _⟩
  have d2 : decide (k < 1) = false := by simpa using h2
  by_cases h3 : 3000 < k
  · clear h1 h2
    go_enter Try.func4, Try.ntmps4
    go_wp2
    go_ret
    exact ⟨rfl, Ext.refl _⟩
  have d3 : decide (3000 < k) = false := by simpa using h3
  have HK : Hid (1 ≤ k ∧ k ≤ 3000) := ⟨by omega, by omega⟩
  have HL3 : Hid (s.length ≤ 1000000) := by show _ ≤ _; omega
  have HL5 : Hid (s.length ≤ 100000) := by show _ ≤ _; omega
  obtain ⟨n, HN⟩ : ∃ n, Hid (s.length = n) := ⟨_, rfl⟩
  rw [HN.out] at d1 HL3 HL5 HV
  have hnn : n ≤ 200 := by have := HN.out; omega
  have hcv := HV.out.int.2.2.2
  have CV := hide' hcv
  clear h1 h2 h3 hcv
  rw [HN.out]
  go_enter Try.func4, Try.ntmps4
  go_wp2
  go_loopw [5] (fun vi wr => ∃ (i : Nat), i ≤ n ∧ vi = .int .i64 i ∧ Hid (goodI k (s.take i) = true) ∧ Hid (Ext w wr)) (fun vi _ => n - (intOf vi).toNat)
  case atStart => exact ⟨0, Nat.zero_le _, rfl, goodI_iff.2 (fun z hz => by simp at hz), Ext.refl _⟩
  case round =>
    obtain ⟨i, hi, rfl, HG, HE⟩ := hrel
    by_cases hlt : i < n
    · have hlt' : (i : Int) < n := by omega
      obtain ⟨g, off, ha, k1⟩ := CV.out (by omega)
      have c1 := HE.out.cellOf (k1 i hlt)
      have HST := hide' (fun h0 h1 => good_step (k := k) (by rw [HN.out]; exact hlt) HG.out h0 h1)
      obtain ⟨z, HZ⟩ : ∃ z, Hid (s.getD i 0 = z) := ⟨_, rfl⟩
      rw [HZ.out] at c1 HST
      subst ha
      clear k1
      by_cases g0 : z < 0
      · have e0 : decide (z < 0) = true := decide_eq_true g0
        go_wp2_with fail
        go_ret
        exact ⟨rfl, HE.out⟩
      · have e0 : decide (z < 0) = false := decide_eq_false g0
        by_cases g1 : k ≤ z
        · have e1 : decide (k ≤ z) = true := decide_eq_true g1
          clear g0
          go_wp2_with fail
          go_ret
          exact ⟨rfl, HE.out⟩
        · have e1 : decide (k ≤ z) = false := decide_eq_false g1
          have HG2 := hide' (HST.out (by omega) (by omega))
          clear g0 g1
          go_wp2
          go_roundw
          case rel => exact ⟨i + 1, by omega, by go_num, HG2, HE⟩
          case measure => simp [intOf]; omega
    · have hlt' : decide ((i : Int) < n) = false := by simp; omega
      have HFT : Hid (fitB s k = true) := by
        show _ = _
        refine fitB_iff.2 ⟨by have := HK.out; omega, by have := HK.out; omega, ?_⟩
        have := HG.out
        rwa [List.take_of_length_le (by rw [HN.out]; omega)] at this
      have HS6 : Hid (s.length ≤ 1000000) := by show _ ≤ _; rw [HN.out]; exact HL3.out
      clear HG
      go_wp2_with fail
      refine (saInts_any _ s k wr (HV.out.ext HE.out) HS6.out).mono ?_
      rintro e w1 ⟨u1, L1, c1, rfl, hR, ho, he⟩
      obtain ⟨rfl, R, hR2, rfl⟩ := hR.ok (by rw [HN.out]; exact HL5.out) HFT.out
      have RS := hide' hR
      have HOB : Hid (ordB (natL R) = true) := ordB_nat hR2.1
      have HRL : Hid ((natL R).length = n) := by show _ = _; rw [natL_len, hR2.len]; exact HN.out
      have O1 := hide' ho.sl
      have X1 := hide' (HE.out.trans he)
      clear hR hR2 ho he
      go_wp2_with fail
      refine (skInts_any _ s k w1 (HV.out.ext X1.out) HS6.out).mono ?_
      rintro e w2 ⟨u2, L2, c2, rfl, hR, ho, he⟩
      obtain ⟨rfl, rfl⟩ := RS.out.eq hR
      have O12 := hide' (O1.out.ext he)
      have O2 := hide' ho.sl
      have X2 := hide' (X1.out.trans he)
      clear hR ho he O1 X1
      go_wp2_with fail
      refine (dbInts_any _ s k w2 (HV.out.ext X2.out) HS6.out).mono ?_
      rintro e w3 ⟨u3, L3, c3, rfl, hR, ho, he⟩
      obtain ⟨rfl, rfl⟩ := RS.out.eq hR
      have O13 := hide' (O12.out.ext he)
      have O23 := hide' (O2.out.ext he)
      have O3 := hide' ho.sl
      have X3 := hide' (X2.out.trans he)
      clear hR ho he O12 O2 X2
      obtain ⟨a1, k1, rfl, _⟩ := O13.out
      obtain ⟨a2, k2, rfl, _⟩ := O23.out
      obtain ⟨a3, k3, rfl, _⟩ := O3.out
      rw [HRL.out] at O13 O23 O3 ⊢
      have HR6 : Hid ((natL R).length ≤ 1000000) := by show _ ≤ _; rw [HRL.out]; exact HL3.out
      have dnn : ((n : Int) == (n : Int)) = true := by simp
      go_wp2_with fail
      refine (ris_any _ (natL R) w3 O13.out HR6.out).mono ?_
      rw [HOB.out]
      rintro e w4 ⟨rfl, he⟩
      have X4 := hide' (X3.out.trans he)
      have O14 := hide' (O13.out.ext he)
      have O24 := hide' (O23.out.ext he)
      have O34 := hide' (O3.out.ext he)
      clear he
      go_wp2_with fail
      refine (ints_same _ _ (natL R) w4 O14.out O24.out HR6.out).mono ?_
      rintro e w5 ⟨rfl, he⟩
      have X5 := hide' (X4.out.trans he)
      have O15 := hide' (O14.out.ext he)
      have O35 := hide' (O34.out.ext he)
      clear he
      go_wp2_with fail
      refine (ints_same _ _ (natL R) w5 O15.out O35.out HR6.out).mono ?_
      rintro e w6 ⟨rfl, he⟩
      have X6 := hide' (X5.out.trans he)
      clear he
      go_wp2_with fail
      refine (topKnown_any _).mono ?_
      rintro e w7 ⟨rfl, he⟩
      have X7 := hide' (X6.out.trans he)
      clear he
      go_wp2
      go_ret
      exact ⟨rfl, X7.out⟩
end Go.Proofs.Ythohogbefpoclaa
