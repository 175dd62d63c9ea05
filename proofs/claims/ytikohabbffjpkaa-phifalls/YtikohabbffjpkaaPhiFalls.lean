/- PhiFalls: the walk. -/
import Derived.Test.YtikohabbffjpkaaPhiKnown
import Derived.Test.YtikohabbffjpkaaRefBytes
namespace Go.Proofs.Ytikohabbffjpkaa
set_option linter.unusedVariables false
set_option linter.unusedSimpArgs false
open Go.RowKit

set_option maxRecDepth 100000 in
set_option maxHeartbeats 1000000 in
theorem lawFalls (v : Value) (s : List Int) (w : World) (hv : Sl .u8 w v s) (h8 : Bytes8 s) :
    Calls Try.prog 11 #[v] w fun e w' => e = .returned (.bool true) ∧ Ext w w' := by
  have HV := hide' hv
  have H8 := hide' h8
  obtain ⟨va, vc, rfl, _⟩ := hv
  by_cases h1 : (150 : Int) < (s.length : Int)
  · go_enter Try.func11, Try.ntmps11
    go_wp2
    go_ret
    exact ⟨rfl, Ext.refl _⟩
  have d1 : decide ((150 : Int) < (s.length : Int)) = false := by simpa using h1
  have HS3 : Hid (s.length ≤ 500) := by show _ ≤ _; omega
  have HS5 : Hid (s.length ≤ 100000) := by show _ ≤ _; omega
  clear h1 h8
  have hnb : s.length ≤ 500 := HS3.out
  obtain ⟨n, HN⟩ : ∃ n, Hid (s.length = n) := ⟨_, rfl⟩
  rw [HN.out] at hnb
  go_enter Try.func11, Try.ntmps11
  go_wp2_with fail
  refine (srBytes_any _ s w HV.out H8.out HS5.out).mono ?_
  rintro e w0 ⟨u0, L0, rfl, hR, ho, he⟩
  obtain ⟨_, A, hA, rfl⟩ := hR.ok HS5.out (fit256 H8.out)
  have HORD := hide' hA
  have hAL := hA.len
  have HP : Hid (A.Perm (List.range A.length)) := by show _; rw [hAL]; exact hA.1
  have HB := hide' (inv_nat HP.out).2
  obtain ⟨B, HBB⟩ : ∃ B, Hid (toN (invI (natL A)) = B) := ⟨_, rfl⟩
  have HOK : Hid (lcpOk s (natL A) = true) := lcpOk_yes (by rw [natL_len, hAL]) (ordB_nat HP.out)
  have HPL : Hid (plI s (natL A) = natL (plN s A B)) := by show _ = _; rw [plI_nat HP.out hAL, HBB.out]
  have HLL : Hid (lcpL s (natL A) = natL (lcpN s A)) := by show _ = _; rw [lcpL_yes HOK.out, toN_nat]
  rw [HBB.out] at HB
  have HF : Hid (∀ i, 0 < i → i < n → (plN s A B).getD (i - 1) 0 ≤ (plN s A B).getD i 0 + 1) := fun i h1 h2 => pl_falls HORD.out HB.out h1 (by rw [hAL, HN.out]; exact h2)
  have HX : Hid (∀ i, i < n → A.getD i 0 < n ∧ (lcpN s A).getD i 0 = (plN s A B).getD (A.getD i 0) 0) := fun i h => ⟨by have := perm_lt HP.out (p := i) (by rw [hAL, HN.out]; exact h); rw [hAL, HN.out] at this; exact this, lcp_pl HP.out HB.out (by rw [hAL, HN.out]; exact h)⟩
  have HBD : Hid (∀ i, i < n → (plN s A B).getD i 0 ≤ 500) := fun i h => by
    rw [plN_at (by rw [hAL, HN.out]; exact h)]
    split
    · omega
    · have := comN_le s (A.getD (B.getD i 0 - 1) 0) i
      have := HS3.out
      omega
  have HLA : Hid ((natL A).length = n) := by show _ = _; rw [natL_len, hAL, HN.out]
  have HLP : Hid ((natL (plN s A B)).length = n) := by show _ = _; rw [natL_len, plN_len, hAL, HN.out]
  have HLX : Hid ((natL (lcpN s A)).length = n) := by show _ = _; rw [natL_len, lcpN_len, hAL, HN.out]
  have O0 := hide' ho.sl
  have X0 := hide' he
  have hA6 : (natL A).length ≤ 1000000 := by rw [HLA.out]; have := HS3.out; rw [HN.out] at this; omega
  have HA6 := hide' hA6
  clear hR hA ho he hAL hA6
  obtain ⟨PP, HPP⟩ : ∃ L, Hid (plN s A B = L) := ⟨_, rfl⟩
  obtain ⟨XX, HXX⟩ : ∃ L, Hid (lcpN s A = L) := ⟨_, rfl⟩
  rw [HPP.out] at HPL HF HX HBD HLP
  rw [HXX.out] at HLL HX HLX
  go_wp2_with fail
  refine (phPlcp_any _ _ s _ w0 (HV.out.ext X0.out) O0.out HS3.out HA6.out).mono ?_
  rw [HPL.out, HOK.out]
  rintro e w1 ⟨u1, rfl, ho, he⟩
  have O1 := hide' ho.sl
  have X1 := hide' (X0.out.trans he)
  have O01 := hide' (O0.out.ext he)
  clear ho he X0 O0
  go_wp2_with fail
  refine (phLcp_any _ _ s _ w1 (HV.out.ext X1.out) O01.out HS3.out HA6.out).mono ?_
  rw [HLL.out, HOK.out]
  rintro e w2 ⟨u2, rfl, ho, he⟩
  have O2 := hide' ho.sl
  have X2 := hide' (X1.out.trans he)
  have O12 := hide' (O1.out.ext he)
  have O02 := hide' (O01.out.ext he)
  clear ho he X1 O1 O01
  obtain ⟨aa, ac, rfl, _⟩ := O02.out
  obtain ⟨pa, pc, rfl, _⟩ := O12.out
  obtain ⟨xa, xc, rfl, _⟩ := O2.out
  rw [HLA.out] at O02 ⊢
  rw [HLP.out] at O12 ⊢
  rw [HLX.out] at O2 ⊢
  rw [HN.out]
  obtain ⟨_, _, _, hca⟩ := O02.out.nat
  obtain ⟨_, _, _, hcp⟩ := O12.out.nat
  obtain ⟨_, _, _, hcx⟩ := O2.out.nat
  have CA := hide' hca
  have CP := hide' hcp
  have CX := hide' hcx
  have d6 : ((n : Int) != (n : Int)) = false := by simp
  clear hca hcp hcx O02 O12 O2
  go_wp2
  go_loopw [8] (fun vi wr => ∃ (i : Nat), i ≤ n ∧ vi = .int .i64 i ∧ Hid (Ext w2 wr)) (fun vi _ => n - (intOf vi).toNat)
  case atStart => exact ⟨0, Nat.zero_le _, rfl, Ext.refl _⟩
  case round =>
    obtain ⟨i, hi, rfl, HE⟩ := hrel
    by_cases hlt : i < n
    · have hlt' : (i : Int) < n := by omega
      obtain ⟨g1, o1, rfl, k1⟩ := CA.out (by omega)
      obtain ⟨g2, o2, rfl, k2⟩ := CP.out (by omega)
      obtain ⟨g3, o3, rfl, k3⟩ := CX.out (by omega)
      obtain ⟨hy, hxe⟩ := HX.out i hlt
      have c1 := HE.out.cellOf (k1 i hlt)
      have c2 := HE.out.cellOf (k2 i hlt)
      have c3 := HE.out.cellOf (k3 i hlt)
      have c4 := HE.out.cellOf (k2 _ hy)
      have hbd := HBD.out i hlt
      rw [hxe] at c3
      obtain ⟨y, HY⟩ : ∃ y, Hid (A.getD i 0 = y) := ⟨_, rfl⟩
      rw [HY.out] at c1 c3 c4 hy
      obtain ⟨z, HZ⟩ : ∃ z, Hid (PP.getD y 0 = z) := ⟨_, rfl⟩
      rw [HZ.out] at c3 c4
      have hy' : (y : Int) < n := by omega
      have d7 : ((z : Int) != (z : Int)) = false := by simp
      by_cases hi0 : i = 0
      · have d8 : decide ((0 : Int) < (i : Int)) = false := by simp; omega
        have d8' : decide (0 < i) = false := by simp; omega
        clear k1 k2 k3 hi0 c2 hbd
        go_wp2_with fail
        go_quiet (fail)
        go_wp2
        go_roundw
        case rel => exact ⟨i + 1, by omega, by go_num, HE.out.trans (Ext.drewN _ _)⟩
        case measure => simp [intOf] <;> omega
      · have d8 : decide ((0 : Int) < (i : Int)) = true := by simp; omega
        have d8' : decide (0 < i) = true := by simp; omega
        obtain ⟨J, HJ⟩ : ∃ J, Hid (i = J + 1) := ⟨i - 1, by show _ = _; omega⟩
        have hJn : J < n := by have := HJ.out; omega
        have hJn' : (J : Int) < n := by omega
        have hJ : (i : Int) - 1 = (J : Int) := by have := HJ.out; omega
        have wJ : IntKind.i64.wrap (J : Int) = (J : Int) := by rw [IntKind.wrap_i64]; omega
        have hf := HF.out i (by omega) hlt
        rw [show i - 1 = J by have := HJ.out; omega] at hf
        have c5 := HE.out.cellOf (k2 J hJn)
        have hbj := HBD.out J hJn
        obtain ⟨a, HA⟩ : ∃ z, Hid (PP.getD i 0 = z) := ⟨_, rfl⟩
        obtain ⟨b, HB⟩ : ∃ z, Hid (PP.getD J 0 = z) := ⟨_, rfl⟩
        rw [HA.out] at c2 hf hbd
        rw [HB.out] at c5 hf hbj
        have d9 : decide ((a : Int) < (b : Int) - 1) = false := by simp; omega
        have wB : IntKind.i64.wrap ((b : Int) - 1) = (b : Int) - 1 := by rw [IntKind.wrap_i64]; omega
        clear k1 k2 k3 hi0 hf
        go_wp2_with fail
        go_quiet (fail)
        go_wp2
        go_roundw
        case rel => exact ⟨i + 1, by omega, by go_num, HE.out.trans (Ext.drewN _ _)⟩
        case measure => simp [intOf] <;> omega
    · have d7 : decide ((i : Int) < n) = false := by simp; omega
      have X3 := hide' (X2.out.trans HE.out)
      go_wp2_with fail
      refine (known_any _).mono ?_
      rintro e w5 ⟨rfl, he⟩
      have X5 := hide' (X3.out.trans he)
      clear he
      go_wp2
      go_ret
      exact ⟨rfl, X5.out⟩
end Go.Proofs.Ytikohabbffjpkaa
