/- CheckRight: the walk. -/
import Derived.Test.YtmojnliljaefbaaChKnown
namespace Go.Proofs.Ytmojnliljaefbaa
set_option linter.unusedVariables false
set_option linter.unusedSimpArgs false
open Go.RowKit

set_option maxRecDepth 100000 in
set_option maxHeartbeats 1000000 in
theorem lawRight (v : Value) (s : List Int) (i k : Int) (w : World) (hv : Sl .u8 w v s) (h8 : Bytes8 s) :
    Calls Try.prog 4 #[v, .int .i64 i, .int .i64 k] w fun e w' => e = .returned (.bool true) ∧ Ext w w' := by
  have HV := hide' hv
  have H8 := hide' h8
  obtain ⟨va, vc, rfl, _⟩ := hv
  clear h8
  by_cases g : 1 ≤ s.length ∧ s.length ≤ 120 ∧ 0 ≤ i ∧ i < s.length ∧ 0 ≤ k ∧ k < s.length
  · obtain ⟨g1, g2, g3, g4, g5, g6⟩ := g
    obtain ⟨i, rfl⟩ := Int.eq_ofNat_of_zero_le g3
    obtain ⟨k, rfl⟩ := Int.eq_ofNat_of_zero_le g5
    obtain ⟨n, HN⟩ : ∃ n, Hid (s.length = n) := ⟨_, rfl⟩
    have HS5 : Hid (s.length ≤ 100000) := by show _ ≤ _; omega
    have HS3 : Hid (s.length ≤ 500) := by show _ ≤ _; omega
    rw [HN.out] at HV g1 g2 g4 g6 ⊢
    have gi : i < n := by omega
    have gk : k < n := by omega
    have d1 : decide ((n : Int) < 1) = false := by simp; omega
    have d2 : decide ((120 : Int) < (n : Int)) = false := by simp; omega
    have d3 : decide ((i : Int) < 0) = false := by simp
    have d4 : decide ((n : Int) ≤ (i : Int)) = false := by simp; omega
    have d5 : decide ((k : Int) < 0) = false := by simp
    have d6 : decide ((n : Int) ≤ (k : Int)) = false := by simp; omega
    have d4' : decide (n ≤ i) = false := by simp; omega
    have d6' : decide (n ≤ k) = false := by simp; omega
    have d1' : decide (n < 1) = false := by simp; omega
    have d2' : decide (120 < n) = false := by simp; omega
    clear g3 g5
    go_enter Try.func4, Try.ntmps4
    go_wp2_with fail
    refine (srBytes_any _ s w HV.out H8.out HS5.out).mono ?_
    rintro e w0 ⟨u0, L0, rfl, hR, ho, he⟩
    obtain ⟨_, A, hA, rfl⟩ := hR.ok HS5.out (fit256 H8.out)
    have hAL := hA.len
    have HYES := hide' (saB_yes hA)
    have HSA : Hid (∀ a, saB s a = decide (a = natL A)) := fun a => saB_ord hA a
    have HND : Hid ((natL A).Nodup) := natL_nodup (hA.1.nodup_iff.2 List.nodup_range)
    have HLA : Hid ((natL A).length = n) := by show _ = _; rw [natL_len, hAL, HN.out]
    have HCH : Hid (chkB s (natL A) (lcpL s (natL A)) = true) := chkB_yes HYES.out
    have HLL : Hid ((lcpL s (natL A)).length ≤ 1000000) := by
      have h1 := lcpL_le s (natL A)
      have h2 := HLA.out
      show _ ≤ _
      omega
    have HO0 := hide' ho
    have X0 := hide' he
    have hz0 := he.size
    obtain ⟨a0, cap0, hs0, hg0, _⟩ := ho.shape (fun e => by have := HLA.out; rw [e] at this; simp at this; omega)
    rw [HLA.out] at hs0
    subst hs0
    clear hR hA ho he hAL
    obtain ⟨L, HL⟩ : ∃ L, Hid (natL A = L) := ⟨_, rfl⟩
    rw [HL.out] at HYES HSA HND HLA HCH HLL HO0
    obtain ⟨h, HH⟩ : ∃ h, Hid (lcpL s L = h) := ⟨_, rfl⟩
    rw [HH.out] at HCH HLL
    have HL6 : Hid (L.length ≤ 1000000) := by show _ ≤ _; rw [HLA.out]; omega
    have HS6 : Hid (s.length ≤ 1000000) := by show _ ≤ _; have := HS3.out; omega
    go_wp2_with fail
    refine (rlcp_any _ _ s L w0 (HV.out.ext X0.out) HO0.out.sl HS6.out HL6.out).mono ?_
    rw [HH.out]
    rintro e w1 ⟨u1, rfl, ho, he⟩
    have O1 := hide' ho.sl
    have HO1 := hide' (HO0.out.ext he)
    have X1 := hide' (X0.out.trans he)
    clear ho he HO0 X0
    go_wp2_with fail
    refine (chSA_any _ _ s L w1 (HV.out.ext X1.out) H8.out HO1.out.sl HS3.out HL6.out).mono ?_
    rw [HYES.out]
    rintro e w2 ⟨rfl, he⟩
    have HO2 := hide' (HO1.out.ext he)
    have X2 := hide' (X1.out.trans he)
    have O2 := hide' (O1.out.ext he)
    clear he HO1 X1 O1
    go_wp2_with fail
    refine (chLcp_any _ _ _ s L h w2 (HV.out.ext X2.out) H8.out HO2.out.sl O2.out HS3.out HL6.out HLL.out).mono ?_
    rw [HCH.out]
    rintro e w3 ⟨rfl, he⟩
    have HO3 := hide' (HO2.out.ext he)
    have X3 := hide' (X2.out.trans he)
    clear he HO2 X2 O2
    have c1 := HO3.out.cell HLA.out i gi
    have c2 := HO3.out.cell HLA.out k gk
    have z1 := HO3.out.frozen HLA.out i
    obtain ⟨p, HP⟩ : ∃ p, Hid (L.getD i 0 = p) := ⟨_, rfl⟩
    obtain ⟨q, HQ⟩ : ∃ p, Hid (L.getD k 0 = p) := ⟨_, rfl⟩
    rw [HP.out] at c1
    rw [HQ.out] at c2
    have HO4 := hide' (HO3.out.store HLA.out i q)
    have HL4 : Hid ((L.set i q).length = n) := by show _ = _; rw [List.length_set]; exact HLA.out
    have c4 := HO4.out.cell HL4.out k gk
    have z4 := HO4.out.frozen HL4.out k
    have HO5 : Hid (Own .i64 3 w.heap.size (((w3.setCell ⟨a0, i, none⟩ (.int .i64 q)).setCell ⟨a0, k, none⟩ (.int .i64 p)).drew) (.slice (some ⟨a0, 0, none⟩) n cap0) ((L.set i q).set k p)) := (HO4.out.store HL4.out k p).ext (Ext.drewN _ 1)
    have HE5 : Hid (Ext w (((w3.setCell ⟨a0, i, none⟩ (.int .i64 q)).setCell ⟨a0, k, none⟩ (.int .i64 p)).drew)) := (Ext.but (Ext.but X3.out hg0 (but_set _ _ _ _)) hg0 (but_set _ _ _ _)).trans (Ext.drewN _ 1)
    obtain ⟨q2, HQ2⟩ : ∃ z, Hid ((L.set i q).getD k 0 = z) := ⟨_, rfl⟩
    rw [HQ2.out] at c4
    have HFIN : Hid (saB s ((L.set i q).set k p) = decide (i = k)) := by
      show _ = _
      rw [HSA.out, ← HP.out, ← HQ.out]
      exact decide_eq_decide.2 (swap_same HND.out (by rw [HLA.out]; exact gi) (by rw [HLA.out]; exact gk))
    have HL5 : Hid (((L.set i q).set k p).length ≤ 1000000) := by show _ ≤ _; rw [List.length_set, List.length_set]; exact HL6.out
    have q1 : ((i : Int) == (k : Int)) = decide (i = k) := by
      rw [Bool.eq_iff_iff, decide_eq_true_eq, beq_iff_eq]
      omega
    obtain ⟨b, HB⟩ : ∃ b, Hid (decide (i = k) = b) := ⟨_, rfl⟩
    rw [HB.out] at HFIN q1
    have q2' : (b == b) = true := by simp
    go_wp2_with fail
    go_big_region
    clear c1 c2 c4 z1 z4 HO3 HO4 X3
    generalize ((w3.setCell ⟨a0, i, none⟩ (.int .i64 q)).setCell ⟨a0, k, none⟩ (.int .i64 p)).drew = W at *
    go_wp2_with fail
    refine (chSA_any _ _ s _ _ (HV.out.ext HE5.out) H8.out HO5.out.sl HS3.out HL5.out).mono ?_
    rw [HFIN.out]
    rintro e w6 ⟨rfl, he⟩
    have X6 := hide' (HE5.out.trans he)
    clear he
    go_wp2_with fail
    refine (known_any _).mono ?_
    rintro e w7 ⟨rfl, he⟩
    have X7 := hide' (X6.out.trans he)
    clear he
    go_wp2
    go_ret
    exact ⟨rfl, X7.out⟩
  · by_cases b1 : (s.length : Int) < 1
    · clear g
      go_enter Try.func4, Try.ntmps4
      go_wp2
      go_ret
      exact ⟨rfl, Ext.refl _⟩
    have e1 : decide ((s.length : Int) < 1) = false := by simpa using b1
    by_cases b2 : (120 : Int) < (s.length : Int)
    · clear g
      go_enter Try.func4, Try.ntmps4
      go_wp2
      go_ret
      exact ⟨rfl, Ext.refl _⟩
    have e2 : decide ((120 : Int) < (s.length : Int)) = false := by simpa using b2
    by_cases b3 : i < 0
    · clear g
      go_enter Try.func4, Try.ntmps4
      go_wp2
      go_ret
      exact ⟨rfl, Ext.refl _⟩
    have e3 : decide (i < 0) = false := by simpa using b3
    by_cases b4 : (s.length : Int) ≤ i
    · clear g
      go_enter Try.func4, Try.ntmps4
      go_wp2
      go_ret
      exact ⟨rfl, Ext.refl _⟩
    have e4 : decide ((s.length : Int) ≤ i) = false := by simpa using b4
    by_cases b5 : k < 0
    · clear g
      go_enter Try.func4, Try.ntmps4
      go_wp2
      go_ret
      exact ⟨rfl, Ext.refl _⟩
    have e5 : decide (k < 0) = false := by simpa using b5
    by_cases b6 : (s.length : Int) ≤ k
    · clear g
      go_enter Try.func4, Try.ntmps4
      go_wp2
      go_ret
      exact ⟨rfl, Ext.refl _⟩
    have e6 : decide ((s.length : Int) ≤ k) = false := by simpa using b6
    exact absurd ⟨by omega, by omega, by omega, by omega, by omega, by omega⟩ g
end Go.Proofs.Ytmojnliljaefbaa
