/- LyndonFalls: the walk. -/
import Derived.Test.YtlnpgdjmcdhpbaaLynKnown
import Derived.Test.YtlnpgdjmcdhpbaaLynRef
namespace Go.Proofs.Ytlnpgdjmcdhpbaa
set_option linter.unusedVariables false
set_option linter.unusedSimpArgs false
open Go.RowKit

/-- The next one is not greater. -/
def Fell (ls s : List Int) : Prop := s.length ≠ 0 → ¬ cmpI ls (s.take (longI s)) < 0

set_option maxHeartbeats 1000000 in
theorem lawFalls (v : Value) (zs : List Int) (w : World) (hs : Sl .u8 w v zs) :
    Calls Try.prog 4 #[v] w fun e w' => e = .returned (.bool true) ∧ Ext w w' := by
  have HS := hide' hs
  obtain ⟨a, cap, rfl, hm2, hm3, _⟩ := hs
  unfold maxLen at hm3
  by_cases h1 : (200 : Int) < (zs.length : Int)
  · go_enter Try.func4, Try.ntmps4
    go_wp2
    go_ret
    exact ⟨rfl, Ext.refl _⟩
  have d1 : decide ((200 : Int) < (zs.length : Int)) = false := by simpa using h1
  have hlen : zs.length ≤ 200 := by omega
  clear h1
  have HFL := hide' (facL_len _ zs (Nat.le_refl _))
  have HLN : Hid (zs.length ≤ 1000000) := by show _ ≤ _; omega
  obtain ⟨N, HN⟩ : ∃ n, Hid (zs.length = n) := ⟨_, rfl⟩
  rw [HN.out] at HS HFL hlen d1 hm2 ⊢
  obtain ⟨fs, HF⟩ : ∃ t, Hid (facL zs = t) := ⟨_, rfl⟩
  rw [HF.out] at HFL
  go_enter Try.func4, Try.ntmps4
  go_wp2_with fail
  refine (factors_any _ zs w HS.out HLN.out).mono ?_
  rw [HF.out]
  rintro e w1 ⟨s1, rfl, ho, he⟩
  have HO := hide' ho.sl
  have X1 := hide' he
  clear ho he
  have hsl := HO.out
  obtain ⟨a1, c1, rfl, _⟩ := hsl
  obtain ⟨F, hF⟩ : ∃ n, fs.length = n := ⟨_, rfl⟩
  have HFN := hide' hF
  have hFl := HFL.out
  rw [hF] at HO hFl ⊢
  clear hF
  go_wp2
  go_loopw [4, 5, 6] (fun vat vl vi wr => ∃ (k i : Nat) (ls : List Int), k ≤ N ∧ i ≤ F ∧ vat = .int .i64 k ∧ vi = .int .i64 i ∧ Hid (fs.drop i = facL (zs.drop k)) ∧ Hid (Sl .u8 w vl ls) ∧ Hid (ls.length ≤ 1000000) ∧ Hid (i ≠ 0 → Fell ls (zs.drop k)) ∧ Hid (Ext w1 wr)) (fun _ _ vi _ => F - (intOf vi).toNat)
  case atStart => exact ⟨0, 0, [], Nat.zero_le _, Nat.zero_le _, rfl, rfl, (show _ = _ by rw [List.drop_zero, List.drop_zero, HF.out]), (Own.nil .u8 5 0 w).sl, (show _ ≤ _ by simp), (show 0 ≠ 0 → _ from fun h => absurd rfl h), Ext.refl _⟩
  case round =>
    obtain ⟨k, i, ls, hk, hi, rfl, rfl, HD, HLS, HLL, HFe, HE⟩ := hrel
    have hdl : (zs.drop k).length = N - k := by rw [List.length_drop, HN.out]
    have HDL := hide' hdl
    clear hdl
    by_cases hlt : i < F
    · have hlt' : (i : Int) < F := by omega
      have hne : (zs.drop k).length ≠ 0 := by
        intro h
        have h1 := congrArg List.length HD.out
        rw [facL_nil h, List.length_drop, HFN.out, List.length_nil] at h1
        omega
      have hls := longI_spec hne
      have HFa := hide' (falls hne)
      have HC := hide' HD.out
      rw [facL_cons hne, List.drop_drop] at HC
      rw [List.drop_drop] at HFa
      obtain ⟨L, HL⟩ : ∃ L, Hid (longI (zs.drop k) = L) := ⟨_, rfl⟩
      have hcmp : Hid (i ≠ 0 → ¬ cmpI ls ((zs.drop k).take L) < 0) := fun h => by
        have := HFe.out h hne
        rwa [HL.out] at this
      rw [HL.out] at HFa HC hls
      have hL1 := hls.pos
      have hL2 := hls.le
      rw [HDL.out] at hL2
      have HLy := hide' hls.lyn
      clear hls
      have HG : Hid (fs.getD i 0 = (L : Int)) := by
        show _ = _
        have h1 : (fs.drop i).getD 0 0 = (L : Int) := by rw [HC.out]; rfl
        rwa [getD_drop, Nat.add_zero] at h1
      have HC2 : Hid (fs.drop (i + 1) = facL (zs.drop (k + L))) := by
        show _ = _
        have h1 := congrArg (List.drop 1) HC.out
        rwa [List.drop_drop] at h1
      have hne2 : fs ≠ [] := fun h => by have := HFN.out; rw [h] at this; simp at this; omega
      obtain ⟨_, b1, o1, e1, cc⟩ := (HO.out.ext HE.out).at hne2
      have ci := cc i hlt
      rw [HG.out] at ci
      clear cc hne2
      subst e1
      have HSr := hide' ((HS.out.ext X1.out).ext HE.out)
      obtain ⟨a2, t2, s2⟩ := HSr.out.runCut (P := Try.prog) 22 5 Try.underlying22 size8 k (k + L) (by omega) (by rw [HN.out]; omega)
      obtain ⟨a3, t3, s3⟩ := HS.out.runCut (P := Try.prog) 22 5 Try.underlying22 size8 k (k + L) (by omega) (by rw [HN.out]; omega)
      have e32 : (Value.slice a3 (k + L - k) (cap - k)) = .slice a2 (k + L - k) (cap - k) := by
        have h1 := t2 w
        rw [t3 w] at h1
        cases h1
        rfl
      rw [e32] at s3
      clear t3 e32
      have hcut : (zs.take (k + L)).drop k = (zs.drop k).take L := by rw [List.drop_take]; congr 1; omega
      rw [hcut] at s2 s3
      obtain ⟨d1', hd1'⟩ : ∃ d, k + L - k = d := ⟨_, rfl⟩
      obtain ⟨d2', hd2'⟩ : ∃ d, cap - k = d := ⟨_, rfl⟩
      rw [hd1', hd2'] at s2 s3 t2
      have S2 := hide' s2
      have S3 := hide' s3
      have t2' : ∀ W, (Instr.slice 22 (.slice a N cap) (some (.int .i64 (k : Int))) (some (.int .i64 ((k : Int) + (L : Int)))) none).run Try.prog W = .ok (.slice a2 d1' d2') W := t2
      have HTL : Hid (((zs.drop k).take L).length ≤ 1000000) := by
        show _ ≤ _
        rw [List.length_take, HDL.out]; omega
      obtain ⟨ws, HW⟩ : ∃ ws, Hid ((zs.drop k).take L = ws) := ⟨_, rfl⟩
      rw [HW.out] at S2 S3 HTL HLy hcmp
      have HFe2 : Hid (i + 1 ≠ 0 → Fell ws (zs.drop (k + L))) := fun _ h => by
        have := HFa.out h
        rwa [HW.out] at this
      have HB : Hid (lynB ws = true) := lynB_true HLy.out
      clear s2 s3 hcut hd1' hd2' t2 hne HFa HFe
      have q1 : decide ((L : Int) < 1) = false := by simp; omega
      have hsub : (N : Int) - (k : Int) = ((N - k : Nat) : Int) := by omega
      have q2 : decide (((N - k : Nat) : Int) < (L : Int)) = false := by simp; omega
      go_wp2_with fail
      refine (toExt (ris_any _ ws wr S2.out HTL.out)).mono ?_
      rw [HB.out]
      rintro e w2 ⟨rfl, he⟩
      have HE2 := hide' (HE.out.trans he)
      have ci2 := he.cell (p := ⟨b1, o1 + i, none⟩) (World.block_lt_of_cell? _ _ ci)
      rw [ci] at ci2
      clear he
      by_cases hi0 : i = 0
      · have z0 : decide ((0 : Int) < (i : Int)) = false := by simp; omega
        have z1 : decide (0 < i) = false := by simp; omega
        clear hi0
        go_wp2_with fail
        go_quiet (fail)
        go_wp2
        go_roundw
        case rel => exact ⟨k + L, i + 1, ws, by omega, by omega, by go_num, by go_num, HC2, S3, HTL, HFe2, HE2.out.trans (Ext.drewN _ _)⟩
        case measure => simp [intOf]; omega
      · have z0 : (0 : Int) < (i : Int) := by omega
        have z1 : 0 < i := by omega
        have hc := hcmp.out hi0
        obtain ⟨C, HCC⟩ : ∃ C, Hid (cmpI ls ws = C) := ⟨_, rfl⟩
        rw [HCC.out] at hc
        have z2 : decide (C < 0) = false := by simpa using hc
        go_wp2_with fail
        refine (toExt (words_any _ _ ls ws w2 (HLS.out.ext (X1.out.trans HE2.out)) (S3.out.ext (X1.out.trans HE2.out)) HLL.out HTL.out)).mono ?_
        rw [HCC.out]
        rintro e w3 ⟨rfl, he⟩
        have HE3 := hide' (HE2.out.trans he)
        have ci3 := he.cell (p := ⟨b1, o1 + i, none⟩) (World.block_lt_of_cell? _ _ ci2)
        rw [ci2] at ci3
        clear he
        go_wp2_with fail
        go_quiet (fail)
        go_wp2
        go_roundw
        case rel => exact ⟨k + L, i + 1, ws, by omega, by omega, by go_num, by go_num, HC2, S3, HTL, HFe2, HE3.out.trans (Ext.drewN _ _)⟩
        case measure => simp [intOf]; omega
    · have hlt' : decide ((i : Int) < F) = false := by simp; omega
      have hkN : k = N := by
        refine Classical.byContradiction fun g => ?_
        have hne : (zs.drop k).length ≠ 0 := by rw [HDL.out]; omega
        have h1 := congrArg List.length HD.out
        rw [facL_cons hne, List.length_drop, HFN.out, List.length_cons] at h1
        omega
      subst hkN
      have z0 : ((k : Int) == (k : Int)) = true := by simp
      go_wp2_with fail
      refine (known_any _).mono ?_
      rintro e w2 ⟨rfl, he⟩
      have Y2 := hide' ((X1.out.trans HE.out).trans he)
      clear he
      go_wp2
      go_ret
      exact ⟨rfl, Y2.out⟩
end Go.Proofs.Ytlnpgdjmcdhpbaa
