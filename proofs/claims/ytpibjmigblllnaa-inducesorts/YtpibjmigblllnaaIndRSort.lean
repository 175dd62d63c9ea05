/- Contract of the document's own Sort: whorlref12.Sort. -/
import Derived.Test.YtpibjmigblllnaaIndWorld
import Derived.Test.YtpibjmigblllnaaIndSort
import Derived.Test.YtpibjmigblllnaaIndRMay
import Derived.Test.YtpibjmigblllnaaIndREnds
import Derived.Test.YtpibjmigblllnaaBktRCounts
import Derived.Test.YtpibjmigblllnaaKinRSmall
namespace Go.Proofs.Ytpibjmigblllnaa
set_option linter.unusedVariables false
set_option linter.unusedSimpArgs false
open Go.RowKit

set_option maxRecDepth 100000 in
set_option maxHeartbeats 4000000 in
theorem rsort_any (sv fv : Value) (s fs : List Int) (k : Int) (w : World) (hs : Sl .i64 w sv s) (hf : Sl .i64 w fv fs) (hlen : s.length ≤ 100000) (hlen2 : fs.length ≤ 100000) (hk : k ≤ 1000000 ∨ 1048576 < k) :
    Calls Try.prog 8 #[sv, .int .i64 k, fv] w fun e w' => ∃ u, e = .returned (.tuple #[u, .bool (sortB s k fs)]) ∧ Own .i64 3 w.heap.size w' u (sortI s k fs) ∧ Ext w w' := by
  have HV := hide' hs
  have HFV := hide' hf
  have HLEN : Hid (s.length ≤ 1000000) := by show _ ≤ _; omega
  have HLE2 := hide' hlen2
  obtain ⟨a, c, rfl, _⟩ := hs
  obtain ⟨a', c', rfl, _⟩ := hf
  by_cases hfit : fitB s k = true
  rotate_left
  · have HB : Hid (sortB s k fs = false) := by
      show _ = _
      unfold sortB
      rw [Bool.eq_false_iff.2 hfit]
      rfl
    have HI := hide' (sortI_no HB.out)
    have HF : Hid (fitB s k = false) := Bool.eq_false_iff.2 hfit
    rw [HI.out, HB.out]
    clear hfit hk
    go_enter Try.func8, Try.ntmps8
    go_wp2_with fail
    refine (rcounts_any _ s k w HV.out HLEN.out).mono ?_
    rw [HF.out]
    rintro e w1 ⟨s1, rfl, _, he⟩
    have X1 := hide' he
    clear he
    go_wp2
    go_ret2
    exact ⟨_, rfl, Own.nil _ _ _ _, X1.out⟩
  · have HF := hide' hfit
    by_cases hfir : firB s fs = true
    rotate_left
    · have HR : Hid (firB s fs = false) := Bool.eq_false_iff.2 hfir
      have HB : Hid (sortB s k fs = false) := by
        show _ = _
        unfold sortB
        rw [HR.out]
        simp
      have HI := hide' (sortI_no HB.out)
      rw [HI.out, HB.out]
      clear hfit hfir hk
      go_enter Try.func8, Try.ntmps8
      go_wp2_with fail
      refine (rcounts_any _ s k w HV.out HLEN.out).mono ?_
      rw [HF.out]
      rintro e w1 ⟨s1, rfl, _, he⟩
      have X1 := hide' he
      clear he
      go_wp2_with fail
      refine (rmay_any _ _ s fs w1 (HV.out.ext X1.out) (HFV.out.ext X1.out) HLEN.out HLE2.out).mono ?_
      rw [HR.out]
      rintro e w2 ⟨rfl, he⟩
      have X2 := hide' (X1.out.trans he)
      clear he
      go_wp2
      go_ret2
      exact ⟨_, rfl, Own.nil _ _ _ _, X2.out⟩
    · have HR := hide' hfir
      have HB : Hid (sortB s k fs = true) := sortB_iff.2 ⟨hfit, hfir⟩
      obtain ⟨hnat, hfst⟩ := firB_nat hfir
      have HNT := hide' hnat
      obtain ⟨h0, h1, _⟩ := fitB_iff.1 hfit
      obtain ⟨K, rfl⟩ := Int.eq_ofNat_of_zero_le h0
      have HCC : Hid (countsI s (K : Int) = natL (cntsI s K)) := countsI_yes hfit
      have HFT : Hid (Fits s K) := Fits.of hfit
      have HI : Hid (sortI s (K : Int) fs = indI s K (toN fs)) := by show _ = _; rw [sortI_yes HB.out, Int.toNat_natCast]
      have HK9 : Hid (K ≤ 1000000) := by show _ ≤ _; omega
      have HBG := hide' (starts_beg HFT.out)
      have HSB := hide' (sum_bound HFT.out HLEN.out)
      have HCL : Hid ((natL (cntsI s K)).length ≤ 1000000) := by show _ ≤ _; rw [natL_len, cntsI_len]; exact HK9.out
      obtain ⟨F, HTF⟩ : ∃ F, Hid (toN fs = F) := ⟨_, rfl⟩
      rw [HTF.out] at hfst HNT HI
      have HV2 := hide' (st2_vals HFT.out hfst)
      have e10 : Hid ((st1 s K F 0).1 = List.replicate s.length (-1)) := rfl
      have e11 : Hid ((st1 s K F 0).2 = endN s K) := rfl
      have e20 : Hid ((st2 s K F 0).1 = (st1 s K F F.length).1) := rfl
      have e21 : Hid ((st2 s K F 0).2 = begN s K) := rfl
      have e30 : Hid ((st3 s K F 0).1 = outI s (st2 s K F (s.length + 1)).1) := rfl
      have e31 : Hid ((st3 s K F 0).2 = endN s K) := rfl
      have e39 : Hid (indI s K F = (st3 s K F s.length).1) := rfl
      have OK1 : Hid (∀ m, m < F.length → (st1 s K F m).1.length = s.length ∧ (st1 s K F m).2.length = K ∧ F.getD (F.length - 1 - m) 0 < s.length ∧ keyN s (F.getD (F.length - 1 - m) 0) < K ∧
        1 ≤ (st1 s K F m).2.getD (keyN s (F.getD (F.length - 1 - m) 0)) 0 ∧ (st1 s K F m).2.getD (keyN s (F.getD (F.length - 1 - m) 0)) 0 ≤ s.length) := fun m hm => st1_ok HFT.out hfst hm
      have ST1 : Hid (∀ m, st1 s K F (m + 1) = putE s (st1 s K F m) (F.getD (F.length - 1 - m) 0)) := fun m => rfl
      have OK2 : Hid (∀ i, i ≤ s.length → (st2 s K F i).1.length = s.length ∧ (st2 s K F i).2.length = K ∧
        ∃ j : Int, (i = 0 → j = (s.length : Int)) ∧ (∀ m, i = m + 1 → (st2 s K F i).1.getD m 0 = j) ∧ -1 ≤ j ∧ j ≤ s.length ∧ st2 s K F (i + 1) = stepB s (st2 s K F i) j ∧
          ∀ p : Nat, j = ((p + 1 : Nat) : Int) → smB s p = false → keyN s p < K ∧ (st2 s K F i).2.getD (keyN s p) 0 < s.length) := fun i hi => st2_read HFT.out hfst hi
      have OK3 : Hid (∀ i, i < s.length → (st3 s K F i).1.length = s.length ∧ (st3 s K F i).2.length = K ∧ -1 ≤ (st3 s K F i).1.getD (s.length - 1 - i) 0 ∧ (st3 s K F i).1.getD (s.length - 1 - i) 0 < s.length ∧
        ∀ p : Nat, (st3 s K F i).1.getD (s.length - 1 - i) 0 = ((p + 1 : Nat) : Int) → smB s p = true → keyN s p < K ∧ 1 ≤ (st3 s K F i).2.getD (keyN s p) 0 ∧ (st3 s K F i).2.getD (keyN s p) 0 ≤ s.length) := fun i hi => st3_ok HFT.out hfst hi
      have ST3 : Hid (∀ i, st3 s K F (i + 1) = stepE s (st3 s K F i) ((st3 s K F i).1.getD (s.length - 1 - i) 0)) := fun i => rfl
      have HLB : Hid ((smallI s).length = s.length) := smallI_len s
      have HSM : Hid (∀ i, i < s.length → (smallI s).getD i false = smB s i) := fun i hi => smallI_at hi
      have HAT : Hid (∀ i, i < s.length → (outI s (st2 s K F (s.length + 1)).1).getD i 0 = if 0 ≤ (st2 s K F (s.length + 1)).1.getD i 0 ∧ smB s ((st2 s K F (s.length + 1)).1.getD i 0).toNat = true then -1 else (st2 s K F (s.length + 1)).1.getD i 0) := fun i hi => outI_at s _ (by rw [HV2.out.1]; exact hi)
      have HOUL : Hid ((outI s (st2 s K F (s.length + 1)).1).length = s.length) := by show _ = _; rw [outI_len, HV2.out.1]
      have HNUM : Hid (∀ p, p < s.length → s.getD p 0 = (keyN s p : Int)) := fun p hp => HFT.out.num p hp
      obtain ⟨L, HL⟩ : ∃ n, Hid (F.length = n) := ⟨_, rfl⟩
      have hLn : L ≤ s.length := by
        have := hfst.perm.length_eq
        rw [HL.out] at this
        rw [this]
        exact firN_len _ _
      have HNL : Hid (fs.length = L) := by show _ = _; rw [← HNT.out, natL_len, HL.out]
      rw [HI.out, HB.out, e39.out]
      rw [← HNT.out] at HFV
      rw [show (natL F).length = L by rw [natL_len, HL.out]] at HFV
      rw [HL.out] at OK1 ST1 e20
      have FVS : Hid (∀ w', Ext w w' → Sl .i64 w' (.slice a' L c') fs) := fun w' he => by
        have := HFV.out.ext he
        rw [HNT.out] at this
        exact this
      clear hfit hfir hfst hnat h0 h1 hk HI e39
      rw [HNL.out] at HLE2 ⊢
      obtain ⟨n, HN⟩ : ∃ n, Hid (s.length = n) := ⟨_, rfl⟩
      rw [HN.out] at HV HLEN HV2 e10 e30 OK1 OK2 OK3 ST3 HLB HSM HAT HOUL HNUM hLn hlen ⊢
      go_enter Try.func8, Try.ntmps8
      go_wp2_with fail
      refine (rcounts_any _ s (K : Int) w HV.out (by rw [HN.out]; exact HLEN.out)).mono ?_
      rw [HF.out, HCC.out]
      rintro e w1 ⟨s1, rfl, ho, he⟩
      have S1 := hide' ho.sl
      have X1 := hide' he
      clear ho he
      go_wp2_with fail
      refine (rmay_any _ _ s fs w1 (HV.out.ext X1.out) (FVS.out w1 X1.out) (by rw [HN.out]; exact HLEN.out) (by rw [HNL.out]; exact HLE2.out)).mono ?_
      rw [HR.out]
      rintro e w2 ⟨rfl, he⟩
      have S2 := hide' (S1.out.ext he)
      have X2 := hide' (X1.out.trans he)
      clear he S1 X1 HF HR HCC
      go_wp2_with fail
      refine (rsmall_any _ s w2 (HV.out.ext X2.out) (by rw [HN.out]; exact HLEN.out)).mono ?_
      rintro e w0 ⟨s2, rfl, ho, he⟩
      have SB := hide' ho.sl
      have S3 := hide' (S2.out.ext he)
      have X3 := hide' (X2.out.trans he)
      have VS := hide' (HV.out.ext X3.out)
      have VF := hide' (HFV.out.ext X3.out)
      have hsz : w.heap.size ≤ w0.heap.size := X3.out.size
      clear ho he S2 X2 HV HFV FVS
      obtain ⟨ba, bc, hbv, _⟩ := SB.out
      rw [HLB.out] at hbv
      subst hbv
      obtain ⟨_, _, _, hcv⟩ := SB.out.truth
      have CB := hide' hcv
      clear hcv
      obtain ⟨_, _, _, hcv⟩ := VS.out.int
      have CS := hide' hcv
      clear hcv
      obtain ⟨_, _, _, hcv⟩ := VF.out.nat
      have CF := hide' hcv
      clear hcv VF SB
      obtain ⟨w3, hmk, ho, he⟩ := make_intsB w0 n (by have := HLEN.out; omega)
      have OR := hide' ho
      have X4 := hide' he
      clear ho he
      go_wp2
      clear hmk
      obtain ⟨g, HG⟩ : ∃ g, Hid (w0.heap.size = g) := ⟨_, rfl⟩
      have hg0 : w0.heap.size ≤ g := by rw [HG.out]; exact Nat.le_refl _
      rw [HG.out] at OR hsz ⊢
      go_loopw [13] (fun vi wr => ∃ (i : Nat) (bs : List Int), i ≤ n ∧ vi = .int .i64 i ∧ Hid (bs.length = n) ∧ Hid (∀ j, j < i → bs.getD j 0 = -1) ∧
        Hid (Own .i64 3 g wr (.slice (some ⟨g, 0, none⟩) n n) bs) ∧ Hid (Ext w0 wr)) (fun vi _ => n - (intOf vi).toNat)
      case atStart => exact ⟨0, List.replicate n 0, Nat.zero_le _, rfl, List.length_replicate, (fun j hj => by omega), OR, X4⟩
      case round =>
        clear OR X4
        obtain ⟨i, bs, hi, rfl, HBL, HBB, OR, X4⟩ := hrel
        by_cases hlt : i < n
        · have hlt' : (i : Int) < n := by omega
          have hfz := OR.out.frozen HBL.out i
          have hci := OR.out.cell HBL.out i hlt
          have OR2 := hide' (OR.out.store HBL.out i (-1))
          go_wp2
          go_roundw
          case rel =>
            refine ⟨i + 1, bs.set i (-1), by omega, by go_num, (show _ = _ by rw [List.length_set]; exact HBL.out), fun j hj => ?_, OR2, Ext.but X4.out hg0 (but_set _ _ _ _)⟩
            by_cases hji : j = i
            · subst hji; rw [setI_same (by rw [HBL.out]; exact hlt)]
            · rw [setI_other (by omega), HBB.out j (by omega)]
          case measure => simp [intOf]; omega
        · have hlt' : decide ((i : Int) < n) = false := by simp; omega
          have hin : n = i := by omega
          have HQ : Hid (bs = (st1 s K F 0).1) := by
            show _ = _
            rw [e10.out]
            refine getD_ext (by rw [HBL.out, List.length_replicate]) fun j hj => ?_
            rw [HBL.out] at hj
            rw [HBB.out j (by omega)]
            simp [List.getD, hj]
          have OR1 : Hid (Own .i64 3 g wr (.slice (some ⟨g, 0, none⟩) n n) (st1 s K F 0).1) := by rw [← HQ.out]; exact OR.out
          have hgw : g < wr.heap.size := (World.ownsRow.lt OR.out g rfl).2
          clear HQ HBB HBL OR e10
          subst hin
          go_wp2_with fail
          refine (rends_any _ s K wr HFT.out (S3.out.ext X4.out) HK9.out (by rw [HN.out]; exact HLEN.out)).mono ?_
          rw [← e11.out]
          rintro e w5 ⟨s3, rfl, ho, he⟩
          have OE := hide' ho
          have OR5 := hide' (OR1.out.ext he)
          have X5 := hide' (X4.out.trans he)
          clear ho he OR1 X4 hlt'
          generalize wr.heap.size = B2 at *
          have hw1 : IntKind.i64.wrap ((L : Int) - 1) = (L : Int) - 1 := by rw [IntKind.wrap_i64]; omega
          go_wp2
          go_loopw [15] (fun vi wr => ∃ (m : Nat) (x : Int), m ≤ L ∧ vi = .int .i64 x ∧ Hid (x = (L : Int) - 1 - m) ∧ Hid (Own .i64 3 g wr (.slice (some ⟨g, 0, none⟩) n n) (st1 s K F m).1) ∧
            Hid (Own .i64 3 B2 wr s3 (natL (st1 s K F m).2)) ∧ Hid (Ext w0 wr)) (fun vi _ => (intOf vi + 1).toNat)
          case atStart => exact ⟨0, (L : Int) - 1, Nat.zero_le _, by first | rfl | rw [hw1], (show _ = _ by simp), OR5, OE, X5⟩
          case round =>
            clear OR5 OE X5
            obtain ⟨m, x, hm, rfl, HX, O1, O2, HE⟩ := hrel
            by_cases hlt : m < L
            · obtain ⟨i1, HI⟩ : ∃ i, Hid (L - 1 - m = i) := ⟨_, rfl⟩
              have hxi : x = (i1 : Int) := by have := HX.out; have := HI.out; omega
              subst hxi
              have hiL : i1 < L := by have := HI.out; omega
              have hiL' : (i1 : Int) < L := by omega
              have hi0 : (0 : Int) ≤ i1 := by omega
              obtain ⟨q1, q2, q3, q4, q5, q6⟩ := OK1.out m hlt
              have HS1 := hide' (ST1.out m)
              rw [HI.out] at q3 q4 q5 q6 HS1
              obtain ⟨g1, o1, rfl, k1⟩ := CF.out (by omega)
              have c1 := HE.out.cellOf (k1 i1 hiL)
              have C1 := hide' (k1 i1 hiL)
              clear k1
              obtain ⟨p, HP⟩ : ∃ p, Hid (F.getD i1 0 = p) := ⟨_, rfl⟩
              rw [HP.out] at c1 C1 q3 q4 q5 q6 HS1
              obtain ⟨g2, o2, rfl, k2⟩ := CS.out (by omega)
              have c2 := HE.out.cellOf (k2 p q3)
              rw [HNUM.out p q3] at c2
              clear k2
              have q3' : (p : Int) < n := by omega
              obtain ⟨h, cap, hev, hh, hcap⟩ := O2.out.shape (fun e => by
                have : (natL (st1 s K F m).2).length = 0 := by rw [e]; rfl
                rw [natL_len] at this
                omega)
              rw [natL_len, q2] at hev
              subst hev
              obtain ⟨q, t, f, y, HQ, hq, hf, htf, htn, c3, z3, c4, c5, z5, HLD⟩ := putE_world g B2 g h n K cap p s (st1 s K F m) wr O1.out O2.out (by omega) q1 q2 q4 q5 q6
              rw [← HS1.out] at HLD
              rw [HQ.out] at c2
              have hq' : (q : Int) < K := by omega
              have hf' : (f : Int) < n := by omega
              have c6 := (HE.out.trans (Ext.refl _)).cellOf C1.out
              have hne6 : Hid (Ext w0 (wr.setCell ⟨h, q, none⟩ (.int .i64 (f : Int)))) := Ext.but HE.out (by omega) (but_set wr h q _)
              have c7 := hne6.out.cellOf C1.out
              clear q1 q2 q4 q5 q6 hcap c6 hne6
              have hi1 : IntKind.i64.wrap ((i1 : Int) - 1) = (i1 : Int) - 1 := by rw [IntKind.wrap_i64]; omega
              have P1 := hide' (HLD.out.drew 1)
              go_wp2_with fail
              go_big_region
              have R1 := hide' P1.out.1
              have R2 := hide' P1.out.2.1
              have RE := hide' (P1.out.2.2 w0 HE.out hg0 (by omega))
              clear P1 HLD O1 O2 c1 c2 c3 c4 c5 c7 z3 z5
              go_wp2
              go_roundw
              case rel => exact ⟨m + 1, (i1 : Int) - 1, by omega, by first | rfl | rw [hi1], (show _ = _ by have := HX.out; omega), R1, R2, RE⟩
              case measure => simp [intOf] <;> omega
            · have hm2 : L = m := by omega
              subst hm2
              have hx : x = -1 := by have := HX.out; omega
              subst hx
              have O1' : Hid (Own .i64 3 g wr (.slice (some ⟨g, 0, none⟩) n n) (st2 s K F 0).1) := by rw [e20.out]; exact O1.out
              have hgw : g < wr.heap.size := (World.ownsRow.lt O1.out g rfl).2
              clear O1 O2 HX
              go_wp2_with fail
              refine (rstarts_any _ _ wr (S3.out.ext HE.out) HCL.out HSB.out).mono ?_
              rw [HBG.out, ← e21.out]
              rintro e w7 ⟨s4, rfl, ho, he⟩
              have OE := hide' ho
              have OR7 := hide' (O1'.out.ext he)
              have X7 := hide' (HE.out.trans he)
              clear ho he O1' HE
              generalize wr.heap.size = B3 at *
              go_wp2
              go_loopw [18] (fun vi wr => ∃ (i3 : Nat) (x : Int), i3 ≤ n + 1 ∧ vi = .int .i64 x ∧ Hid (x = (i3 : Int) - 1) ∧ Hid (Own .i64 3 g wr (.slice (some ⟨g, 0, none⟩) n n) (st2 s K F i3).1) ∧
                Hid (Own .i64 3 B3 wr s4 (natL (st2 s K F i3).2)) ∧ Hid (Ext w0 wr)) (fun vi _ => (n - intOf vi).toNat)
              case atStart => exact ⟨0, -1, Nat.zero_le _, rfl, (show _ = _ by simp), OR7, OE, X7⟩
              case round =>
                clear OR7 OE X7
                obtain ⟨i3, x, hi3, rfl, HX, O1, O2, HE⟩ := hrel
                by_cases hlt : i3 ≤ n
                · obtain ⟨q1, q2, j, hj1, hj2, v1, v2, hst, hok⟩ := OK2.out i3 hlt
                  have HLT := hide' hlt
                  have HS1 := hide' hst
                  have HO := hide' hok
                  have HQ1 := hide' q1
                  have HQ2 := hide' q2
                  clear hst hok q1 q2
                  by_cases hi0 : i3 = 0
                  · have hjn := hj1 hi0
                    have hxn : x = -1 := by have := HX.out; omega
                    have HI0 := hide' hi0
                    subst hxn
                    have hn1 : (-1 : Int) < n := by omega
                    clear hj1 hj2 hi0 hlt
                    subst hjn
                    by_cases h0 : (n : Int) ≤ 0
                    · have d1 : decide (0 < (n : Int)) = false := by simp; omega
                      rw [stepB_no h0] at HS1
                      have R1 : Hid (Own .i64 3 g wr (.slice (some ⟨g, 0, none⟩) n n) (st2 s K F (i3 + 1)).1) := by rw [HS1.out]; exact O1.out
                      have R2 : Hid (Own .i64 3 B3 wr s4 (natL (st2 s K F (i3 + 1)).2)) := by rw [HS1.out]; exact O2.out
                      clear v1 v2
                      go_wp2
                      go_roundw
                      case rel => exact ⟨i3 + 1, 0, by have := HLT.out; omega, by first | rfl | go_num, (show _ = _ by rw [HI0.out]; rfl), R1, R2, HE⟩
                      case measure => simp [intOf] <;> omega
                    · obtain ⟨p, HP⟩ : ∃ p : Nat, Hid ((n : Int) = ((p + 1 : Nat) : Int)) := ⟨((n : Int) - 1).toNat, by show _ = _; omega⟩
                      have hj0 : (0 : Int) < n := by omega
                      have hjp : (n : Int) - 1 = (p : Int) := by have := HP.out; omega
                      have hpn : p < n := by have := HP.out; omega
                      have hpn' : (p : Int) < n := by omega
                      obtain ⟨g1, o1, rfl, k1⟩ := CB.out (by omega)
                      have c2 := HE.out.cellOf (k1 p hpn)
                      rw [HSM.out p hpn] at c2
                      clear k1 v1 v2 h0
                      cases hsp : smB s p
                      rotate_left
                      · rw [hsp] at c2
                        rw [HP.out, stepB_small hsp] at HS1
                        have R1 : Hid (Own .i64 3 g wr (.slice (some ⟨g, 0, none⟩) n n) (st2 s K F (i3 + 1)).1) := by rw [HS1.out]; exact O1.out
                        have R2 : Hid (Own .i64 3 B3 wr s4 (natL (st2 s K F (i3 + 1)).2)) := by rw [HS1.out]; exact O2.out
                        clear hsp
                        go_wp2
                        go_roundw
                        case rel => exact ⟨i3 + 1, 0, by have := HLT.out; omega, by first | rfl | go_num, (show _ = _ by rw [HI0.out]; rfl), R1, R2, HE⟩
                        case measure => simp [intOf] <;> omega
                      · rw [hsp] at c2
                        rw [HP.out, stepB_yes hsp] at HS1
                        obtain ⟨k1, k2⟩ := HO.out p HP.out hsp
                        obtain ⟨g2, o2, rfl, k3⟩ := CS.out (by omega)
                        have c3 := HE.out.cellOf (k3 p hpn)
                        rw [HNUM.out p hpn] at c3
                        clear k3
                        obtain ⟨h, cap, hev, hh, hcap⟩ := O2.out.shape (fun e => by
                          have : (natL (st2 s K F i3).2).length = 0 := by rw [e]; rfl
                          rw [natL_len, HQ2.out] at this
                          omega)
                        rw [natL_len, HQ2.out] at hev
                        subst hev
                        obtain ⟨q, f, y, HQ, hq, hf, c4, z4, c5, c6, z6, HLD⟩ := putB_world g B3 g h n K cap p s (st2 s K F i3) wr O1.out O2.out (by omega) HQ1.out HQ2.out k1 k2
                        rw [← HS1.out] at HLD
                        rw [HQ.out] at c3
                        have hq' : (q : Int) < K := by omega
                        have hf' : (f : Int) < n := by omega
                        have R1 := hide' HLD.out.1
                        have R2 := hide' HLD.out.2.1
                        have RE := hide' (HLD.out.2.2 w0 HE.out hg0 (by omega))
                        clear hsp k1 k2 O1 O2 hcap HLD
                        go_wp2
                        go_roundw
                        case rel => exact ⟨i3 + 1, 0, by have := HLT.out; omega, by first | rfl | go_num, (show _ = _ by rw [HI0.out]; rfl), R1, R2, RE⟩
                        case measure => simp [intOf] <;> omega
                  · obtain ⟨m3, HM3⟩ : ∃ m, Hid (i3 = m + 1) := ⟨i3 - 1, by show _ = _; omega⟩
                    have hxm : x = (m3 : Int) := by have := HX.out; have := HM3.out; omega
                    have HCJ := hide' (hj2 m3 HM3.out)
                    subst hxm
                    have hmn : m3 < n := by have := HM3.out; omega
                    have hmn' : (m3 : Int) < n := by omega
                    have hm0 : (0 : Int) ≤ m3 := by omega
                    have c1 := O1.out.cell HQ1.out m3 hmn
                    rw [HCJ.out] at c1
                    have HX3 : Hid ((m3 : Int) + 1 = ((i3 + 1 : Nat) : Int) - 1) := by show _ = _; have := HM3.out; omega
                    clear hj1 hj2 hi0 hlt
                    by_cases h0 : j ≤ 0
                    · have d1 : decide (0 < j) = false := by simp; omega
                      rw [stepB_no h0] at HS1
                      have R1 : Hid (Own .i64 3 g wr (.slice (some ⟨g, 0, none⟩) n n) (st2 s K F (i3 + 1)).1) := by rw [HS1.out]; exact O1.out
                      have R2 : Hid (Own .i64 3 B3 wr s4 (natL (st2 s K F (i3 + 1)).2)) := by rw [HS1.out]; exact O2.out
                      clear v1 v2
  
                      go_wp2
                      go_roundw
                      case rel => exact ⟨i3 + 1, (m3 : Int) + 1, by have := HLT.out; omega, by first | rfl | go_num, (show _ = _ by exact HX3.out), R1, R2, HE⟩
                      case measure => simp [intOf] <;> omega
                    · obtain ⟨p, HP⟩ : ∃ p : Nat, Hid (j = ((p + 1 : Nat) : Int)) := ⟨(j - 1).toNat, by show _ = _; omega⟩
                      have hj0 : 0 < j := by omega
                      have hjp : j - 1 = (p : Int) := by have := HP.out; omega
                      have hpn : p < n := by have := HP.out; omega
                      have hpn' : (p : Int) < n := by omega
                      obtain ⟨g1, o1, rfl, k1⟩ := CB.out (by omega)
                      have c2 := HE.out.cellOf (k1 p hpn)
                      rw [HSM.out p hpn] at c2
                      clear k1 v1 v2 h0
                      cases hsp : smB s p
                      rotate_left
                      · rw [hsp] at c2
                        rw [HP.out, stepB_small hsp] at HS1
                        have R1 : Hid (Own .i64 3 g wr (.slice (some ⟨g, 0, none⟩) n n) (st2 s K F (i3 + 1)).1) := by rw [HS1.out]; exact O1.out
                        have R2 : Hid (Own .i64 3 B3 wr s4 (natL (st2 s K F (i3 + 1)).2)) := by rw [HS1.out]; exact O2.out
                        clear hsp
                        go_wp2
                        go_roundw
                        case rel => exact ⟨i3 + 1, (m3 : Int) + 1, by have := HLT.out; omega, by first | rfl | go_num, (show _ = _ by exact HX3.out), R1, R2, HE⟩
                        case measure => simp [intOf] <;> omega
                      · rw [hsp] at c2
                        rw [HP.out, stepB_yes hsp] at HS1
                        obtain ⟨k1, k2⟩ := HO.out p HP.out hsp
                        obtain ⟨g2, o2, rfl, k3⟩ := CS.out (by omega)
                        have c3 := HE.out.cellOf (k3 p hpn)
                        rw [HNUM.out p hpn] at c3
                        clear k3
                        obtain ⟨h, cap, hev, hh, hcap⟩ := O2.out.shape (fun e => by
                          have : (natL (st2 s K F i3).2).length = 0 := by rw [e]; rfl
                          rw [natL_len, HQ2.out] at this
                          omega)
                        rw [natL_len, HQ2.out] at hev
                        subst hev
                        obtain ⟨q, f, y, HQ, hq, hf, c4, z4, c5, c6, z6, HLD⟩ := putB_world g B3 g h n K cap p s (st2 s K F i3) wr O1.out O2.out (by omega) HQ1.out HQ2.out k1 k2
                        rw [← HS1.out] at HLD
                        rw [HQ.out] at c3
                        have hq' : (q : Int) < K := by omega
                        have hf' : (f : Int) < n := by omega
                        have R1 := hide' HLD.out.1
                        have R2 := hide' HLD.out.2.1
                        have RE := hide' (HLD.out.2.2 w0 HE.out hg0 (by omega))
                        clear hsp k1 k2 O1 O2 hcap HLD
                        go_wp2
                        go_roundw
                        case rel => exact ⟨i3 + 1, (m3 : Int) + 1, by have := HLT.out; omega, by first | rfl | go_num, (show _ = _ by exact HX3.out), R1, R2, RE⟩
                        case measure => simp [intOf] <;> omega
                · have hi3n : i3 = n + 1 := by omega
                  have hxn : x = (n : Int) := by have := HX.out; omega
                  subst hxn
                  subst hi3n
                  have dnn : decide ((n : Int) < n) = false := by simp
                  clear O2 hi3 hlt
                  go_wp2
                  go_loopw [21] (fun vi wr => ∃ (i4 : Nat) (bs : List Int), i4 ≤ n ∧ vi = .int .i64 i4 ∧ Hid (bs.length = n) ∧ Hid (∀ j, j < i4 → bs.getD j 0 = (outI s (st2 s K F (n + 1)).1).getD j 0) ∧ Hid (∀ j, i4 ≤ j → bs.getD j 0 = (st2 s K F (n + 1)).1.getD j 0) ∧
                    Hid (Own .i64 3 g wr (.slice (some ⟨g, 0, none⟩) n n) bs) ∧ Hid (Ext w0 wr)) (fun vi _ => n - (intOf vi).toNat)
                  case atStart => exact ⟨0, _, Nat.zero_le _, rfl, HV2.out.1, (fun j hj => by omega), (fun j _ => rfl), O1, HE⟩
                  case round =>
                    clear O1 HE
                    obtain ⟨i4, bs, hi4, rfl, HBL, HA, HC, O1, HE⟩ := hrel
                    by_cases hlt : i4 < n
                    · have hlt' : (i4 : Int) < n := by omega
                      have hci := O1.out.cell HBL.out i4 hlt
                      rw [HC.out i4 (Nat.le_refl _)] at hci
                      obtain ⟨hv1, hv2⟩ := HV2.out.2 i4 hlt
                      have HX4 := hide' (HAT.out i4 hlt)
                      obtain ⟨j, HJ⟩ : ∃ j, Hid ((st2 s K F (n + 1)).1.getD i4 0 = j) := ⟨_, rfl⟩
                      rw [HJ.out] at hci hv1 hv2 HX4
                      by_cases h0 : j < 0
                      · have d1 : decide (0 ≤ j) = false := by simp; omega
                        have HX2 : Hid ((outI s (st2 s K F (n + 1)).1).getD i4 0 = j) := by show _ = _; rw [HX4.out, if_neg (by omega)]
                        clear hv1 hv2
                        go_wp2
                        go_roundw
                        case rel =>
                          refine ⟨i4 + 1, bs, by omega, by go_num, HBL, fun j hj => ?_, fun j hj => HC.out j (by omega), O1, HE⟩
                          by_cases hji : j = i4
                          · subst hji; rw [HC.out j (Nat.le_refl _), HJ.out, HX2.out]
                          · exact HA.out j (by omega)
                        case measure => simp [intOf] <;> omega
                      · obtain ⟨p, rfl⟩ := Int.eq_ofNat_of_zero_le (show 0 ≤ j by omega)
                        have hpn : p < n := by omega
                        have hp0 : (0 : Int) ≤ p := by omega
                        obtain ⟨g1, o1, rfl, k1⟩ := CB.out (by omega)
                        have c1 := HE.out.cellOf (k1 p hpn)
                        rw [HSM.out p hpn] at c1
                        clear k1
                        cases hs : smB s p
                        · rw [hs] at c1
                          have HX2 : Hid ((outI s (st2 s K F (n + 1)).1).getD i4 0 = (p : Int)) := by show _ = _; rw [HX4.out, if_neg (by rw [Int.toNat_natCast, hs]; simp)]
                          clear hs h0
                          go_wp2
                          go_roundw
                          case rel =>
                            refine ⟨i4 + 1, bs, by omega, by go_num, HBL, fun j hj => ?_, fun j hj => HC.out j (by omega), O1, HE⟩
                            by_cases hji : j = i4
                            · subst hji; rw [HC.out j (Nat.le_refl _), HJ.out, HX2.out]
                            · exact HA.out j (by omega)
                          case measure => simp [intOf] <;> omega
                        · rw [hs] at c1
                          have HX2 : Hid ((outI s (st2 s K F (n + 1)).1).getD i4 0 = -1) := by show _ = _; rw [HX4.out, if_pos ⟨by omega, by rw [Int.toNat_natCast, hs]⟩]
                          have hfz := O1.out.frozen HBL.out i4
                          have P1 := hide' (O1.out.store HBL.out i4 (-1))
                          clear hs h0
                          go_wp2
                          go_roundw
                          case rel =>
                            refine ⟨i4 + 1, bs.set i4 (-1), by omega, by go_num, (show _ = _ by rw [List.length_set]; exact HBL.out), fun j hj => ?_, fun j hj => ?_, P1, Ext.but HE.out hg0 (but_set _ _ _ _)⟩
                            · by_cases hji : j = i4
                              · subst hji; rw [setI_same (by rw [HBL.out]; exact hlt), HX2.out]
                              · rw [setI_other (by omega)]; exact HA.out j (by omega)
                            · rw [setI_other (by omega)]; exact HC.out j (by omega)
                          case measure => simp [intOf] <;> omega
                    · have hlt' : decide ((i4 : Int) < n) = false := by simp; omega
                      have hin : n = i4 := by omega
                      have HQ : Hid (bs = (st3 s K F 0).1) := by
                        show _ = _
                        rw [e30.out]
                        refine getD_ext (by rw [HBL.out, HOUL.out]) fun j hj => ?_
                        rw [HBL.out] at hj
                        exact HA.out j (by omega)
                      have O1' : Hid (Own .i64 3 g wr (.slice (some ⟨g, 0, none⟩) n n) (st3 s K F 0).1) := by rw [← HQ.out]; exact O1.out
                      have hgw2 : g < wr.heap.size := (World.ownsRow.lt O1.out g rfl).2
                      clear HQ HA HC HBL O1
                      subst hin
                      go_wp2_with fail
                      refine (rends_any _ s K wr HFT.out (S3.out.ext HE.out) HK9.out (by rw [HN.out]; exact HLEN.out)).mono ?_
                      rw [← e31.out]
                      rintro e w9 ⟨s5, rfl, ho, he⟩
                      have OE := hide' ho
                      have OR9 := hide' (O1'.out.ext he)
                      have X9 := hide' (HE.out.trans he)
                      clear ho he O1' HE
                      generalize wr.heap.size = B4 at *
                      have hw1 : IntKind.i64.wrap ((n : Int) - 1) = (n : Int) - 1 := by rw [IntKind.wrap_i64]; omega
                      go_wp2
                      go_loopw [22] (fun vi wr => ∃ (m : Nat) (x : Int), m ≤ n ∧ vi = .int .i64 x ∧ Hid (x = (n : Int) - 1 - m) ∧ Hid (Own .i64 3 g wr (.slice (some ⟨g, 0, none⟩) n n) (st3 s K F m).1) ∧
                        Hid (Own .i64 3 B4 wr s5 (natL (st3 s K F m).2)) ∧ Hid (Ext w0 wr)) (fun vi _ => (intOf vi + 1).toNat)
                      case atStart => exact ⟨0, (n : Int) - 1, Nat.zero_le _, by first | rfl | rw [hw1], (show _ = _ by simp), OR9, OE, X9⟩
                      case round =>
                        clear OR9 OE X9
                        obtain ⟨m, x, hm, rfl, HX5, O1, O2, HE⟩ := hrel
                        by_cases hlt5 : m < n
                        · obtain ⟨i5, HI⟩ : ∃ i, Hid (n - 1 - m = i) := ⟨_, rfl⟩
                          have hxi : x = (i5 : Int) := by have := HX5.out; have := HI.out; omega
                          subst hxi
                          have hiL : i5 < n := by have := HI.out; omega
                          have hiL' : (i5 : Int) < n := by omega
                          have hi0 : (0 : Int) ≤ i5 := by omega
                          obtain ⟨q1, q2, v1, v2, hok⟩ := OK3.out m hlt5
                          have HS1 := hide' (ST3.out m)
                          have HO := hide' hok
                          have HQ1 := hide' q1
                          have HQ2 := hide' q2
                          have c1 := O1.out.cell q1 i5 hiL
                          rw [HI.out] at v1 v2 HO HS1
                          clear hok q1 q2
                          obtain ⟨j, HJ⟩ : ∃ j, Hid ((st3 s K F m).1.getD i5 0 = j) := ⟨_, rfl⟩
                          rw [HJ.out] at c1 v1 v2 HS1 HO
                          have hi1 : IntKind.i64.wrap ((i5 : Int) - 1) = (i5 : Int) - 1 := by rw [IntKind.wrap_i64]; omega
                          by_cases h0 : j ≤ 0
                          · have d1 : decide (0 < j) = false := by simp; omega
                            rw [stepE_no h0] at HS1
                            have R1 : Hid (Own .i64 3 g wr (.slice (some ⟨g, 0, none⟩) n n) (st3 s K F (m + 1)).1) := by rw [HS1.out]; exact O1.out
                            have R2 : Hid (Own .i64 3 B4 wr s5 (natL (st3 s K F (m + 1)).2)) := by rw [HS1.out]; exact O2.out
                            clear h0 v1 v2
                            go_wp2
                            go_roundw
                            case rel => exact ⟨m + 1, (i5 : Int) - 1, by omega, by first | rfl | rw [hi1], (show _ = _ by have := HX5.out; omega), R1, R2, HE⟩
                            case measure => simp [intOf] <;> omega
                          · obtain ⟨p, HP⟩ : ∃ p : Nat, Hid (j = ((p + 1 : Nat) : Int)) := ⟨(j - 1).toNat, by show _ = _; omega⟩
                            have hj0 : 0 < j := by omega
                            have hjp : j - 1 = (p : Int) := by have := HP.out; omega
                            have hpn : p < n := by have := HP.out; omega
                            have hpn' : (p : Int) < n := by omega
                            obtain ⟨g1, o1, rfl, k1⟩ := CB.out (by omega)
                            have c2 := HE.out.cellOf (k1 p hpn)
                            rw [HSM.out p hpn] at c2
                            clear k1 v1 v2 h0
                            cases hsp : smB s p
                            · rw [hsp] at c2
                              rw [HP.out, stepE_large hsp] at HS1
                              have R1 : Hid (Own .i64 3 g wr (.slice (some ⟨g, 0, none⟩) n n) (st3 s K F (m + 1)).1) := by rw [HS1.out]; exact O1.out
                              have R2 : Hid (Own .i64 3 B4 wr s5 (natL (st3 s K F (m + 1)).2)) := by rw [HS1.out]; exact O2.out
                              clear hsp
                              go_wp2
                              go_roundw
                              case rel => exact ⟨m + 1, (i5 : Int) - 1, by omega, by first | rfl | rw [hi1], (show _ = _ by have := HX5.out; omega), R1, R2, HE⟩
                              case measure => simp [intOf] <;> omega
                            · rw [hsp] at c2
                              rw [HP.out, stepE_yes hsp] at HS1
                              obtain ⟨k1, k2, k3⟩ := HO.out p HP.out hsp
                              obtain ⟨g2, o2, rfl, k4⟩ := CS.out (by omega)
                              have c3 := HE.out.cellOf (k4 p hpn)
                              rw [HNUM.out p hpn] at c3
                              clear k4
                              obtain ⟨h, cap, hev, hh, hcap⟩ := O2.out.shape (fun e => by
                                have : (natL (st3 s K F m).2).length = 0 := by rw [e]; rfl
                                rw [natL_len, HQ2.out] at this
                                omega)
                              rw [natL_len, HQ2.out] at hev
                              subst hev
                              obtain ⟨q, t, f, y, HQ, hq, hf, htf, htn, c4, z4, c5, c6, z6, HLD⟩ := putE_world g B4 g h n K cap p s (st3 s K F m) wr O1.out O2.out (by omega) HQ1.out HQ2.out k1 k2 k3
                              rw [← HS1.out] at HLD
                              rw [HQ.out] at c3
                              have hq' : (q : Int) < K := by omega
                              have hf' : (f : Int) < n := by omega
                              have R1 := hide' HLD.out.1
                              have R2 := hide' HLD.out.2.1
                              have RE := hide' (HLD.out.2.2 w0 HE.out hg0 (by omega))
                              clear hsp k1 k2 k3 O1 O2 hcap HLD
                              go_wp2
                              go_roundw
                              case rel => exact ⟨m + 1, (i5 : Int) - 1, by omega, by first | rfl | rw [hi1], (show _ = _ by have := HX5.out; omega), R1, R2, RE⟩
                              case measure => simp [intOf] <;> omega
                        · have hm5 : n = m := by omega
                          have hx : x = -1 := by have := HX5.out; omega
                          subst hx
                          have O1' : Hid (Own .i64 3 g wr (.slice (some ⟨g, 0, none⟩) n n) (st3 s K F n).1) := by rw [hm5] ; rw [← hm5]; exact (hm5 ▸ O1.out)
                          clear O1 O2 hm5
                          go_wp2
                          go_ret2
                          exact ⟨_, rfl, O1'.out.low hsz, X3.out.trans HE.out⟩
end Go.Proofs.Ytpibjmigblllnaa
