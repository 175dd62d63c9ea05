/- Contract of the document's own Pass: whorlref10.Pass. -/
import Derived.Test.YtpkljneipkpdeaaBktRCounts
import Derived.Test.YtpkljneipkpdeaaFinInt
namespace Go.Proofs.Ytpkljneipkpdeaa
set_option linter.unusedVariables false
set_option linter.unusedSimpArgs false
open Go.RowKit

theorem natL_ins (out : List Nat) (j p : Nat) : (natL out).take j ++ [(p : Int)] ++ (natL out).drop j = natL (out.take j ++ [p] ++ out.drop j) := by
  simp [natL, List.map_take, List.map_drop]

set_option maxHeartbeats 2000000 in
theorem rpass_any (v u : Value) (os ks : List Int) (k : Int) (w : World) (hv : Sl .i64 w v os) (hu : Sl .i64 w u ks) (hlen : os.length ≤ 100000) (hlen2 : ks.length ≤ 1000000) :
    Calls Try.prog 10 #[v, u, .int .i64 k] w fun e w' => ∃ s, e = .returned (.tuple #[s, .bool (passB os ks k)]) ∧ Own .i64 3 w.heap.size w' s (passI os ks k) ∧ Ext w w' := by
  have HV := hide' hv
  have HU := hide' hu
  have HLK := hide' hlen2
  obtain ⟨a, c, rfl, _⟩ := hv
  obtain ⟨a', c', rfl, _⟩ := hu
  by_cases hf : fitB ks k = true
  · have HF := hide' hf
    obtain ⟨h0, h1, hgd⟩ := fitB_iff.1 hf
    obtain ⟨K, rfl⟩ := Int.eq_ofNat_of_zero_le h0
    have HPB : Hid (passB os ks (K : Int) = goodI (ks.length : Int) os) := by show _ = _; unfold passB; rw [hf]; rfl
    have HPY : Hid (goodI (ks.length : Int) os = true → passI os ks (K : Int) = natL (csort K (toN os) (keyN ks))) := fun h => by
      rw [passI_yes (by rw [HPB.out]; exact h), Int.toNat_natCast]
    have HPN : Hid (goodI (ks.length : Int) os = false → passI os ks (K : Int) = []) := fun h => passI_no (by rw [HPB.out]; exact h)
    have HKL : Hid (∀ p, p < ks.length → keyN ks p < K ∧ (keyN ks p : Int) = ks.getD p 0) := fun p hp => by
      have h3 := keyN_lt hf hp
      have h4 := goodI_at hgd hp
      refine ⟨by simpa using h3, ?_⟩
      unfold keyN
      omega
    obtain ⟨_, _, hcm, hcv⟩ := HV.out.int
    obtain ⟨_, _, _, hcu⟩ := HU.out.int
    have CV := hide' hcv
    have CU := hide' hcu
    obtain ⟨n, HN⟩ : ∃ n, Hid (os.length = n) := ⟨_, rfl⟩
    obtain ⟨m, HM⟩ : ∃ n, Hid (ks.length = n) := ⟨_, rfl⟩
    rw [HPB.out]
    rw [HN.out] at CV hlen HV ⊢
    rw [HM.out] at CU hlen2 HPB HPY HPN HKL HU ⊢
    clear hcv hcu hf hgd h0 hcm
    go_enter Try.func10, Try.ntmps10
    go_wp2_with fail
    refine (rcounts_any _ ks _ _ HU.out HLK.out).mono ?_
    rw [HF.out]
    rintro e w1 ⟨s1, rfl, _, he1⟩
    have HE1 := hide' he1
    clear he1
    go_wp2
    go_loopw [10, 11] (fun sv vi wr => ∃ (i : Nat) (out : List Nat), i ≤ n ∧ vi = .int .i64 i ∧ Hid (∀ j, j < i → 0 ≤ os.getD j 0 ∧ os.getD j 0 < m) ∧ Hid (out = csort K ((toN os).take i) (keyN ks)) ∧
      Hid (Own .i64 3 w.heap.size wr sv (natL out)) ∧ Hid (Ext w wr)) (fun _ vi _ => n - (intOf vi).toNat)
    case atStart =>
      refine ⟨0, [], Nat.zero_le _, rfl, (fun j hj => by omega), (show _ = _ from ?_), Own.nil _ _ _ _, HE1⟩
      have := csort_len (K := K) (ps := (toN os).take 0) (key := keyN ks) (fun p hp => by simp at hp)
      exact (List.length_eq_zero_iff.1 (by unfold offs at this; simpa using this)).symm
    case round =>
      clear HE1
      obtain ⟨i, out, hi, rfl, HG, HOUT, HO, HE⟩ := hrel
      by_cases hlt : i < n
      · have hlt' : (i : Int) < n := by omega
        obtain ⟨g1, o1, rfl, k1⟩ := CV.out (by omega)
        have c1 := HE.out.cellOf (k1 i hlt)
        have C1 := hide' (k1 i hlt)
        clear k1
        obtain ⟨z, HZZ⟩ : ∃ z, Hid (os.getD i 0 = z) := ⟨_, rfl⟩
        rw [HZZ.out] at c1 C1
        by_cases hz : z < 0
        · have HB2 : Hid (goodI (m : Int) os = false) := goodI_bad (j := i) (by rw [HN.out]; exact hlt) (by rw [HZZ.out]; exact .inl hz)
          go_wp2
          go_ret2
          rw [HB2.out, HPN.out HB2.out]
          exact ⟨_, rfl, Own.nil _ _ _ _, HE.out⟩
        · have dz : decide (z < 0) = false := by simp; omega
          by_cases hzk : (m : Int) ≤ z
          · have HB2 : Hid (goodI (m : Int) os = false) := goodI_bad (j := i) (by rw [HN.out]; exact hlt) (by rw [HZZ.out]; exact .inr hzk)
            go_wp2
            go_ret2
            rw [HB2.out, HPN.out HB2.out]
            exact ⟨_, rfl, Own.nil _ _ _ _, HE.out⟩
          · obtain ⟨p, rfl⟩ := Int.eq_ofNat_of_zero_le (show 0 ≤ z by omega)
            have hp : p < m := by omega
            have hp' : (p : Int) < m := by omega
            have dk : decide ((m : Int) ≤ p) = false := by simp; omega
            have dk2 : decide (m ≤ p) = false := by simp; omega
            clear hz hzk
            obtain ⟨g2, o2, rfl, k2⟩ := CU.out (by omega)
            have K2 := hide' k2
            clear k2
            have HPT : Hid ((toN os).getD i 0 = p) := by show _ = _; rw [toN_at, HZZ.out, Int.toNat_natCast]
            have HTS : Hid ((toN os).take (i + 1) = (toN os).take i ++ [p]) := by show _ = _; rw [takeN_succ (by rw [toN_len, HN.out]; exact hlt), HPT.out]
            have HIN : Hid (∀ x ∈ (toN os).take i, x < m) := fun x hx => by
              obtain ⟨q, hq, rfl⟩ := mem_getN hx
              rw [List.length_take, toN_len] at hq
              have e : ((toN os).take i).getD q 0 = (toN os).getD q 0 := by
                simp only [List.getD_eq_getElem?_getD, List.getElem?_take]
                rw [if_pos (by omega)]
              rw [e, toN_at]
              have := HG.out q (by omega)
              omega
            have HLI : Hid (out.length = i) := by
              show _ = _
              rw [HOUT.out]
              have := csort_len (K := K) (ps := (toN os).take i) (key := keyN ks) (fun x hx => (HKL.out x (HIN.out x hx)).1)
              unfold offs at this
              rw [this, List.length_take, toN_len, HN.out]
              omega
            have HIO : Hid (∀ q, q < i → out.getD q 0 < m) := fun q hq => by
              have h3 := getN_mem (l := out) (i := q) (by rw [HLI.out]; exact hq)
              rw [HOUT.out] at h3
              have := HIN.out _ (mem_csort h3).1
              rw [HOUT.out]
              exact this
            obtain ⟨L, HL⟩ : ∃ L, Hid (out.length = L) := ⟨_, rfl⟩
            have hLi : L = i := HL.out.symm.trans HLI.out
            have hL : L ≤ 100000 := by omega
            rw [← hLi] at HIO
            have HLi := hide' hLi
            clear hLi
            obtain ⟨oa, oc, hov, hoc1, hoc2, _⟩ := HO.out.sl
            unfold maxLen at hoc2
            rw [natL_len, HL.out] at hov hoc1
            subst hov
            have HOL : Hid ((natL out).length = L) := by show _ = _; rw [natL_len]; exact HL.out
            have INP : Hid (∀ j, j ≤ L → (∀ q, j ≤ q → q < L → keyN ks p < keyN ks (out.getD q 0)) → (j = 0 ∨ keyN ks (out.getD (j - 1) 0) ≤ keyN ks p) → (natL out).take j ++ [(p : Int)] ++ (natL out).drop j = natL (csort K ((toN os).take (i + 1)) (keyN ks))) := fun j h1 h2 h3 => by
              rw [natL_ins, HTS.out]
              rw [← HL.out] at h1 h2
              rw [HOUT.out] at h1 h2 h3 ⊢
              rw [ins_place (HKL.out p hp).1 h1 h2 h3]
            go_wp2
            go_loopw [12] (fun vj wr => ∃ (j : Nat), j ≤ L ∧ vj = .int .i64 j ∧ Hid (∀ q, j ≤ q → q < L → keyN ks p < keyN ks (out.getD q 0)) ∧ Hid (Own .i64 3 w.heap.size wr (.slice oa L oc) (natL out)) ∧ Hid (Ext w wr)) (fun vj _ => (intOf vj).toNat)
            case atStart => exact ⟨L, Nat.le_refl _, rfl, (fun q h1 h2 => by omega), HO, HE⟩
            case round =>
              clear HO HE c1
              obtain ⟨j, hj, rfl, IN, HO, HE⟩ := hrel
              have c1 := HE.out.cellOf C1.out
              by_cases hj0 : j = 0
              · have ZQ := hide' (INP.out j hj IN.out (.inl hj0))
                have d0 : decide ((0 : Int) < (j : Int)) = false := by simp; omega
                have d1 : decide (0 < j) = false := by simp; omega
                clear hj0 c1
                go_wp2_with fail
                go_quiet (fail)
                have HOW := hide' (HO.out.ext (Ext.drewN wr nq))
                have HEW := hide' (HE.out.trans (Ext.drewN wr nq))
                generalize wr.drewN nq = W at *
                clear d0 d1 HO HE
                have c1 := HEW.out.cellOf C1.out
                have SW := hide' HOW.out.sl
                obtain ⟨r1, s1⟩ := SW.out.runTake (P := Try.prog) 22 3 Try.underlying22 sizeI64 j (by rw [HOL.out]; exact hj)
                obtain ⟨da, r2, s2, _⟩ := SW.out.runDrop (P := Try.prog) 22 3 Try.underlying22 sizeI64 j (by rw [HOL.out]; exact hj)
                have N1 := hide' s1.newsI
                have N2 := hide' s2.newsI
                clear s1 s2 SW
                have AL : Hid (((natL out).take j).length = j) := by show _ = _; rw [List.length_take, HOL.out]; omega
                have DL : Hid (((natL out).drop j).length = L - j) := by show _ = _; rw [List.length_drop, HOL.out]
                obtain ⟨A, HAA⟩ : ∃ A, Hid ((natL out).take j = A) := ⟨_, rfl⟩
                obtain ⟨D, HDD⟩ : ∃ D, Hid ((natL out).drop j = D) := ⟨_, rfl⟩
                rw [HAA.out] at N1 AL ZQ
                rw [HDD.out] at N2 DL ZQ
                obtain ⟨Z, HZ⟩ : ∃ Z, Hid (A ++ [(p : Int)] ++ D = Z) := ⟨_, rfl⟩
                rw [HZ.out] at ZQ
                obtain ⟨FF, HFF⟩ : ∃ FF, Hid (cellsI Z = FF) := ⟨_, rfl⟩
                have F1 : Hid (∀ q, q < j * 1 → (cellsI A)[q]? = FF[0 * 1 + q]?) := fun q hq => by rw [← HFF.out, ← HZ.out]; exact fin_1 A D _ j q AL.out hq
                have F2 : Hid (∀ q, q < 1 * 1 → (cellsI [(p : Int)])[q]? = FF[j * 1 + q]?) := fun q hq => by rw [← HFF.out, ← HZ.out]; exact fin_2 A D _ j q AL.out hq
                have F3 : Hid (∀ q, (cellsI D)[q]? = FF[(j + 1) * 1 + q]?) := fun q => by rw [← HFF.out, ← HZ.out]; exact fin_3 A D _ j q AL.out
                have ZL : Hid (Z.length = j + 1 + (L - j)) := by show _ = _; rw [← HZ.out, List.length_append, List.length_append, AL.out, DL.out]; rfl
                have FL : Hid (FF.length = (j + 1 + (L - j)) * 1) := by show _ = _; rw [← HFF.out, cellsI_len, ZL.out, Nat.mul_one]
                go_wp2_with fail
                have hne := KR.later_some (frel W.heap.size 3 FF 1) W
                have l1 : ∀ l : KR.Later (frel W.heap.size 3 FF 1) W, l.val.cell? ⟨g1, o1 + i, none⟩ = some (.int .i64 (p : Int)) := fun l => (ExtF.ext l.ext).cellOf c1
                refine KR.wp_region_k (E := frel W.heap.size 3 FF 1) (fun _ _ _ _ => True) (by kernel_rfl) (by kernel_rfl) (by kernel_rfl) ?_
                refine KR.lexK_some (fun u w' => LitF W.heap.size 3 w' u 0 #[]) (fun u => LitF.up (by simp)) rfl (fun w1' he1 _ => ?_) ?_
                · exact ⟨.slice (some ⟨w1'.heap.size, 0, none⟩) 0 0, w1'.alloc (.cells #[] 3), by kernel_rfl, ExtF.ofExt (ext_alloc _ _), _, rfl, he1.size, heap_alloc_top _ _⟩
                intro uA wA _ _ _
                simp only [Act.put, List.setIfInBounds_toArray, List.set_cons_succ, List.set_cons_zero]
                refine KR.lexK_take 3 (by kernel_rfl) ?_
                simp only [List.take_succ_cons, List.take_zero, List.drop_succ_cons, List.drop_zero]
                repeat (go_big_quiet_step (fail))
                refine wpQuiet_nil ?_
                refine KR.lexK_some (fun u w' => OwnF W.heap.size 3 FF 1 w' u j ∧ (j = 0 → ∃ a', u = .slice a' 0 0)) (fun u w1' w2' h12 h => ⟨OwnF.up _ _ h12 h.1, h.2⟩) rfl (fun w2' he2 hf2 => ?_) ?_
                · have hb := (hf2 65 (by decide)).2 rfl
                  have e2 : Ext W w2' := he2.ext
                  obtain ⟨g56, hg56, _⟩ := id hb
                  obtain ⟨u2, w3', q1, q2, q3, q4⟩ := append_F (P := Try.prog) (lo := 1) 22 22 _ Try.underlying22 infoI64 rfl (by decide) _ _ 0 j _ _ (cellsI A) hb.own rfl N1.out.2.1 (by rw [cellsI_len, AL.out, Nat.mul_one]) (fun ad hd q u hq => e2.cellOf (N1.out.2.2 ad hd q u hq)) (cellsI_one A) F1.out
                    (by
                      by_cases h0 : j = 0
                      · exact .inl h0
                      · refine .inr (.inr fun a' c' hv => ?_)
                        rw [hg56] at hv
                        simp only [Value.slice.injEq] at hv
                        omega) (by unfold maxLen; omega) (by omega) he2.size
                  rw [Nat.zero_add] at q3
                  refine ⟨u2, w3', run_append_op rfl rfl rfl q1, q2, q3, fun h0 => ?_⟩
                  have := q4 _ _ hg56 (by omega)
                  rw [h0] at this
                  exact this
                intro uB wB _ _ _
                simp only [Act.put, List.setIfInBounds_toArray, List.set_cons_succ, List.set_cons_zero]
                refine KR.lexK_take 4 (by kernel_rfl) ?_
                simp only [List.take_succ_cons, List.take_zero, List.drop_succ_cons, List.drop_zero]
                repeat (go_big_quiet_step (fail))
                refine wpQuiet_nil ?_
                refine KR.lexK_some (fun u w' => LitF W.heap.size 3 w' u 1 #[.int .i64 (p : Int)]) (fun u => LitF.up (by simp)) rfl (fun w1' he1 _ => ?_) ?_
                · exact ⟨.slice (some ⟨w1'.heap.size, 0, none⟩) 1 1, w1'.alloc (.cells #[.int .i64 (p : Int)] 3), by kernel_rfl, ExtF.ofExt (ext_alloc _ _), _, rfl, he1.size, heap_alloc_top _ _⟩
                intro uC wC _ _ _
                simp only [Act.put, List.setIfInBounds_toArray, List.set_cons_succ, List.set_cons_zero]
                refine KR.lexK_some (fun u w' => OwnF W.heap.size 3 FF 1 w' u (j + 1)) (fun u => OwnF.up) rfl (fun w2' he2 hf2 => ?_) ?_
                · have hb := (hf2 69 (by decide)).1.2 rfl
                  have hl := (hf2 74 (by decide)).2 rfl
                  obtain ⟨ad, had, hnew⟩ := hl.news
                  obtain ⟨u2, w3', q1, q2, q3, q4⟩ := append_F (P := Try.prog) (lo := 1) 22 22 _ Try.underlying22 infoI64 rfl (by decide) _ _ j 1 (some ad) 1 (cellsI [(p : Int)]) hb.1 had (fun h => by cases h) rfl (fun ad' hd q u hq => by
                      simp only [Option.some.injEq] at hd
                      subst hd
                      exact hnew q u hq) (cellsI_one _) F2.out
                    (by
                      by_cases h0 : j = 0
                      · refine .inr (.inr fun a' c' hv => ?_)
                        obtain ⟨a'', h1⟩ := hb.2 h0
                        rw [h1] at hv
                        simp only [Value.slice.injEq] at hv
                        omega
                      · exact .inr (.inl (by omega))) (by unfold maxLen; omega) (by rw [FL.out]; omega) he2.size
                  exact ⟨u2, w3', run_append_op rfl rfl rfl q1, q2, q3⟩
                intro uD wD _ _ _
                simp only [Act.put, List.setIfInBounds_toArray, List.set_cons_succ, List.set_cons_zero]
                refine KR.lexK_take 3 (by kernel_rfl) ?_
                simp only [List.take_succ_cons, List.take_zero, List.drop_succ_cons, List.drop_zero]
                repeat (go_big_quiet_step (fail))
                refine wpQuiet_nil ?_
                refine KR.lexK_some (fun u w' => OwnF W.heap.size 3 FF 1 w' u (j + 1 + (L - j))) (fun u => OwnF.up) rfl (fun w2' he2 hf2 => ?_) ?_
                · have hb := (hf2 75 (by decide)).2 rfl
                  have e2 : Ext W w2' := he2.ext
                  obtain ⟨u2, w3', q1, q2, q3, q4⟩ := append_F (P := Try.prog) (lo := 1) 22 22 _ Try.underlying22 infoI64 rfl (by decide) _ _ (j + 1) (L - j) _ _ (cellsI D) hb rfl N2.out.2.1 (by rw [cellsI_len, DL.out, Nat.mul_one]) (fun ad hd q u hq => e2.cellOf (N2.out.2.2 ad hd q u hq)) (cellsI_one D) (fun q _ => F3.out q)
                    (by
                      by_cases h0 : L - j = 0
                      · exact .inl h0
                      · exact .inr (.inl (by omega))) (by unfold maxLen; omega) (by rw [FL.out]; omega) he2.size
                  exact ⟨u2, w3', run_append_op rfl rfl rfl q1, q2, q3⟩
                intro uE wE _ _ _
                simp only [Act.put, List.setIfInBounds_toArray, List.set_cons_succ, List.set_cons_zero]
                refine KR.lexK_take 1 (by kernel_rfl) ?_
                simp only [List.take_succ_cons, List.take_zero, List.drop_succ_cons, List.drop_zero]
                repeat (go_big_quiet_step (fail))
                refine wpQuiet_nil ?_
                refine KR.lexK_nil ?_
                intro w5 he5 hf5
                have OF := (hf5 79).2 rfl
                have EF : Ext W w5 := he5.ext
                have OP : Hid (Own .i64 3 w.heap.size w5 uE Z) := by
                  rw [← HFF.out] at OF
                  exact (OF.own ZL.out).low HEW.out.size
                have XE : Hid (Ext w w5) := HEW.out.trans EF
                clear hne r1 r2 he5 hf5 OF EF
                clear l1
                go_wp2
                go_roundw
                case rel => exact ⟨i + 1, csort K ((toN os).take (i + 1)) (keyN ks), by omega, by go_num, (fun q hq => by
                  by_cases e : q = i
                  · subst e; rw [HZZ.out]; omega
                  · exact HG.out q (by omega)), (show _ = _ from rfl), (by rw [← ZQ.out]; exact OP.out), XE⟩
                case measure => simp [intOf]; omega
              · obtain ⟨J, HJ⟩ : ∃ J, Hid (j = J + 1) := ⟨j - 1, by show _ = _; omega⟩
                have hJL : J < L := by have := HJ.out; omega
                have hJL' : (J : Int) < L := by omega
                have hJj : (j : Int) - 1 = (J : Int) := by have := HJ.out; omega
                have HSJ : Hid (j - 1 = J) := by show _ = _; have := HJ.out; omega
                have wJ : IntKind.i64.wrap (J : Int) = (J : Int) := by rw [IntKind.wrap_i64]; omega
                have d0 : decide ((0 : Int) < (j : Int)) = true := by simp; omega
                have d1 : (0 : Int) < (j : Int) := by omega
                have d2 : 0 < j := by omega
                obtain ⟨_, _, _, hco⟩ := HO.out.sl.nat
                obtain ⟨og, ooff, hoa, ocell⟩ := hco (by omega)
                have c3 := ocell J hJL
                clear hco ocell
                have ho := HIO.out J hJL
                obtain ⟨o, HOO⟩ : ∃ o, Hid (out.getD J 0 = o) := ⟨_, rfl⟩
                rw [HOO.out] at c3 ho
                have ho' : (o : Int) < m := by omega
                have c2 := HE.out.cellOf (K2.out p hp)
                have c4 := HE.out.cellOf (K2.out o ho)
                have kp := (HKL.out p hp).2
                have ko := (HKL.out o ho).2
                obtain ⟨y, HY⟩ : ∃ y, Hid (ks.getD p 0 = y) := ⟨_, rfl⟩
                obtain ⟨x, HX⟩ : ∃ x, Hid (ks.getD o 0 = x) := ⟨_, rfl⟩
                rw [HY.out] at c2 kp
                rw [HX.out] at c4 ko
                subst hoa
                by_cases hyx : y < x
                · have IN2 : Hid (∀ q, J ≤ q → q < L → keyN ks p < keyN ks (out.getD q 0)) := fun q h1 h2 => by
                    by_cases hq : q = J
                    · subst hq; rw [HOO.out]; omega
                    · exact IN.out q (by have := HJ.out; omega) h2
                  clear kp ko hj0
                  go_wp2_with fail
                  go_quiet (fail)
                  go_wp2
                  go_roundw
                  case rel => exact ⟨J, by omega, by first | rfl | go_num, IN2, HO.out.ext (Ext.drewN _ _), HE.out.trans (Ext.drewN _ _)⟩
                  case measure => simp [intOf]; have := HJ.out; omega
                · have ZQ := hide' (INP.out j hj IN.out (.inr (by rw [HSJ.out, HOO.out]; omega)))
                  have dyx : decide (y < x) = false := by simp; omega
                  clear kp ko hyx hj0
                  go_wp2_with fail
                  go_quiet (fail)
                  have HOW := hide' (HO.out.ext (Ext.drewN wr nq))
                  have HEW := hide' (HE.out.trans (Ext.drewN wr nq))
                  generalize wr.drewN nq = W at *
                  clear d0 d1 d2 HO HE c1 c2 c3 c4 dyx hJj
                  have c1 := HEW.out.cellOf C1.out
                  have SW := hide' HOW.out.sl
                  obtain ⟨r1, s1⟩ := SW.out.runTake (P := Try.prog) 22 3 Try.underlying22 sizeI64 j (by rw [HOL.out]; exact hj)
                  obtain ⟨da, r2, s2, _⟩ := SW.out.runDrop (P := Try.prog) 22 3 Try.underlying22 sizeI64 j (by rw [HOL.out]; exact hj)
                  have N1 := hide' s1.newsI
                  have N2 := hide' s2.newsI
                  clear s1 s2 SW
                  have AL : Hid (((natL out).take j).length = j) := by show _ = _; rw [List.length_take, HOL.out]; omega
                  have DL : Hid (((natL out).drop j).length = L - j) := by show _ = _; rw [List.length_drop, HOL.out]
                  obtain ⟨A, HAA⟩ : ∃ A, Hid ((natL out).take j = A) := ⟨_, rfl⟩
                  obtain ⟨D, HDD⟩ : ∃ D, Hid ((natL out).drop j = D) := ⟨_, rfl⟩
                  rw [HAA.out] at N1 AL ZQ
                  rw [HDD.out] at N2 DL ZQ
                  obtain ⟨Z, HZ⟩ : ∃ Z, Hid (A ++ [(p : Int)] ++ D = Z) := ⟨_, rfl⟩
                  rw [HZ.out] at ZQ
                  obtain ⟨FF, HFF⟩ : ∃ FF, Hid (cellsI Z = FF) := ⟨_, rfl⟩
                  have F1 : Hid (∀ q, q < j * 1 → (cellsI A)[q]? = FF[0 * 1 + q]?) := fun q hq => by rw [← HFF.out, ← HZ.out]; exact fin_1 A D _ j q AL.out hq
                  have F2 : Hid (∀ q, q < 1 * 1 → (cellsI [(p : Int)])[q]? = FF[j * 1 + q]?) := fun q hq => by rw [← HFF.out, ← HZ.out]; exact fin_2 A D _ j q AL.out hq
                  have F3 : Hid (∀ q, (cellsI D)[q]? = FF[(j + 1) * 1 + q]?) := fun q => by rw [← HFF.out, ← HZ.out]; exact fin_3 A D _ j q AL.out
                  have ZL : Hid (Z.length = j + 1 + (L - j)) := by show _ = _; rw [← HZ.out, List.length_append, List.length_append, AL.out, DL.out]; rfl
                  have FL : Hid (FF.length = (j + 1 + (L - j)) * 1) := by show _ = _; rw [← HFF.out, cellsI_len, ZL.out, Nat.mul_one]
                  go_wp2_with fail
                  have hne := KR.later_some (frel W.heap.size 3 FF 1) W
                  have l1 : ∀ l : KR.Later (frel W.heap.size 3 FF 1) W, l.val.cell? ⟨g1, o1 + i, none⟩ = some (.int .i64 (p : Int)) := fun l => (ExtF.ext l.ext).cellOf c1
                  refine KR.wp_region_k (E := frel W.heap.size 3 FF 1) (fun _ _ _ _ => True) (by kernel_rfl) (by kernel_rfl) (by kernel_rfl) ?_
                  refine KR.lexK_some (fun u w' => LitF W.heap.size 3 w' u 0 #[]) (fun u => LitF.up (by simp)) rfl (fun w1' he1 _ => ?_) ?_
                  · exact ⟨.slice (some ⟨w1'.heap.size, 0, none⟩) 0 0, w1'.alloc (.cells #[] 3), by kernel_rfl, ExtF.ofExt (ext_alloc _ _), _, rfl, he1.size, heap_alloc_top _ _⟩
                  intro uA wA _ _ _
                  simp only [Act.put, List.setIfInBounds_toArray, List.set_cons_succ, List.set_cons_zero]
                  refine KR.lexK_take 3 (by kernel_rfl) ?_
                  simp only [List.take_succ_cons, List.take_zero, List.drop_succ_cons, List.drop_zero]
                  repeat (go_big_quiet_step (fail))
                  refine wpQuiet_nil ?_
                  refine KR.lexK_some (fun u w' => OwnF W.heap.size 3 FF 1 w' u j ∧ (j = 0 → ∃ a', u = .slice a' 0 0)) (fun u w1' w2' h12 h => ⟨OwnF.up _ _ h12 h.1, h.2⟩) rfl (fun w2' he2 hf2 => ?_) ?_
                  · have hb := (hf2 65 (by decide)).2 rfl
                    have e2 : Ext W w2' := he2.ext
                    obtain ⟨g56, hg56, _⟩ := id hb
                    obtain ⟨u2, w3', q1, q2, q3, q4⟩ := append_F (P := Try.prog) (lo := 1) 22 22 _ Try.underlying22 infoI64 rfl (by decide) _ _ 0 j _ _ (cellsI A) hb.own rfl N1.out.2.1 (by rw [cellsI_len, AL.out, Nat.mul_one]) (fun ad hd q u hq => e2.cellOf (N1.out.2.2 ad hd q u hq)) (cellsI_one A) F1.out
                      (by
                        by_cases h0 : j = 0
                        · exact .inl h0
                        · refine .inr (.inr fun a' c' hv => ?_)
                          rw [hg56] at hv
                          simp only [Value.slice.injEq] at hv
                          omega) (by unfold maxLen; omega) (by omega) he2.size
                    rw [Nat.zero_add] at q3
                    refine ⟨u2, w3', run_append_op rfl rfl rfl q1, q2, q3, fun h0 => ?_⟩
                    have := q4 _ _ hg56 (by omega)
                    rw [h0] at this
                    exact this
                  intro uB wB _ _ _
                  simp only [Act.put, List.setIfInBounds_toArray, List.set_cons_succ, List.set_cons_zero]
                  refine KR.lexK_take 4 (by kernel_rfl) ?_
                  simp only [List.take_succ_cons, List.take_zero, List.drop_succ_cons, List.drop_zero]
                  repeat (go_big_quiet_step (fail))
                  refine wpQuiet_nil ?_
                  refine KR.lexK_some (fun u w' => LitF W.heap.size 3 w' u 1 #[.int .i64 (p : Int)]) (fun u => LitF.up (by simp)) rfl (fun w1' he1 _ => ?_) ?_
                  · exact ⟨.slice (some ⟨w1'.heap.size, 0, none⟩) 1 1, w1'.alloc (.cells #[.int .i64 (p : Int)] 3), by kernel_rfl, ExtF.ofExt (ext_alloc _ _), _, rfl, he1.size, heap_alloc_top _ _⟩
                  intro uC wC _ _ _
                  simp only [Act.put, List.setIfInBounds_toArray, List.set_cons_succ, List.set_cons_zero]
                  refine KR.lexK_some (fun u w' => OwnF W.heap.size 3 FF 1 w' u (j + 1)) (fun u => OwnF.up) rfl (fun w2' he2 hf2 => ?_) ?_
                  · have hb := (hf2 69 (by decide)).1.2 rfl
                    have hl := (hf2 74 (by decide)).2 rfl
                    obtain ⟨ad, had, hnew⟩ := hl.news
                    obtain ⟨u2, w3', q1, q2, q3, q4⟩ := append_F (P := Try.prog) (lo := 1) 22 22 _ Try.underlying22 infoI64 rfl (by decide) _ _ j 1 (some ad) 1 (cellsI [(p : Int)]) hb.1 had (fun h => by cases h) rfl (fun ad' hd q u hq => by
                        simp only [Option.some.injEq] at hd
                        subst hd
                        exact hnew q u hq) (cellsI_one _) F2.out
                      (by
                        by_cases h0 : j = 0
                        · refine .inr (.inr fun a' c' hv => ?_)
                          obtain ⟨a'', h1⟩ := hb.2 h0
                          rw [h1] at hv
                          simp only [Value.slice.injEq] at hv
                          omega
                        · exact .inr (.inl (by omega))) (by unfold maxLen; omega) (by rw [FL.out]; omega) he2.size
                    exact ⟨u2, w3', run_append_op rfl rfl rfl q1, q2, q3⟩
                  intro uD wD _ _ _
                  simp only [Act.put, List.setIfInBounds_toArray, List.set_cons_succ, List.set_cons_zero]
                  refine KR.lexK_take 3 (by kernel_rfl) ?_
                  simp only [List.take_succ_cons, List.take_zero, List.drop_succ_cons, List.drop_zero]
                  repeat (go_big_quiet_step (fail))
                  refine wpQuiet_nil ?_
                  refine KR.lexK_some (fun u w' => OwnF W.heap.size 3 FF 1 w' u (j + 1 + (L - j))) (fun u => OwnF.up) rfl (fun w2' he2 hf2 => ?_) ?_
                  · have hb := (hf2 75 (by decide)).2 rfl
                    have e2 : Ext W w2' := he2.ext
                    obtain ⟨u2, w3', q1, q2, q3, q4⟩ := append_F (P := Try.prog) (lo := 1) 22 22 _ Try.underlying22 infoI64 rfl (by decide) _ _ (j + 1) (L - j) _ _ (cellsI D) hb rfl N2.out.2.1 (by rw [cellsI_len, DL.out, Nat.mul_one]) (fun ad hd q u hq => e2.cellOf (N2.out.2.2 ad hd q u hq)) (cellsI_one D) (fun q _ => F3.out q)
                      (by
                        by_cases h0 : L - j = 0
                        · exact .inl h0
                        · exact .inr (.inl (by omega))) (by unfold maxLen; omega) (by rw [FL.out]; omega) he2.size
                    exact ⟨u2, w3', run_append_op rfl rfl rfl q1, q2, q3⟩
                  intro uE wE _ _ _
                  simp only [Act.put, List.setIfInBounds_toArray, List.set_cons_succ, List.set_cons_zero]
                  refine KR.lexK_take 1 (by kernel_rfl) ?_
                  simp only [List.take_succ_cons, List.take_zero, List.drop_succ_cons, List.drop_zero]
                  repeat (go_big_quiet_step (fail))
                  refine wpQuiet_nil ?_
                  refine KR.lexK_nil ?_
                  intro w5 he5 hf5
                  have OF := (hf5 79).2 rfl
                  have EF : Ext W w5 := he5.ext
                  have OP : Hid (Own .i64 3 w.heap.size w5 uE Z) := by
                    rw [← HFF.out] at OF
                    exact (OF.own ZL.out).low HEW.out.size
                  have XE : Hid (Ext w w5) := HEW.out.trans EF
                  clear hne r1 r2 he5 hf5 OF EF
                  clear l1
                  go_wp2
                  go_roundw
                  case rel => exact ⟨i + 1, csort K ((toN os).take (i + 1)) (keyN ks), by omega, by go_num, (fun q hq => by
                    by_cases e : q = i
                    · subst e; rw [HZZ.out]; omega
                    · exact HG.out q (by omega)), (show _ = _ from rfl), (by rw [← ZQ.out]; exact OP.out), XE⟩
                  case measure => simp [intOf]; omega
      · have hlt' : decide ((i : Int) < n) = false := by simp; omega
        have hin : i = n := by omega
        subst hin
        have HB2 : Hid (goodI (m : Int) os = true) := goodI_of fun j hj => HG.out j (by rw [HN.out] at hj; exact hj)
        have HQ : Hid (out = csort K (toN os) (keyN ks)) := by
          show _ = _
          rw [HOUT.out, List.take_of_length_le (by rw [toN_len, HN.out]; omega)]
        go_wp2
        go_ret2
        rw [HB2.out, HPY.out HB2.out]
        exact ⟨_, rfl, by rw [← HQ.out]; exact HO.out, HE.out⟩
  · have HF : Hid (fitB ks k = false) := by show _ = _; simpa using hf
    have HPB : Hid (passB os ks k = false) := by show _ = _; unfold passB; rw [HF.out]; rfl
    have HPN : Hid (passI os ks k = []) := passI_no HPB.out
    rw [HPB.out, HPN.out]
    clear hf
    go_enter Try.func10, Try.ntmps10
    go_wp2_with fail
    refine (rcounts_any _ ks _ _ HU.out HLK.out).mono ?_
    rw [HF.out]
    rintro e w1 ⟨s1, rfl, _, he1⟩
    have HE1 := hide' he1
    clear he1
    go_wp2
    go_ret2
    exact ⟨_, rfl, Own.nil _ _ _ _, HE1.out⟩
end Go.Proofs.Ytpkljneipkpdeaa
