/- Contract of the document's own Order: whorlref13.Order. -/
import Derived.Test.YthohogbefpoclaaPart1
import Derived.Test.YthohogbefpoclaaPart5
import Derived.Test.YthohogbefpoclaaFinInt
namespace Go.Proofs.Ythohogbefpoclaa
set_option linter.unusedVariables false
set_option linter.unusedSimpArgs false
open Go.RowKit

set_option maxHeartbeats 2000000 in
theorem rorder_any (v : Value) (s : List Int) (w : World) (hv : Sl .i64 w v s) (hlen : s.length ≤ 100000) :
    Calls Try.prog 62 #[v] w fun e w' => ∃ u R, e = .returned u ∧ InOrd s R ∧ Own .i64 3 w.heap.size w' u (natL R) ∧ Ext w w' := by
  have HV := hide' hv
  obtain ⟨a, c, rfl, _⟩ := hv
  obtain ⟨_, _, hcm, _⟩ := HV.out.int
  obtain ⟨n, HN⟩ : ∃ n, Hid (s.length = n) := ⟨_, rfl⟩
  have HDL : Hid (∀ i, (s.drop i).length ≤ 1000000) := fun i => by rw [List.length_drop]; omega
  rw [HN.out] at hlen HV ⊢
  clear hcm
  go_enter Try.func62, Try.ntmps62
  go_wp2
  go_loopw [3, 4] (fun ov vi wr => ∃ (i : Nat) (out : List Nat), i ≤ n ∧ vi = .int .i64 i ∧ Hid (out.Pairwise (ltE s)) ∧ Hid (out.Perm (List.range i)) ∧
    Hid (Own .i64 3 w.heap.size wr ov (natL out)) ∧ Hid (Ext w wr)) (fun _ vi _ => n - (intOf vi).toNat)
  case atStart => exact ⟨0, [], Nat.zero_le _, rfl, List.Pairwise.nil, List.Perm.refl _, Own.nil _ _ _ _, Ext.refl _⟩
  case round =>
    obtain ⟨i, out, hi, rfl, HSO, HPO, HO, HE⟩ := hrel
    by_cases hlt : i < n
    · have hlt' : (i : Int) < n := by omega
      have HLI : Hid (out.length = i) := by
        show _ = _
        rw [HPO.out.length_eq, List.length_range]
      have HIO : Hid (∀ q, q < i → out.getD q 0 < n) := fun q hq => by
        have := List.mem_range.1 (HPO.out.mem_iff.1 (getN_mem (l := out) (i := q) (by rw [HLI.out]; exact hq)))
        omega
      obtain ⟨L, HL⟩ : ∃ L, Hid (out.length = L) := ⟨_, rfl⟩
      have hLi : L = i := HL.out.symm.trans HLI.out
      have hL : L ≤ 100000 := by omega
      rw [← hLi] at HIO
      have HLi := hide' hLi
      clear hLi
      obtain ⟨oa, oc, hov, hoc1, hoc2, _⟩ := HO.out.sl
      unfold maxLen at hoc2
      rw [natL_len, HL.out] at hov hoc1
      subst hov
      have HOL : Hid ((natL out).length = L) := by show _ = _; rw [natL_len]; exact HL.out
      have INP : Hid (∀ j, j ≤ L → (∀ q, j ≤ q → q < L → ltE s i (out.getD q 0)) → (j = 0 ∨ ¬ ltE s i (out.getD (j - 1) 0)) → ∃ Z : List Nat, (natL out).take j ++ [(i : Int)] ++ (natL out).drop j = natL Z ∧ Z.Pairwise (ltE s) ∧ Z.Perm (List.range (i + 1))) := fun j h1 h2 h3 => by
        rw [← HL.out] at h1 h2
        obtain ⟨k1, k2⟩ := ins_ord HSO.out HPO.out (by rw [HN.out]; exact hlt) h1 h2 h3
        exact ⟨_, natL_ins _ _ _, k1, k2⟩
      obtain ⟨da, ra, sa, _⟩ := HV.out.runDrop (P := Try.prog) 23 3 Try.underlying23 sizeI64 i (by rw [HN.out]; omega)
      have SA := hide' sa
      have RA := hide' ra
      clear sa ra
      go_wp2
      go_loopw [5] (fun vj wr => ∃ (j : Nat), j ≤ L ∧ vj = .int .i64 j ∧ Hid (∀ q, j ≤ q → q < L → ltE s i (out.getD q 0)) ∧ Hid (Own .i64 3 w.heap.size wr (.slice oa L oc) (natL out)) ∧ Hid (Ext w wr)) (fun vj _ => (intOf vj).toNat)
      case atStart => exact ⟨L, Nat.le_refl _, rfl, (fun q h1 h2 => by omega), HO, HE⟩
      case round =>
        clear HO HE
        obtain ⟨j, hj, rfl, IN, HO, HE⟩ := hrel
        by_cases hj0 : j = 0
        · obtain ⟨ZZ, hz1, hz2, hz3⟩ := INP.out j hj IN.out (.inl hj0)
          have ZQ := hide' hz1
          have ZS := hide' hz2
          have ZP := hide' hz3
          clear hz1 hz2 hz3
          have d0 : decide ((0 : Int) < (j : Int)) = false := by simp; omega
          have d1 : decide (0 < j) = false := by simp; omega
          clear hj0
          go_wp2_with fail
          go_quiet (fail)
          have HOW := hide' (HO.out.ext (Ext.drewN wr nq))
          have HEW := hide' (HE.out.trans (Ext.drewN wr nq))
          generalize wr.drewN nq = W at *
          clear d0 d1 HO HE
          have SW := hide' HOW.out.sl
          obtain ⟨r1, s1⟩ := SW.out.runTake (P := Try.prog) 23 3 Try.underlying23 sizeI64 j (by rw [HOL.out]; exact hj)
          obtain ⟨da, r2, s2, _⟩ := SW.out.runDrop (P := Try.prog) 23 3 Try.underlying23 sizeI64 j (by rw [HOL.out]; exact hj)
          have N1 := hide' s1.newsI
          have N2 := hide' s2.newsI
          clear s1 s2 SW
          have AL : Hid (((natL out).take j).length = j) := by show _ = _; rw [List.length_take, HOL.out]; omega
          have DL : Hid (((natL out).drop j).length = L - j) := by show _ = _; rw [List.length_drop, HOL.out]
          obtain ⟨A, HAA⟩ : ∃ A, Hid ((natL out).take j = A) := ⟨_, rfl⟩
          obtain ⟨D, HDD⟩ : ∃ D, Hid ((natL out).drop j = D) := ⟨_, rfl⟩
          rw [HAA.out] at N1 AL ZQ
          rw [HDD.out] at N2 DL ZQ
          obtain ⟨Z, HZ⟩ : ∃ Z, Hid (A ++ [(i : Int)] ++ D = Z) := ⟨_, rfl⟩
          rw [HZ.out] at ZQ
          obtain ⟨FF, HFF⟩ : ∃ FF, Hid (cellsI Z = FF) := ⟨_, rfl⟩
          have F1 : Hid (∀ q, q < j * 1 → (cellsI A)[q]? = FF[0 * 1 + q]?) := fun q hq => by rw [← HFF.out, ← HZ.out]; exact fin_1 A D _ j q AL.out hq
          have F2 : Hid (∀ q, q < 1 * 1 → (cellsI [(i : Int)])[q]? = FF[j * 1 + q]?) := fun q hq => by rw [← HFF.out, ← HZ.out]; exact fin_2 A D _ j q AL.out hq
          have F3 : Hid (∀ q, (cellsI D)[q]? = FF[(j + 1) * 1 + q]?) := fun q => by rw [← HFF.out, ← HZ.out]; exact fin_3 A D _ j q AL.out
          have ZL : Hid (Z.length = j + 1 + (L - j)) := by show _ = _; rw [← HZ.out, List.length_append, List.length_append, AL.out, DL.out]; rfl
          have FL : Hid (FF.length = (j + 1 + (L - j)) * 1) := by show _ = _; rw [← HFF.out, cellsI_len, ZL.out, Nat.mul_one]
          go_wp2_with fail
          have hne := KR.later_some (frel W.heap.size 3 FF 1) W

          refine KR.wp_region_k (E := frel W.heap.size 3 FF 1) (fun _ _ _ _ => True) (by kernel_rfl) (by kernel_rfl) (by kernel_rfl) ?_
          refine KR.lexK_some (fun u w' => LitF W.heap.size 3 w' u 0 #[]) (fun u => LitF.up (by simp)) rfl (fun w1' he1 _ => ?_) ?_
          · exact ⟨.slice (some ⟨w1'.heap.size, 0, none⟩) 0 0, w1'.alloc (.cells #[] 3), by kernel_rfl, ExtF.ofExt (ext_alloc _ _), _, rfl, he1.size, heap_alloc_top _ _⟩
          intro uA wA _ _ _
          simp only [Act.put, List.setIfInBounds_toArray, List.set_cons_succ, List.set_cons_zero]
          refine KR.lexK_take 3 (by kernel_rfl) ?_
          simp only [List.take_succ_cons, List.take_zero, List.drop_succ_cons, List.drop_zero]
          repeat (go_big_quiet_step (fail))
          refine wpQuiet_nil ?_
          refine KR.lexK_some (fun u w' => OwnF W.heap.size 3 FF 1 w' u j ∧ (j = 0 → ∃ a', u = .slice a' 0 0)) (fun u w1' w2' h12 h => ⟨OwnF.up _ _ h12 h.1, h.2⟩) rfl (fun w2' he2 hf2 => ?_) ?_
          · have hb := (hf2 32 (by decide)).2 rfl
            have e2 : Ext W w2' := he2.ext
            obtain ⟨g56, hg56, _⟩ := id hb
            obtain ⟨u2, w3', q1, q2, q3, q4⟩ := append_F (P := Try.prog) (lo := 1) 23 23 _ Try.underlying23 infoI64 rfl (by decide) _ _ 0 j _ _ (cellsI A) hb.own rfl N1.out.2.1 (by rw [cellsI_len, AL.out, Nat.mul_one]) (fun ad hd q u hq => e2.cellOf (N1.out.2.2 ad hd q u hq)) (cellsI_one A) F1.out
              (by
                by_cases h0 : j = 0
                · exact .inl h0
                · refine .inr (.inr fun a' c' hv => ?_)
                  rw [hg56] at hv
                  simp only [Value.slice.injEq] at hv
                  omega) (by unfold maxLen; omega) (by omega) he2.size
            rw [Nat.zero_add] at q3
            refine ⟨u2, w3', run_append_op rfl rfl rfl q1, q2, q3, fun h0 => ?_⟩
            have := q4 _ _ hg56 (by omega)
            rw [h0] at this
            exact this
          intro uB wB _ _ _
          simp only [Act.put, List.setIfInBounds_toArray, List.set_cons_succ, List.set_cons_zero]
          refine KR.lexK_take 1 (by kernel_rfl) ?_
          simp only [List.take_succ_cons, List.take_zero, List.drop_succ_cons, List.drop_zero]
          repeat (go_big_quiet_step (fail))
          refine wpQuiet_nil ?_
          refine KR.lexK_some (fun u w' => LitF W.heap.size 3 w' u 1 #[.int .i64 (i : Int)]) (fun u => LitF.up (by simp)) rfl (fun w1' he1 _ => ?_) ?_
          · exact ⟨.slice (some ⟨w1'.heap.size, 0, none⟩) 1 1, w1'.alloc (.cells #[.int .i64 (i : Int)] 3), by kernel_rfl, ExtF.ofExt (ext_alloc _ _), _, rfl, he1.size, heap_alloc_top _ _⟩
          intro uC wC _ _ _
          simp only [Act.put, List.setIfInBounds_toArray, List.set_cons_succ, List.set_cons_zero]
          refine KR.lexK_some (fun u w' => OwnF W.heap.size 3 FF 1 w' u (j + 1)) (fun u => OwnF.up) rfl (fun w2' he2 hf2 => ?_) ?_
          · have hb := (hf2 36 (by decide)).1.2 rfl
            have hl := (hf2 38 (by decide)).2 rfl
            obtain ⟨ad, had, hnew⟩ := hl.news
            obtain ⟨u2, w3', q1, q2, q3, q4⟩ := append_F (P := Try.prog) (lo := 1) 23 23 _ Try.underlying23 infoI64 rfl (by decide) _ _ j 1 (some ad) 1 (cellsI [(i : Int)]) hb.1 had (fun h => by cases h) rfl (fun ad' hd q u hq => by
                simp only [Option.some.injEq] at hd
                subst hd
                exact hnew q u hq) (cellsI_one _) F2.out
              (by
                by_cases h0 : j = 0
                · refine .inr (.inr fun a' c' hv => ?_)
                  obtain ⟨a'', h1⟩ := hb.2 h0
                  rw [h1] at hv
                  simp only [Value.slice.injEq] at hv
                  omega
                · exact .inr (.inl (by omega))) (by unfold maxLen; omega) (by rw [FL.out]; omega) he2.size
            exact ⟨u2, w3', run_append_op rfl rfl rfl q1, q2, q3⟩
          intro uD wD _ _ _
          simp only [Act.put, List.setIfInBounds_toArray, List.set_cons_succ, List.set_cons_zero]
          refine KR.lexK_take 3 (by kernel_rfl) ?_
          simp only [List.take_succ_cons, List.take_zero, List.drop_succ_cons, List.drop_zero]
          repeat (go_big_quiet_step (fail))
          refine wpQuiet_nil ?_
          refine KR.lexK_some (fun u w' => OwnF W.heap.size 3 FF 1 w' u (j + 1 + (L - j))) (fun u => OwnF.up) rfl (fun w2' he2 hf2 => ?_) ?_
          · have hb := (hf2 39 (by decide)).2 rfl
            have e2 : Ext W w2' := he2.ext
            obtain ⟨u2, w3', q1, q2, q3, q4⟩ := append_F (P := Try.prog) (lo := 1) 23 23 _ Try.underlying23 infoI64 rfl (by decide) _ _ (j + 1) (L - j) _ _ (cellsI D) hb rfl N2.out.2.1 (by rw [cellsI_len, DL.out, Nat.mul_one]) (fun ad hd q u hq => e2.cellOf (N2.out.2.2 ad hd q u hq)) (cellsI_one D) (fun q _ => F3.out q)
              (by
                by_cases h0 : L - j = 0
                · exact .inl h0
                · exact .inr (.inl (by omega))) (by unfold maxLen; omega) (by rw [FL.out]; omega) he2.size
            exact ⟨u2, w3', run_append_op rfl rfl rfl q1, q2, q3⟩
          intro uE wE _ _ _
          simp only [Act.put, List.setIfInBounds_toArray, List.set_cons_succ, List.set_cons_zero]
          refine KR.lexK_take 1 (by kernel_rfl) ?_
          simp only [List.take_succ_cons, List.take_zero, List.drop_succ_cons, List.drop_zero]
          repeat (go_big_quiet_step (fail))
          refine wpQuiet_nil ?_
          refine KR.lexK_nil ?_
          intro w5 he5 hf5
          have OF := (hf5 43).2 rfl
          have EF : Ext W w5 := he5.ext
          have OP : Hid (Own .i64 3 w.heap.size w5 uE Z) := by
            rw [← HFF.out] at OF
            exact (OF.own ZL.out).low HEW.out.size
          have XE : Hid (Ext w w5) := HEW.out.trans EF
          clear hne r1 r2 he5 hf5 OF EF
          go_wp2
          go_roundw
          case rel => exact ⟨i + 1, ZZ, by omega, by go_num, ZS, ZP, (show Own _ _ _ _ _ _ by rw [← ZQ.out]; exact OP.out), XE⟩
          case measure => simp [intOf]; omega
        · obtain ⟨J, HJ⟩ : ∃ J, Hid (j = J + 1) := ⟨j - 1, by show _ = _; omega⟩
          have hJL : J < L := by have := HJ.out; omega
          have hJL' : (J : Int) < L := by omega
          have hJj : (j : Int) - 1 = (J : Int) := by have := HJ.out; omega
          have HSJ : Hid (j - 1 = J) := by show _ = _; have := HJ.out; omega
          have wJ : IntKind.i64.wrap (J : Int) = (J : Int) := by rw [IntKind.wrap_i64]; omega
          have d0 : decide ((0 : Int) < (j : Int)) = true := by simp; omega
          have d1 : (0 : Int) < (j : Int) := by omega
          have d2 : 0 < j := by omega
          obtain ⟨_, _, _, hco⟩ := HO.out.sl.nat
          obtain ⟨og, ooff, hoa, ocell⟩ := hco (by omega)
          have c3 := ocell J hJL
          clear hco ocell
          have ho := HIO.out J hJL
          obtain ⟨o, HOO⟩ : ∃ o, Hid (out.getD J 0 = o) := ⟨_, rfl⟩
          rw [HOO.out] at c3 ho
          subst hoa
          obtain ⟨db, rb, sb, _⟩ := HV.out.runDrop (P := Try.prog) 23 3 Try.underlying23 sizeI64 o (by rw [HN.out]; omega)
          have SB := hide' sb
          clear sb
          have ra := RA.out
          obtain ⟨C, HC⟩ : ∃ C, Hid (cmpI (s.drop i) (s.drop o) = C) := ⟨_, rfl⟩
          have HW : Hid (∀ m, Calls Try.prog 85 #[.slice da (n - i) (c - i), .slice db (n - o) (c - o)] (wr.drewN m) fun e w' => e = .returned (.int .i64 C) ∧ ∃ k, w' = (wr.drewN m).drewN k) := fun m => by
            have := kinWords_any _ _ (s.drop i) (s.drop o) (wr.drewN m) ((SA.out.ext HE.out).drewN m) ((SB.out.ext HE.out).drewN m) (HDL.out i) (HDL.out o)
            rw [HC.out] at this
            exact this
          have HLT : Hid (ltE s i o ↔ C < 0) := by show _ ↔ _; unfold ltE; rw [HC.out]
          by_cases hyx : C < 0
          · have IN2 : Hid (∀ q, J ≤ q → q < L → ltE s i (out.getD q 0)) := fun q h1 h2 => by
              by_cases hq : q = J
              · subst hq; rw [HOO.out]; exact HLT.out.2 hyx
              · exact IN.out q (by have := HJ.out; omega) h2
            clear hj0
            go_wp2_with fail
            go_quiet ((go_at_call 85; exact Calls.quiet_of (HW.out _)))
            go_wp2
            go_roundw
            case rel => exact ⟨J, by omega, by first | rfl | go_num, IN2, HO.out.ext (Ext.drewN _ _), HE.out.trans (Ext.drewN _ _)⟩
            case measure => simp [intOf]; have := HJ.out; omega
          · obtain ⟨ZZ, hz1, hz2, hz3⟩ := INP.out j hj IN.out (.inr (by rw [HSJ.out, HOO.out]; exact fun h => hyx (HLT.out.1 h)))
            have ZQ := hide' hz1
            have ZS := hide' hz2
            have ZP := hide' hz3
            clear hz1 hz2 hz3
            have dyx : decide (C < 0) = false := by simp; omega
            clear hyx hj0
            go_wp2_with fail
            go_quiet ((go_at_call 85; exact Calls.quiet_of (HW.out _)))
            have HOW := hide' (HO.out.ext (Ext.drewN wr nq))
            have HEW := hide' (HE.out.trans (Ext.drewN wr nq))
            generalize wr.drewN nq = W at *
            clear d0 d1 d2 HO HE c3 dyx hJj ra rb HW
            have SW := hide' HOW.out.sl
            obtain ⟨r1, s1⟩ := SW.out.runTake (P := Try.prog) 23 3 Try.underlying23 sizeI64 j (by rw [HOL.out]; exact hj)
            obtain ⟨da, r2, s2, _⟩ := SW.out.runDrop (P := Try.prog) 23 3 Try.underlying23 sizeI64 j (by rw [HOL.out]; exact hj)
            have N1 := hide' s1.newsI
            have N2 := hide' s2.newsI
            clear s1 s2 SW
            have AL : Hid (((natL out).take j).length = j) := by show _ = _; rw [List.length_take, HOL.out]; omega
            have DL : Hid (((natL out).drop j).length = L - j) := by show _ = _; rw [List.length_drop, HOL.out]
            obtain ⟨A, HAA⟩ : ∃ A, Hid ((natL out).take j = A) := ⟨_, rfl⟩
            obtain ⟨D, HDD⟩ : ∃ D, Hid ((natL out).drop j = D) := ⟨_, rfl⟩
            rw [HAA.out] at N1 AL ZQ
            rw [HDD.out] at N2 DL ZQ
            obtain ⟨Z, HZ⟩ : ∃ Z, Hid (A ++ [(i : Int)] ++ D = Z) := ⟨_, rfl⟩
            rw [HZ.out] at ZQ
            obtain ⟨FF, HFF⟩ : ∃ FF, Hid (cellsI Z = FF) := ⟨_, rfl⟩
            have F1 : Hid (∀ q, q < j * 1 → (cellsI A)[q]? = FF[0 * 1 + q]?) := fun q hq => by rw [← HFF.out, ← HZ.out]; exact fin_1 A D _ j q AL.out hq
            have F2 : Hid (∀ q, q < 1 * 1 → (cellsI [(i : Int)])[q]? = FF[j * 1 + q]?) := fun q hq => by rw [← HFF.out, ← HZ.out]; exact fin_2 A D _ j q AL.out hq
            have F3 : Hid (∀ q, (cellsI D)[q]? = FF[(j + 1) * 1 + q]?) := fun q => by rw [← HFF.out, ← HZ.out]; exact fin_3 A D _ j q AL.out
            have ZL : Hid (Z.length = j + 1 + (L - j)) := by show _ = _; rw [← HZ.out, List.length_append, List.length_append, AL.out, DL.out]; rfl
            have FL : Hid (FF.length = (j + 1 + (L - j)) * 1) := by show _ = _; rw [← HFF.out, cellsI_len, ZL.out, Nat.mul_one]
            go_wp2_with fail
            have hne := KR.later_some (frel W.heap.size 3 FF 1) W

            refine KR.wp_region_k (E := frel W.heap.size 3 FF 1) (fun _ _ _ _ => True) (by kernel_rfl) (by kernel_rfl) (by kernel_rfl) ?_
            refine KR.lexK_some (fun u w' => LitF W.heap.size 3 w' u 0 #[]) (fun u => LitF.up (by simp)) rfl (fun w1' he1 _ => ?_) ?_
            · exact ⟨.slice (some ⟨w1'.heap.size, 0, none⟩) 0 0, w1'.alloc (.cells #[] 3), by kernel_rfl, ExtF.ofExt (ext_alloc _ _), _, rfl, he1.size, heap_alloc_top _ _⟩
            intro uA wA _ _ _
            simp only [Act.put, List.setIfInBounds_toArray, List.set_cons_succ, List.set_cons_zero]
            refine KR.lexK_take 3 (by kernel_rfl) ?_
            simp only [List.take_succ_cons, List.take_zero, List.drop_succ_cons, List.drop_zero]
            repeat (go_big_quiet_step (fail))
            refine wpQuiet_nil ?_
            refine KR.lexK_some (fun u w' => OwnF W.heap.size 3 FF 1 w' u j ∧ (j = 0 → ∃ a', u = .slice a' 0 0)) (fun u w1' w2' h12 h => ⟨OwnF.up _ _ h12 h.1, h.2⟩) rfl (fun w2' he2 hf2 => ?_) ?_
            · have hb := (hf2 32 (by decide)).2 rfl
              have e2 : Ext W w2' := he2.ext
              obtain ⟨g56, hg56, _⟩ := id hb
              obtain ⟨u2, w3', q1, q2, q3, q4⟩ := append_F (P := Try.prog) (lo := 1) 23 23 _ Try.underlying23 infoI64 rfl (by decide) _ _ 0 j _ _ (cellsI A) hb.own rfl N1.out.2.1 (by rw [cellsI_len, AL.out, Nat.mul_one]) (fun ad hd q u hq => e2.cellOf (N1.out.2.2 ad hd q u hq)) (cellsI_one A) F1.out
                (by
                  by_cases h0 : j = 0
                  · exact .inl h0
                  · refine .inr (.inr fun a' c' hv => ?_)
                    rw [hg56] at hv
                    simp only [Value.slice.injEq] at hv
                    omega) (by unfold maxLen; omega) (by omega) he2.size
              rw [Nat.zero_add] at q3
              refine ⟨u2, w3', run_append_op rfl rfl rfl q1, q2, q3, fun h0 => ?_⟩
              have := q4 _ _ hg56 (by omega)
              rw [h0] at this
              exact this
            intro uB wB _ _ _
            simp only [Act.put, List.setIfInBounds_toArray, List.set_cons_succ, List.set_cons_zero]
            refine KR.lexK_take 1 (by kernel_rfl) ?_
            simp only [List.take_succ_cons, List.take_zero, List.drop_succ_cons, List.drop_zero]
            repeat (go_big_quiet_step (fail))
            refine wpQuiet_nil ?_
            refine KR.lexK_some (fun u w' => LitF W.heap.size 3 w' u 1 #[.int .i64 (i : Int)]) (fun u => LitF.up (by simp)) rfl (fun w1' he1 _ => ?_) ?_
            · exact ⟨.slice (some ⟨w1'.heap.size, 0, none⟩) 1 1, w1'.alloc (.cells #[.int .i64 (i : Int)] 3), by kernel_rfl, ExtF.ofExt (ext_alloc _ _), _, rfl, he1.size, heap_alloc_top _ _⟩
            intro uC wC _ _ _
            simp only [Act.put, List.setIfInBounds_toArray, List.set_cons_succ, List.set_cons_zero]
            refine KR.lexK_some (fun u w' => OwnF W.heap.size 3 FF 1 w' u (j + 1)) (fun u => OwnF.up) rfl (fun w2' he2 hf2 => ?_) ?_
            · have hb := (hf2 36 (by decide)).1.2 rfl
              have hl := (hf2 38 (by decide)).2 rfl
              obtain ⟨ad, had, hnew⟩ := hl.news
              obtain ⟨u2, w3', q1, q2, q3, q4⟩ := append_F (P := Try.prog) (lo := 1) 23 23 _ Try.underlying23 infoI64 rfl (by decide) _ _ j 1 (some ad) 1 (cellsI [(i : Int)]) hb.1 had (fun h => by cases h) rfl (fun ad' hd q u hq => by
                  simp only [Option.some.injEq] at hd
                  subst hd
                  exact hnew q u hq) (cellsI_one _) F2.out
                (by
                  by_cases h0 : j = 0
                  · refine .inr (.inr fun a' c' hv => ?_)
                    obtain ⟨a'', h1⟩ := hb.2 h0
                    rw [h1] at hv
                    simp only [Value.slice.injEq] at hv
                    omega
                  · exact .inr (.inl (by omega))) (by unfold maxLen; omega) (by rw [FL.out]; omega) he2.size
              exact ⟨u2, w3', run_append_op rfl rfl rfl q1, q2, q3⟩
            intro uD wD _ _ _
            simp only [Act.put, List.setIfInBounds_toArray, List.set_cons_succ, List.set_cons_zero]
            refine KR.lexK_take 3 (by kernel_rfl) ?_
            simp only [List.take_succ_cons, List.take_zero, List.drop_succ_cons, List.drop_zero]
            repeat (go_big_quiet_step (fail))
            refine wpQuiet_nil ?_
            refine KR.lexK_some (fun u w' => OwnF W.heap.size 3 FF 1 w' u (j + 1 + (L - j))) (fun u => OwnF.up) rfl (fun w2' he2 hf2 => ?_) ?_
            · have hb := (hf2 39 (by decide)).2 rfl
              have e2 : Ext W w2' := he2.ext
              obtain ⟨u2, w3', q1, q2, q3, q4⟩ := append_F (P := Try.prog) (lo := 1) 23 23 _ Try.underlying23 infoI64 rfl (by decide) _ _ (j + 1) (L - j) _ _ (cellsI D) hb rfl N2.out.2.1 (by rw [cellsI_len, DL.out, Nat.mul_one]) (fun ad hd q u hq => e2.cellOf (N2.out.2.2 ad hd q u hq)) (cellsI_one D) (fun q _ => F3.out q)
                (by
                  by_cases h0 : L - j = 0
                  · exact .inl h0
                  · exact .inr (.inl (by omega))) (by unfold maxLen; omega) (by rw [FL.out]; omega) he2.size
              exact ⟨u2, w3', run_append_op rfl rfl rfl q1, q2, q3⟩
            intro uE wE _ _ _
            simp only [Act.put, List.setIfInBounds_toArray, List.set_cons_succ, List.set_cons_zero]
            refine KR.lexK_take 1 (by kernel_rfl) ?_
            simp only [List.take_succ_cons, List.take_zero, List.drop_succ_cons, List.drop_zero]
            repeat (go_big_quiet_step (fail))
            refine wpQuiet_nil ?_
            refine KR.lexK_nil ?_
            intro w5 he5 hf5
            have OF := (hf5 43).2 rfl
            have EF : Ext W w5 := he5.ext
            have OP : Hid (Own .i64 3 w.heap.size w5 uE Z) := by
              rw [← HFF.out] at OF
              exact (OF.own ZL.out).low HEW.out.size
            have XE : Hid (Ext w w5) := HEW.out.trans EF
            clear hne r1 r2 he5 hf5 OF EF
            go_wp2
            go_roundw
            case rel => exact ⟨i + 1, ZZ, by omega, by go_num, ZS, ZP, (show Own _ _ _ _ _ _ by rw [← ZQ.out]; exact OP.out), XE⟩
            case measure => simp [intOf]; omega
    · have hlt' : decide ((i : Int) < n) = false := by simp; omega
      have hin : n = i := by omega
      have HII : Hid (InOrd s out) := ⟨by rw [HN.out, hin]; exact HPO.out, HSO.out⟩
      go_wp2
      go_ret
      exact ⟨_, out, rfl, HII.out, HO.out, HE.out⟩
end Go.Proofs.Ythohogbefpoclaa
