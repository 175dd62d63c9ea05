/- Contract of the document's own test of first places: whorlref12.may. -/
import Derived.Test.YtpibjmigblllnaaKinRFirst
import Derived.Test.YtpibjmigblllnaaIndIs
import Derived.Test.YtpibjmigblllnaaFinInt
import Derived.Test.YtpibjmigblllnaaRefInts
namespace Go.Proofs.Ytpibjmigblllnaa
set_option linter.unusedVariables false
set_option linter.unusedSimpArgs false
open Go.RowKit

theorem pairI_at {R : Int → Int → Prop} {l : List Int} (h : l.Pairwise R) {i j : Nat} (hij : i < j) (hj : j < l.length) : R (l.getD i 0) (l.getD j 0) := by
  have := List.pairwise_iff_getElem.1 h i j (by omega) hj hij
  simpa [List.getD, List.getElem?_eq_getElem hj, List.getElem?_eq_getElem (show i < l.length by omega)] using this
/-- A number put into its place. -/
theorem insI_at {l : List Int} {x : Int} {j : Nat} (h : l.Pairwise (· ≤ ·)) (hj : j ≤ l.length) (h1 : ∀ q, j ≤ q → q < l.length → x < l.getD q 0) (h2 : j = 0 ∨ l.getD (j - 1) 0 ≤ x) :
    (l.take j ++ [x] ++ l.drop j).Pairwise (· ≤ ·) ∧ (l.take j ++ [x] ++ l.drop j).Perm (l ++ [x]) := by
  have ht : ∀ a ∈ l.take j, a ≤ x := fun a ha => by
    obtain ⟨q, hq, rfl⟩ := mem_getI ha
    rw [List.length_take] at hq
    have e : (l.take j).getD q 0 = l.getD q 0 := by
      simp only [List.getD_eq_getElem?_getD, List.getElem?_take]
      rw [if_pos (by omega)]
    rw [e]
    rcases h2 with h2 | h2
    · omega
    · by_cases e2 : q = j - 1
      · rw [e2]; exact h2
      · have := pairI_at h (show q < j - 1 by omega) (by omega)
        omega
  have hd : ∀ a ∈ l.drop j, x ≤ a := fun a ha => by
    obtain ⟨q, hq, rfl⟩ := mem_getI ha
    rw [List.length_drop] at hq
    have e : (l.drop j).getD q 0 = l.getD (j + q) 0 := by simp only [List.getD_eq_getElem?_getD, List.getElem?_drop]
    rw [e]
    have := h1 (j + q) (by omega) (by omega)
    omega
  constructor
  · rw [List.append_assoc, List.pairwise_append]
    refine ⟨h.sublist (List.take_sublist _ _), ?_, fun a ha b hb => ?_⟩
    · rw [List.singleton_append, List.pairwise_cons]
      exact ⟨hd, h.sublist (List.drop_sublist _ _)⟩
    · rcases List.mem_append.1 hb with hb | hb
      · rw [List.mem_singleton.1 hb]; exact ht a ha
      · have := ht a ha
        have := hd b hb
        omega
  · have e : l ++ [x] = l.take j ++ (l.drop j ++ [x]) := by rw [← List.append_assoc, List.take_append_drop]
    rw [e, List.append_assoc]
    exact List.Perm.append_left _ List.perm_append_comm

set_option maxHeartbeats 2000000 in
theorem rmay_any (sv fv : Value) (s fs : List Int) (w : World) (hs : Sl .i64 w sv s) (hf : Sl .i64 w fv fs) (hlen : s.length ≤ 1000000) (hlen2 : fs.length ≤ 100000) :
    Calls Try.prog 27 #[sv, fv] w fun e w' => e = .returned (.bool (firB s fs)) ∧ Ext w w' := by
  have HV := hide' hs
  have HU := hide' hf
  have C := hide' (rfirst_any _ s w hs hlen)
  obtain ⟨a, c, rfl, _⟩ := hs
  obtain ⟨a', c', rfl, _⟩ := hf
  obtain ⟨_, _, hcm, hcv⟩ := HU.out.int
  have CV := hide' hcv
  have HFL : Hid ((natL (firstN s)).length ≤ 1000000) := by show _ ≤ _; rw [natL_len]; exact Nat.le_trans (firN_len _ _) hlen
  have HFS : Hid ((natL (firstN s)).Pairwise (· ≤ ·)) := by
    show List.Pairwise _ _
    unfold natL
    rw [List.pairwise_map]
    exact (firN_sorted s s.length).imp fun h => by omega
  obtain ⟨FN, HFN⟩ : ∃ n, Hid (natL (firstN s) = n) := ⟨_, rfl⟩
  have HFB : Hid (∀ out : List Int, out.Pairwise (· ≤ ·) → out.Perm fs → decide (FN = out) = firB s fs) := fun out h1 h2 => by
    rw [Bool.eq_iff_iff, firB_iff, HFN.out, decide_eq_true_eq]
    constructor
    · intro e
      rw [e]
      exact h2.symm
    · intro h
      rw [HFN.out] at HFS
      exact List.Perm.eq_of_pairwise (fun a b _ _ h3 h4 => Int.le_antisymm h3 h4) HFS.out h1 (h2.trans h).symm
  obtain ⟨n, HN⟩ : ∃ n, Hid (fs.length = n) := ⟨_, rfl⟩
  rw [HFN.out] at C HFL
  rw [HN.out] at CV hlen2 HU ⊢
  clear hcv hcm HFS
  go_enter Try.func27, Try.ntmps27
  go_wp2_with fail
  refine C.out.mono ?_
  rintro e w1 ⟨s1, rfl, ho, he1⟩
  have O1 := hide' ho.sl
  have HE1 := hide' he1
  clear he1 ho C
  go_wp2
  go_loopw [6, 7] (fun ov vi wr => ∃ (i : Nat) (out : List Int), i ≤ n ∧ vi = .int .i64 i ∧ Hid (out.Pairwise (· ≤ ·)) ∧ Hid (out.Perm (fs.take i)) ∧
    Hid (Own .i64 3 w1.heap.size wr ov out) ∧ Hid (Ext w1 wr)) (fun _ vi _ => n - (intOf vi).toNat)
  case atStart => exact ⟨0, [], Nat.zero_le _, rfl, List.Pairwise.nil, (show List.Perm _ _ by rw [List.take_zero]), Own.nil _ _ _ _, Ext.refl _⟩
  case round =>
    obtain ⟨i, out, hi, rfl, HSO, HPO, HO, HE⟩ := hrel
    by_cases hlt : i < n
    · have hlt' : (i : Int) < n := by omega
      obtain ⟨g1, o1, rfl, k1⟩ := CV.out (by omega)
      have C1 := hide' (HE1.out.cellOf (k1 i hlt))
      clear k1
      have HTS := hide' (takeI_succ (l := fs) (i := i) (by rw [HN.out]; exact hlt))
      obtain ⟨p, HZZ⟩ : ∃ z, Hid (fs.getD i 0 = z) := ⟨_, rfl⟩
      rw [HZZ.out] at C1 HTS
      have HLI : Hid (out.length = i) := by
        show _ = _
        rw [HPO.out.length_eq, List.length_take, HN.out]
        omega
      obtain ⟨L, HL⟩ : ∃ L, Hid (out.length = L) := ⟨_, rfl⟩
      have hLi : L = i := HL.out.symm.trans HLI.out
      have hL : L ≤ 100000 := by omega
      have HLi := hide' hLi
      clear hLi
      obtain ⟨oa, oc, hov, hoc1, hoc2, _⟩ := HO.out.sl
      unfold maxLen at hoc2
      rw [HL.out] at hov hoc1
      subst hov
      have HOL := HL
      have INP : Hid (∀ j, j ≤ L → (∀ q, j ≤ q → q < L → p < out.getD q 0) → (j = 0 ∨ out.getD (j - 1) 0 ≤ p) → (out.take j ++ [p] ++ out.drop j).Pairwise (· ≤ ·) ∧ (out.take j ++ [p] ++ out.drop j).Perm (fs.take (i + 1))) := fun j h1 h2 h3 => by
        rw [← HL.out] at h1 h2
        obtain ⟨k1, k2⟩ := insI_at HSO.out h1 h2 h3
        refine ⟨k1, k2.trans ?_⟩
        rw [HTS.out]
        exact HPO.out.append_right _
      go_wp2
      go_loopw [8] (fun vj wr => ∃ (j : Nat), j ≤ L ∧ vj = .int .i64 j ∧ Hid (∀ q, j ≤ q → q < L → p < out.getD q 0) ∧ Hid (Own .i64 3 w1.heap.size wr (.slice oa L oc) out) ∧ Hid (Ext w1 wr)) (fun vj _ => (intOf vj).toNat)
      case atStart => exact ⟨L, Nat.le_refl _, rfl, (fun q h1 h2 => by omega), HO, HE⟩
      case round =>
        clear HO HE
        obtain ⟨j, hj, rfl, IN, HO, HE⟩ := hrel
        by_cases hj0 : j = 0
        · have ZQ := hide' (INP.out j hj IN.out (.inl hj0))
          have d0 : decide ((0 : Int) < (j : Int)) = false := by simp; omega
          have d1 : decide (0 < j) = false := by simp; omega
          clear hj0
          go_wp2_with fail
          go_quiet (fail)
          have HOW := hide' (HO.out.ext (Ext.drewN wr nq))
          have HEW := hide' (HE.out.trans (Ext.drewN wr nq))
          generalize wr.drewN nq = W at *
          clear d0 d1 HO HE
          have c1 := HEW.out.cellOf C1.out
          have SW := hide' HOW.out.sl
          obtain ⟨r1, s1⟩ := SW.out.runTake (P := Try.prog) 22 3 Try.underlying22 sizeI64 j (by rw [HOL.out]; exact hj)
          obtain ⟨da, r2, s2, _⟩ := SW.out.runDrop (P := Try.prog) 22 3 Try.underlying22 sizeI64 j (by rw [HOL.out]; exact hj)
          have N1 := hide' s1.newsI
          have N2 := hide' s2.newsI
          clear s1 s2 SW
          have AL : Hid ((out.take j).length = j) := by show _ = _; rw [List.length_take, HOL.out]; omega
          have DL : Hid ((out.drop j).length = L - j) := by show _ = _; rw [List.length_drop, HOL.out]
          obtain ⟨A, HAA⟩ : ∃ A, Hid (out.take j = A) := ⟨_, rfl⟩
          obtain ⟨D, HDD⟩ : ∃ D, Hid (out.drop j = D) := ⟨_, rfl⟩
          rw [HAA.out] at N1 AL ZQ
          rw [HDD.out] at N2 DL ZQ
          obtain ⟨Z, HZ⟩ : ∃ Z, Hid (A ++ [p] ++ D = Z) := ⟨_, rfl⟩
          rw [HZ.out] at ZQ
          obtain ⟨FF, HFF⟩ : ∃ FF, Hid (cellsI Z = FF) := ⟨_, rfl⟩
          have F1 : Hid (∀ q, q < j * 1 → (cellsI A)[q]? = FF[0 * 1 + q]?) := fun q hq => by rw [← HFF.out, ← HZ.out]; exact fin_1 A D _ j q AL.out hq
          have F2 : Hid (∀ q, q < 1 * 1 → (cellsI [p])[q]? = FF[j * 1 + q]?) := fun q hq => by rw [← HFF.out, ← HZ.out]; exact fin_2 A D _ j q AL.out hq
          have F3 : Hid (∀ q, (cellsI D)[q]? = FF[(j + 1) * 1 + q]?) := fun q => by rw [← HFF.out, ← HZ.out]; exact fin_3 A D _ j q AL.out
          have ZL : Hid (Z.length = j + 1 + (L - j)) := by show _ = _; rw [← HZ.out, List.length_append, List.length_append, AL.out, DL.out]; rfl
          have FL : Hid (FF.length = (j + 1 + (L - j)) * 1) := by show _ = _; rw [← HFF.out, cellsI_len, ZL.out, Nat.mul_one]
          go_wp2_with fail
          have hne := KR.later_some (frel W.heap.size 3 FF 1) W
          have l1 : ∀ l : KR.Later (frel W.heap.size 3 FF 1) W, l.val.cell? ⟨g1, o1 + i, none⟩ = some (.int .i64 p) := fun l => (ExtF.ext l.ext).cellOf c1
          refine KR.wp_region_k (E := frel W.heap.size 3 FF 1) (fun _ _ _ _ => True) (by kernel_rfl) (by kernel_rfl) (by kernel_rfl) ?_
          refine KR.lexK_some (fun u w' => LitF W.heap.size 3 w' u 0 #[]) (fun u => LitF.up (by simp)) rfl (fun w1' he1 _ => ?_) ?_
          · exact ⟨.slice (some ⟨w1'.heap.size, 0, none⟩) 0 0, w1'.alloc (.cells #[] 3), by kernel_rfl, ExtF.ofExt (ext_alloc _ _), _, rfl, he1.size, heap_alloc_top _ _⟩
          intro uA wA _ _ _
          simp only [Act.put, List.setIfInBounds_toArray, List.set_cons_succ, List.set_cons_zero]
          refine KR.lexK_take 3 (by kernel_rfl) ?_
          simp only [List.take_succ_cons, List.take_zero, List.drop_succ_cons, List.drop_zero]
          repeat (go_big_quiet_step (fail))
          refine wpQuiet_nil ?_
          refine KR.lexK_some (fun u w' => OwnF W.heap.size 3 FF 1 w' u j ∧ (j = 0 → ∃ a', u = .slice a' 0 0)) (fun u w1' w2' h12 h => ⟨OwnF.up _ _ h12 h.1, h.2⟩) rfl (fun w2' he2 hf2 => ?_) ?_
          · have hb := (hf2 35 (by decide)).2 rfl
            have e2 : Ext W w2' := he2.ext
            obtain ⟨g56, hg56, _⟩ := id hb
            obtain ⟨u2, w3', q1, q2, q3, q4⟩ := append_F (P := Try.prog) (lo := 1) 22 22 _ Try.underlying22 infoI64 rfl (by decide) _ _ 0 j _ _ (cellsI A) hb.own rfl N1.out.2.1 (by rw [cellsI_len, AL.out, Nat.mul_one]) (fun ad hd q u hq => e2.cellOf (N1.out.2.2 ad hd q u hq)) (cellsI_one A) F1.out
              (by
                by_cases h0 : j = 0
                · exact .inl h0
                · refine .inr (.inr fun a' c' hv => ?_)
                  rw [hg56] at hv
                  simp only [Value.slice.injEq] at hv
                  omega) (by unfold maxLen; omega) (by omega) he2.size
            rw [Nat.zero_add] at q3
            refine ⟨u2, w3', run_append_op rfl rfl rfl q1, q2, q3, fun h0 => ?_⟩
            have := q4 _ _ hg56 (by omega)
            rw [h0] at this
            exact this
          intro uB wB _ _ _
          simp only [Act.put, List.setIfInBounds_toArray, List.set_cons_succ, List.set_cons_zero]
          refine KR.lexK_take 4 (by kernel_rfl) ?_
          simp only [List.take_succ_cons, List.take_zero, List.drop_succ_cons, List.drop_zero]
          repeat (go_big_quiet_step (fail))
          refine wpQuiet_nil ?_
          refine KR.lexK_some (fun u w' => LitF W.heap.size 3 w' u 1 #[.int .i64 p]) (fun u => LitF.up (by simp)) rfl (fun w1' he1 _ => ?_) ?_
          · exact ⟨.slice (some ⟨w1'.heap.size, 0, none⟩) 1 1, w1'.alloc (.cells #[.int .i64 p] 3), by kernel_rfl, ExtF.ofExt (ext_alloc _ _), _, rfl, he1.size, heap_alloc_top _ _⟩
          intro uC wC _ _ _
          simp only [Act.put, List.setIfInBounds_toArray, List.set_cons_succ, List.set_cons_zero]
          refine KR.lexK_some (fun u w' => OwnF W.heap.size 3 FF 1 w' u (j + 1)) (fun u => OwnF.up) rfl (fun w2' he2 hf2 => ?_) ?_
          · have hb := (hf2 39 (by decide)).1.2 rfl
            have hl := (hf2 44 (by decide)).2 rfl
            obtain ⟨ad, had, hnew⟩ := hl.news
            obtain ⟨u2, w3', q1, q2, q3, q4⟩ := append_F (P := Try.prog) (lo := 1) 22 22 _ Try.underlying22 infoI64 rfl (by decide) _ _ j 1 (some ad) 1 (cellsI [p]) hb.1 had (fun h => by cases h) rfl (fun ad' hd q u hq => by
                simp only [Option.some.injEq] at hd
                subst hd
                exact hnew q u hq) (cellsI_one _) F2.out
              (by
                by_cases h0 : j = 0
                · refine .inr (.inr fun a' c' hv => ?_)
                  obtain ⟨a'', h1⟩ := hb.2 h0
                  rw [h1] at hv
                  simp only [Value.slice.injEq] at hv
                  omega
                · exact .inr (.inl (by omega))) (by unfold maxLen; omega) (by rw [FL.out]; omega) he2.size
            exact ⟨u2, w3', run_append_op rfl rfl rfl q1, q2, q3⟩
          intro uD wD _ _ _
          simp only [Act.put, List.setIfInBounds_toArray, List.set_cons_succ, List.set_cons_zero]
          refine KR.lexK_take 3 (by kernel_rfl) ?_
          simp only [List.take_succ_cons, List.take_zero, List.drop_succ_cons, List.drop_zero]
          repeat (go_big_quiet_step (fail))
          refine wpQuiet_nil ?_
          refine KR.lexK_some (fun u w' => OwnF W.heap.size 3 FF 1 w' u (j + 1 + (L - j))) (fun u => OwnF.up) rfl (fun w2' he2 hf2 => ?_) ?_
          · have hb := (hf2 45 (by decide)).2 rfl
            have e2 : Ext W w2' := he2.ext
            obtain ⟨u2, w3', q1, q2, q3, q4⟩ := append_F (P := Try.prog) (lo := 1) 22 22 _ Try.underlying22 infoI64 rfl (by decide) _ _ (j + 1) (L - j) _ _ (cellsI D) hb rfl N2.out.2.1 (by rw [cellsI_len, DL.out, Nat.mul_one]) (fun ad hd q u hq => e2.cellOf (N2.out.2.2 ad hd q u hq)) (cellsI_one D) (fun q _ => F3.out q)
              (by
                by_cases h0 : L - j = 0
                · exact .inl h0
                · exact .inr (.inl (by omega))) (by unfold maxLen; omega) (by rw [FL.out]; omega) he2.size
            exact ⟨u2, w3', run_append_op rfl rfl rfl q1, q2, q3⟩
          intro uE wE _ _ _
          simp only [Act.put, List.setIfInBounds_toArray, List.set_cons_succ, List.set_cons_zero]
          refine KR.lexK_take 1 (by kernel_rfl) ?_
          simp only [List.take_succ_cons, List.take_zero, List.drop_succ_cons, List.drop_zero]
          repeat (go_big_quiet_step (fail))
          refine wpQuiet_nil ?_
          refine KR.lexK_nil ?_
          intro w5 he5 hf5
          have OF := (hf5 49).2 rfl
          have EF : Ext W w5 := he5.ext
          have OP : Hid (Own .i64 3 w1.heap.size w5 uE Z) := by
            rw [← HFF.out] at OF
            exact (OF.own ZL.out).low HEW.out.size
          have XE : Hid (Ext w1 w5) := HEW.out.trans EF
          clear hne r1 r2 he5 hf5 OF EF
          clear l1
          go_wp2
          go_roundw
          case rel => exact ⟨i + 1, Z, by omega, by go_num, ZQ.out.1, ZQ.out.2, OP, XE⟩
          case measure => simp [intOf]; omega
        · obtain ⟨J, HJ⟩ : ∃ J, Hid (j = J + 1) := ⟨j - 1, by show _ = _; omega⟩
          have hJL : J < L := by have := HJ.out; omega
          have hJL' : (J : Int) < L := by omega
          have hJj : (j : Int) - 1 = (J : Int) := by have := HJ.out; omega
          have HSJ : Hid (j - 1 = J) := by show _ = _; have := HJ.out; omega
          have wJ : IntKind.i64.wrap (J : Int) = (J : Int) := by rw [IntKind.wrap_i64]; omega
          have d0 : decide ((0 : Int) < (j : Int)) = true := by simp; omega
          have d1 : (0 : Int) < (j : Int) := by omega
          have d2 : 0 < j := by omega
          obtain ⟨_, _, _, hco⟩ := HO.out.sl.int
          obtain ⟨og, ooff, hoa, ocell⟩ := hco (by omega)
          have c3 := ocell J hJL
          clear hco ocell
          obtain ⟨o, HOO⟩ : ∃ o, Hid (out.getD J 0 = o) := ⟨_, rfl⟩
          rw [HOO.out] at c3
          have c1 := HE.out.cellOf C1.out
          subst hoa
          by_cases hyx : p < o
          · have IN2 : Hid (∀ q, J ≤ q → q < L → p < out.getD q 0) := fun q h1 h2 => by
              by_cases hq : q = J
              · subst hq; rw [HOO.out]; exact hyx
              · exact IN.out q (by have := HJ.out; omega) h2
            clear hj0
            go_wp2_with fail
            go_quiet (fail)
            go_wp2
            go_roundw
            case rel => exact ⟨J, by omega, by first | rfl | go_num, IN2, HO.out.ext (Ext.drewN _ _), HE.out.trans (Ext.drewN _ _)⟩
            case measure => simp [intOf]; have := HJ.out; omega
          · have ZQ := hide' (INP.out j hj IN.out (.inr (by rw [HSJ.out, HOO.out]; omega)))
            have dyx : decide (p < o) = false := by simp; omega
            clear hyx hj0
            go_wp2_with fail
            go_quiet (fail)
            have HOW := hide' (HO.out.ext (Ext.drewN wr nq))
            have HEW := hide' (HE.out.trans (Ext.drewN wr nq))
            generalize wr.drewN nq = W at *
            clear d0 d1 d2 HO HE c1 c3 dyx hJj
            have c1 := HEW.out.cellOf C1.out
            have SW := hide' HOW.out.sl
            obtain ⟨r1, s1⟩ := SW.out.runTake (P := Try.prog) 22 3 Try.underlying22 sizeI64 j (by rw [HOL.out]; exact hj)
            obtain ⟨da, r2, s2, _⟩ := SW.out.runDrop (P := Try.prog) 22 3 Try.underlying22 sizeI64 j (by rw [HOL.out]; exact hj)
            have N1 := hide' s1.newsI
            have N2 := hide' s2.newsI
            clear s1 s2 SW
            have AL : Hid ((out.take j).length = j) := by show _ = _; rw [List.length_take, HOL.out]; omega
            have DL : Hid ((out.drop j).length = L - j) := by show _ = _; rw [List.length_drop, HOL.out]
            obtain ⟨A, HAA⟩ : ∃ A, Hid (out.take j = A) := ⟨_, rfl⟩
            obtain ⟨D, HDD⟩ : ∃ D, Hid (out.drop j = D) := ⟨_, rfl⟩
            rw [HAA.out] at N1 AL ZQ
            rw [HDD.out] at N2 DL ZQ
            obtain ⟨Z, HZ⟩ : ∃ Z, Hid (A ++ [p] ++ D = Z) := ⟨_, rfl⟩
            rw [HZ.out] at ZQ
            obtain ⟨FF, HFF⟩ : ∃ FF, Hid (cellsI Z = FF) := ⟨_, rfl⟩
            have F1 : Hid (∀ q, q < j * 1 → (cellsI A)[q]? = FF[0 * 1 + q]?) := fun q hq => by rw [← HFF.out, ← HZ.out]; exact fin_1 A D _ j q AL.out hq
            have F2 : Hid (∀ q, q < 1 * 1 → (cellsI [p])[q]? = FF[j * 1 + q]?) := fun q hq => by rw [← HFF.out, ← HZ.out]; exact fin_2 A D _ j q AL.out hq
            have F3 : Hid (∀ q, (cellsI D)[q]? = FF[(j + 1) * 1 + q]?) := fun q => by rw [← HFF.out, ← HZ.out]; exact fin_3 A D _ j q AL.out
            have ZL : Hid (Z.length = j + 1 + (L - j)) := by show _ = _; rw [← HZ.out, List.length_append, List.length_append, AL.out, DL.out]; rfl
            have FL : Hid (FF.length = (j + 1 + (L - j)) * 1) := by show _ = _; rw [← HFF.out, cellsI_len, ZL.out, Nat.mul_one]
            go_wp2_with fail
            have hne := KR.later_some (frel W.heap.size 3 FF 1) W
            have l1 : ∀ l : KR.Later (frel W.heap.size 3 FF 1) W, l.val.cell? ⟨g1, o1 + i, none⟩ = some (.int .i64 p) := fun l => (ExtF.ext l.ext).cellOf c1
            refine KR.wp_region_k (E := frel W.heap.size 3 FF 1) (fun _ _ _ _ => True) (by kernel_rfl) (by kernel_rfl) (by kernel_rfl) ?_
            refine KR.lexK_some (fun u w' => LitF W.heap.size 3 w' u 0 #[]) (fun u => LitF.up (by simp)) rfl (fun w1' he1 _ => ?_) ?_
            · exact ⟨.slice (some ⟨w1'.heap.size, 0, none⟩) 0 0, w1'.alloc (.cells #[] 3), by kernel_rfl, ExtF.ofExt (ext_alloc _ _), _, rfl, he1.size, heap_alloc_top _ _⟩
            intro uA wA _ _ _
            simp only [Act.put, List.setIfInBounds_toArray, List.set_cons_succ, List.set_cons_zero]
            refine KR.lexK_take 3 (by kernel_rfl) ?_
            simp only [List.take_succ_cons, List.take_zero, List.drop_succ_cons, List.drop_zero]
            repeat (go_big_quiet_step (fail))
            refine wpQuiet_nil ?_
            refine KR.lexK_some (fun u w' => OwnF W.heap.size 3 FF 1 w' u j ∧ (j = 0 → ∃ a', u = .slice a' 0 0)) (fun u w1' w2' h12 h => ⟨OwnF.up _ _ h12 h.1, h.2⟩) rfl (fun w2' he2 hf2 => ?_) ?_
            · have hb := (hf2 35 (by decide)).2 rfl
              have e2 : Ext W w2' := he2.ext
              obtain ⟨g56, hg56, _⟩ := id hb
              obtain ⟨u2, w3', q1, q2, q3, q4⟩ := append_F (P := Try.prog) (lo := 1) 22 22 _ Try.underlying22 infoI64 rfl (by decide) _ _ 0 j _ _ (cellsI A) hb.own rfl N1.out.2.1 (by rw [cellsI_len, AL.out, Nat.mul_one]) (fun ad hd q u hq => e2.cellOf (N1.out.2.2 ad hd q u hq)) (cellsI_one A) F1.out
                (by
                  by_cases h0 : j = 0
                  · exact .inl h0
                  · refine .inr (.inr fun a' c' hv => ?_)
                    rw [hg56] at hv
                    simp only [Value.slice.injEq] at hv
                    omega) (by unfold maxLen; omega) (by omega) he2.size
              rw [Nat.zero_add] at q3
              refine ⟨u2, w3', run_append_op rfl rfl rfl q1, q2, q3, fun h0 => ?_⟩
              have := q4 _ _ hg56 (by omega)
              rw [h0] at this
              exact this
            intro uB wB _ _ _
            simp only [Act.put, List.setIfInBounds_toArray, List.set_cons_succ, List.set_cons_zero]
            refine KR.lexK_take 4 (by kernel_rfl) ?_
            simp only [List.take_succ_cons, List.take_zero, List.drop_succ_cons, List.drop_zero]
            repeat (go_big_quiet_step (fail))
            refine wpQuiet_nil ?_
            refine KR.lexK_some (fun u w' => LitF W.heap.size 3 w' u 1 #[.int .i64 p]) (fun u => LitF.up (by simp)) rfl (fun w1' he1 _ => ?_) ?_
            · exact ⟨.slice (some ⟨w1'.heap.size, 0, none⟩) 1 1, w1'.alloc (.cells #[.int .i64 p] 3), by kernel_rfl, ExtF.ofExt (ext_alloc _ _), _, rfl, he1.size, heap_alloc_top _ _⟩
            intro uC wC _ _ _
            simp only [Act.put, List.setIfInBounds_toArray, List.set_cons_succ, List.set_cons_zero]
            refine KR.lexK_some (fun u w' => OwnF W.heap.size 3 FF 1 w' u (j + 1)) (fun u => OwnF.up) rfl (fun w2' he2 hf2 => ?_) ?_
            · have hb := (hf2 39 (by decide)).1.2 rfl
              have hl := (hf2 44 (by decide)).2 rfl
              obtain ⟨ad, had, hnew⟩ := hl.news
              obtain ⟨u2, w3', q1, q2, q3, q4⟩ := append_F (P := Try.prog) (lo := 1) 22 22 _ Try.underlying22 infoI64 rfl (by decide) _ _ j 1 (some ad) 1 (cellsI [p]) hb.1 had (fun h => by cases h) rfl (fun ad' hd q u hq => by
                  simp only [Option.some.injEq] at hd
                  subst hd
                  exact hnew q u hq) (cellsI_one _) F2.out
                (by
                  by_cases h0 : j = 0
                  · refine .inr (.inr fun a' c' hv => ?_)
                    obtain ⟨a'', h1⟩ := hb.2 h0
                    rw [h1] at hv
                    simp only [Value.slice.injEq] at hv
                    omega
                  · exact .inr (.inl (by omega))) (by unfold maxLen; omega) (by rw [FL.out]; omega) he2.size
              exact ⟨u2, w3', run_append_op rfl rfl rfl q1, q2, q3⟩
            intro uD wD _ _ _
            simp only [Act.put, List.setIfInBounds_toArray, List.set_cons_succ, List.set_cons_zero]
            refine KR.lexK_take 3 (by kernel_rfl) ?_
            simp only [List.take_succ_cons, List.take_zero, List.drop_succ_cons, List.drop_zero]
            repeat (go_big_quiet_step (fail))
            refine wpQuiet_nil ?_
            refine KR.lexK_some (fun u w' => OwnF W.heap.size 3 FF 1 w' u (j + 1 + (L - j))) (fun u => OwnF.up) rfl (fun w2' he2 hf2 => ?_) ?_
            · have hb := (hf2 45 (by decide)).2 rfl
              have e2 : Ext W w2' := he2.ext
              obtain ⟨u2, w3', q1, q2, q3, q4⟩ := append_F (P := Try.prog) (lo := 1) 22 22 _ Try.underlying22 infoI64 rfl (by decide) _ _ (j + 1) (L - j) _ _ (cellsI D) hb rfl N2.out.2.1 (by rw [cellsI_len, DL.out, Nat.mul_one]) (fun ad hd q u hq => e2.cellOf (N2.out.2.2 ad hd q u hq)) (cellsI_one D) (fun q _ => F3.out q)
                (by
                  by_cases h0 : L - j = 0
                  · exact .inl h0
                  · exact .inr (.inl (by omega))) (by unfold maxLen; omega) (by rw [FL.out]; omega) he2.size
              exact ⟨u2, w3', run_append_op rfl rfl rfl q1, q2, q3⟩
            intro uE wE _ _ _
            simp only [Act.put, List.setIfInBounds_toArray, List.set_cons_succ, List.set_cons_zero]
            refine KR.lexK_take 1 (by kernel_rfl) ?_
            simp only [List.take_succ_cons, List.take_zero, List.drop_succ_cons, List.drop_zero]
            repeat (go_big_quiet_step (fail))
            refine wpQuiet_nil ?_
            refine KR.lexK_nil ?_
            intro w5 he5 hf5
            have OF := (hf5 49).2 rfl
            have EF : Ext W w5 := he5.ext
            have OP : Hid (Own .i64 3 w1.heap.size w5 uE Z) := by
              rw [← HFF.out] at OF
              exact (OF.own ZL.out).low HEW.out.size
            have XE : Hid (Ext w1 w5) := HEW.out.trans EF
            clear hne r1 r2 he5 hf5 OF EF
            clear l1
            go_wp2
            go_roundw
            case rel => exact ⟨i + 1, Z, by omega, by go_num, ZQ.out.1, ZQ.out.2, OP, XE⟩
            case measure => simp [intOf]; omega
    · have hlt' : decide ((i : Int) < n) = false := by simp; omega
      have hin : i = n := by omega
      have HPE : Hid (out.Perm fs) := by
        have := HPO.out
        rw [List.take_of_length_le (by rw [HN.out]; omega)] at this
        exact this
      have HDD := hide' (HFB.out out HSO.out HPE.out)
      have HOL : Hid (out.length ≤ 1000000) := by show _ ≤ _; rw [HPE.out.length_eq, HN.out]; omega
      subst hin
      go_wp2_with fail
      refine (toExt (ints_any _ _ FN out wr (O1.out.ext HE.out) HO.out.sl HFL.out HOL.out)).mono ?_
      rw [HDD.out]
      rintro e w6 ⟨rfl, he⟩
      have X6 := hide' (HE1.out.trans (HE.out.trans he))
      clear he
      go_wp2
      go_ret
      exact ⟨rfl, X6.out⟩
end Go.Proofs.Ytpibjmigblllnaa
