/- Contract of skew.merge: the sample and the rest, both in order, as one order. -/
import Derived.Test.YtnacjmkconabdaaSkLess
import Derived.Test.YtnacjmkconabdaaRegApp
namespace Go.Proofs.Ytnacjmkconabdaa
set_option linter.unusedVariables false
set_option linter.unusedSimpArgs false
open Go.RowKit

theorem natL_drop (l : List Nat) (i : Nat) : natL (l.drop i) = (natL l).drop i := by simp [natL]

/-- A slice's length. -/
def slLen : Value → Nat
  | .slice _ n _ => n
  | _ => 0
theorem slLen_eq (a : Option Addr) (n c : Nat) : slLen (.slice a n c) = n := rfl

set_option maxHeartbeats 2000000 in
theorem merge_any (sv rv av bv : Value) (s r : List Int) (G A T : List Nat) (w : World) (hs : Sl .i64 w sv (tailI s)) (hrv : Sl .i64 w rv r) (ha : Sl .i64 w av (natL A)) (hb : Sl .i64 w bv (natL T)) (hnn : NonNeg s) (hr : RankT G (s.length + 3) G.length r) (hG : InSamp s G) (hA : InTwo s A) (hT : InRest s T) (hlen : s.length ≤ 200000) :
    Calls Try.prog 29 #[sv, rv, av, bv] w fun e w' => ∃ u R, e = .returned u ∧ InOrd s R ∧ Own .i64 3 w.heap.size w' u (natL R) ∧ Ext w w' := by
  have HS := hide' hs
  have HRV := hide' hrv
  have HNN := hide' hnn
  have HR := hide' hr
  have HG := hide' hG
  have HA := hide' hA
  have HT := hide' hT
  have HLEN := hide' hlen
  have hal := hA.len
  have htl := hT.len
  have HAV : Hid (Sl .i64 w av (natL (A.drop 0))) := ha
  have HBV : Hid (Sl .i64 w bv (natL (T.drop 0))) := hb
  obtain ⟨aa, ac, hae, _⟩ := id ha
  obtain ⟨ba, bc, hbe, _⟩ := id hb
  rw [natL_len] at hae hbe
  subst hae
  subst hbe
  obtain ⟨na, HNA⟩ : ∃ n, Hid (A.length = n) := ⟨_, rfl⟩
  obtain ⟨nb, HNB⟩ : ∃ n, Hid (T.length = n) := ⟨_, rfl⟩
  rw [HNA.out] at HAV hal ⊢
  rw [HNB.out] at HBV htl ⊢
  have hsum : (na : Int) + (nb : Int) = ((na + nb : Nat) : Int) := by omega
  obtain ⟨C, HC⟩ : ∃ C, Hid (na + nb = C) := ⟨_, rfl⟩
  have hC : C ≤ 400000 := by rw [← HC.out]; omega
  rw [HC.out] at hsum
  obtain ⟨w1, hmk, ho, he⟩ := make_roomI w C (by omega)
  obtain ⟨g, HGG⟩ : ∃ g, Hid (w.heap.size = g) := ⟨_, rfl⟩
  have hgw : w.heap.size ≤ g := by rw [HGG.out]; exact Nat.le_refl _
  rw [HGG.out] at ho hmk ⊢
  have O1 := hide' ho
  have X1 := hide' he
  have HTR : Hid (∀ a b c, ltE s a b → ltE s b c → ltE s a c) := fun a b c h1 h2 => ltE_trans h1 h2
  clear ho he hs hrv ha hb hnn hr hG hA hT hal htl
  go_enter Try.func29, Try.ntmps29
  go_wp2
  go_loopw [2, 3, 9] (fun va vb vm wr => ∃ (i j : Nat) (pa pb : Option Addr) (la lb ca cb : Nat) (out : List Nat), Hid (i + la = na) ∧ Hid (j + lb = nb) ∧ la ≤ 200000 ∧ lb ≤ 200000 ∧ va = .slice pa la ca ∧ vb = .slice pb lb cb ∧ Hid (Sl .i64 w va (natL (A.drop i))) ∧ Hid (Sl .i64 w vb (natL (T.drop j))) ∧ Hid (Merge (ltE s) A T i j out) ∧ Hid (Own .i64 3 g wr vm (natL out)) ∧ Hid (Ext w wr)) (fun va vb _ _ => slLen va + slLen vb)
  case atStart => exact ⟨0, 0, aa, ba, na, nb, ac, bc, [], Nat.zero_add _, Nat.zero_add _, by have := HNA.out; have := HA.out.len; have := HLEN.out; omega, by have := HNB.out; have := HT.out.len; have := HLEN.out; omega, rfl, rfl, HAV, HBV, Merge.start _ _ _, O1, X1⟩
  case round =>
    clear O1 X1 hmk HAV HBV
    obtain ⟨i, j, pa, pb, la, lb, ca, cb, out, HI, HJ, hla, hlb, rfl, rfl, HAV, HBV, HM, HO, HE⟩ := hrel
    have HOL : Hid ((natL out).length + la + lb = C) := by
      show _ = _
      have h1 := HI.out
      have h2 := HJ.out
      have h3 := HNA.out
      have h4 := HNB.out
      have h5 := HC.out
      rw [natL_len, HM.out.len (by omega) (by omega)]
      omega
    have HSZ := hide' HE.out.size
    have fin : Hid (la = 0 ∨ lb = 0 → ∀ v w2, Own .i64 3 g w2 v (natL out ++ natL (A.drop i) ++ natL (T.drop j)) → Ext w w2 → ∃ u R, Ending.returned v = Ending.returned u ∧ InOrd s R ∧ Own .i64 3 g w2 u (natL R) ∧ Ext w w2) := fun h v w2 h1 h2 => by
      have h3 := HI.out
      have h4 := HJ.out
      have h5 := HNA.out
      have h6 := HNB.out
      obtain ⟨R, hR1, hR2⟩ : ∃ R, natL out ++ natL (A.drop i) ++ natL (T.drop j) = natL R ∧ InOrd s R := by
        refine ⟨out ++ A.drop i ++ T.drop j, by simp [natL], ?_⟩
        rcases h with h | h
        · have e1 : A.drop i = [] := List.drop_eq_nil_of_le (by omega)
          have hi : i = A.length := by omega
          subst hi
          rw [e1, List.append_nil]
          have hd := (Merge.rest_right HTR.out HA.out.ord HT.out.ord (T.length - j) HM.out (by omega))
          exact merge_ord HA.out HT.out hd.done.1 hd.done.2
        · have e1 : T.drop j = [] := List.drop_eq_nil_of_le (by omega)
          have hi : j = T.length := by omega
          subst hi
          rw [e1, List.append_nil]
          have hd := (Merge.rest_left HTR.out HA.out.ord HT.out.ord (A.length - i) HM.out (by omega))
          exact merge_ord HA.out HT.out hd.done.1 hd.done.2
      rw [hR1] at h1
      exact ⟨v, R, rfl, hR2, h1, h2⟩
    by_cases hz : la = 0 ∨ lb = 0
    · have HF := hide' (fin.out hz)
      have HLJ : Hid ((natL out).length + (natL (A.drop i)).length + (natL (T.drop j)).length ≤ 400000) := by
        show _ ≤ _
        have h1 := HOL.out
        have h2 := HI.out
        have h3 := HJ.out
        have h4 := HNA.out
        have h5 := HNB.out
        rw [natL_len (A.drop i), natL_len (T.drop j), List.length_drop, List.length_drop]
        omega
      have SA := hide' (HAV.out.ext HE.out)
      obtain ⟨XA, HXA⟩ : ∃ X, Hid (natL (A.drop i) = X) := ⟨_, rfl⟩
      obtain ⟨XB, HXB⟩ : ∃ X, Hid (natL (T.drop j) = X) := ⟨_, rfl⟩
      obtain ⟨XO, HXO⟩ : ∃ X, Hid (natL out = X) := ⟨_, rfl⟩
      rw [HXA.out] at SA HLJ HF
      rw [HXB.out] at HBV HLJ HF
      rw [HXO.out] at HO HLJ HF
      by_cases ha0 : la = 0
      · have d1 : decide ((0 : Int) < la) = false := by simp; omega
        have d2 : decide (0 < la) = false := by simp; omega
        clear ha0 hz
        go_wp2_with (at_builtin; refine wpList_join _ rfl _ _ 22 rfl 3 .i64 8 Try.underlying22 infoI64 g _ _ XO XA rfl rfl HO.out SA.out ?c3 ?c5 ?_)
        case c3 => have := HLJ.out; unfold maxLen; omega
        case c5 => have := HSZ.out; have := HGG.out; omega
        intro v1 w4 ho1 hb1
        have HO1 := hide' ho1
        have HE1 : Hid (Ext w w4) := by
          rw [← HGG.out] at hb1
          exact Below.trans HE.out hb1
        have SB := hide' (HBV.out.ext HE1.out)
        have HLJ2 : Hid ((XO ++ XA).length + XB.length ≤ 400000) := by show _ ≤ _; rw [List.length_append]; exact HLJ.out
        obtain ⟨XC, HXC⟩ : ∃ X, Hid (XO ++ XA = X) := ⟨_, rfl⟩
        rw [HXC.out] at HO1 HLJ2 HF
        clear ho1 hb1
        go_wp2_with (at_builtin; refine wpList_join _ rfl _ _ 22 rfl 3 .i64 8 Try.underlying22 infoI64 g _ _ XC XB rfl rfl HO1.out SB.out ?c6 ?c7 ?_)
        case c6 => have := HLJ2.out; unfold maxLen; omega
        case c7 => have := HE1.out.size; have := HGG.out; omega
        intro v2 w5 ho2 hb2
        have HO2 := hide' ho2
        have HE2 : Hid (Ext w w5) := by
          rw [← HGG.out] at hb2
          exact Below.trans HE1.out hb2
        clear ho2 hb2
        go_wp2
        go_ret
        exact HF.out _ _ HO2.out HE2.out
      · have hb0 : lb = 0 := by omega
        have ha1 : (0 : Int) < la := by omega
        have d1 : decide ((0 : Int) < lb) = false := by simp; omega
        have d2 : decide (0 < lb) = false := by simp; omega
        clear hb0 hz ha0
        go_wp2_with (at_builtin; refine wpList_join _ rfl _ _ 22 rfl 3 .i64 8 Try.underlying22 infoI64 g _ _ XO XA rfl rfl HO.out SA.out ?c3 ?c5 ?_)
        case c3 => have := HLJ.out; unfold maxLen; omega
        case c5 => have := HSZ.out; have := HGG.out; omega
        intro v1 w4 ho1 hb1
        have HO1 := hide' ho1
        have HE1 : Hid (Ext w w4) := by
          rw [← HGG.out] at hb1
          exact Below.trans HE.out hb1
        have SB := hide' (HBV.out.ext HE1.out)
        have HLJ2 : Hid ((XO ++ XA).length + XB.length ≤ 400000) := by show _ ≤ _; rw [List.length_append]; exact HLJ.out
        obtain ⟨XC, HXC⟩ : ∃ X, Hid (XO ++ XA = X) := ⟨_, rfl⟩
        rw [HXC.out] at HO1 HLJ2 HF
        clear ho1 hb1
        go_wp2_with (at_builtin; refine wpList_join _ rfl _ _ 22 rfl 3 .i64 8 Try.underlying22 infoI64 g _ _ XC XB rfl rfl HO1.out SB.out ?c6 ?c7 ?_)
        case c6 => have := HLJ2.out; unfold maxLen; omega
        case c7 => have := HE1.out.size; have := HGG.out; omega
        intro v2 w5 ho2 hb2
        have HO2 := hide' ho2
        have HE2 : Hid (Ext w w5) := by
          rw [← HGG.out] at hb2
          exact Below.trans HE1.out hb2
        clear ho2 hb2
        go_wp2
        go_ret
        exact HF.out _ _ HO2.out HE2.out
    · have ha1 : (0 : Int) < la := by omega
      have hb1 : (0 : Int) < lb := by omega
      have hiA : i < A.length := by have := HI.out; rw [HNA.out]; omega
      have hjT : j < T.length := by have := HJ.out; rw [HNB.out]; omega
      obtain ⟨_, _, _, ka⟩ := HAV.out.nat
      obtain ⟨_, _, _, kb⟩ := HBV.out.nat
      obtain ⟨g1, o1, rfl, ka1⟩ := ka (by omega)
      obtain ⟨g2, o2, rfl, kb1⟩ := kb (by omega)
      have c1 := HE.out.cellOf (ka1 0 (by omega))
      have c2 := HE.out.cellOf (kb1 0 (by omega))
      rw [show (A.drop i).getD 0 0 = A.getD i 0 by simp [List.getD], Nat.add_zero] at c1
      rw [show (T.drop j).getD 0 0 = T.getD j 0 by simp [List.getD], Nat.add_zero] at c2
      have hma := (HA.out.mem _).1 (getN_mem hiA)
      have hmb := (HT.out.mem _).1 (getN_mem hjT)
      have HCO : Hid (Comp s.length (A.getD i 0) (T.getD j 0)) := ⟨by omega, by omega, by omega, .inl ⟨hmb.2, hma.2⟩⟩
      have HW : Hid (∀ m, Calls Try.prog 35 #[sv, rv, .int .i64 ((A.getD i 0 : Nat) : Int), .int .i64 ((T.getD j 0 : Nat) : Int)] (wr.drewN m) fun e w' => e = .returned (.bool (ltB s (A.getD i 0) (T.getD j 0))) ∧ ∃ k, w' = (wr.drewN m).drewN k) := fun m => less_any _ _ s r G _ _ _ ((HS.out.ext HE.out).drewN m) ((HRV.out.ext HE.out).drewN m) HNN.out HR.out HG.out HCO.out HLEN.out
      have HXA := hide' (fun h => HM.out.left HTR.out HA.out.ord HT.out.ord hiA h)
      have HXB := hide' (fun h => HM.out.right HTR.out HA.out.ord HT.out.ord hjT h)
      have HNE : Hid (A.getD i 0 ≠ T.getD j 0 ∧ A.getD i 0 ≤ s.length ∧ T.getD j 0 ≤ s.length) := ⟨HCO.out.2.2.1, HCO.out.1, HCO.out.2.1⟩
      obtain ⟨x, HX⟩ : ∃ x, Hid (A.getD i 0 = x) := ⟨_, rfl⟩
      obtain ⟨y, HY⟩ : ∃ x, Hid (T.getD j 0 = x) := ⟨_, rfl⟩
      rw [HX.out] at c1 HW HXA HXB HNE
      rw [HY.out] at c2 HW HXA HXB HNE
      obtain ⟨da, ra, sa, _⟩ := HAV.out.runDrop (P := Try.prog) 22 3 Try.underlying22 sizeI64 1 (by rw [natL_len, List.length_drop]; omega)
      obtain ⟨db, rb, sb, _⟩ := HBV.out.runDrop (P := Try.prog) 22 3 Try.underlying22 sizeI64 1 (by rw [natL_len, List.length_drop]; omega)
      rw [← natL_drop, List.drop_drop] at sa sb
      have SA := hide' sa
      have SB := hide' sb
      obtain ⟨la2, HLA⟩ : ∃ n, Hid (la - 1 = n) := ⟨_, rfl⟩
      obtain ⟨lb2, HLB⟩ : ∃ n, Hid (lb - 1 = n) := ⟨_, rfl⟩
      obtain ⟨ca2, HCA⟩ : ∃ n, Hid (ca - 1 = n) := ⟨_, rfl⟩
      obtain ⟨cb2, HCB⟩ : ∃ n, Hid (cb - 1 = n) := ⟨_, rfl⟩
      have hla2 : la2 < la := by rw [← HLA.out]; omega
      have hlb2 : lb2 < lb := by rw [← HLB.out]; omega
      have HI2 : Hid (i + 1 + la2 = na) := by show _ = _; rw [← HLA.out, ← HI.out]; omega
      have HJ2 : Hid (j + 1 + lb2 = nb) := by show _ = _; rw [← HLB.out, ← HJ.out]; omega
      rw [HLA.out, HCA.out] at ra SA
      rw [HLB.out, HCB.out] at rb SB
      have ra1 : ∀ W, (Instr.slice 22 (.slice (some ⟨g1, o1, none⟩) la ca) (some (.int .i64 1)) none none).run Try.prog W = .ok (.slice da la2 ca2) W := ra
      have rb1 : ∀ W, (Instr.slice 22 (.slice (some ⟨g2, o2, none⟩) lb cb) (some (.int .i64 1)) none none).run Try.prog W = .ok (.slice db lb2 cb2) W := rb
      clear ra rb
      have HL1 : Hid (((natL out).length + 1) * 8 ≤ 140737488355328 ∧ (natL out).length + 1 ≤ maxLen) := by
        have h1 := HOL.out
        show _ ∧ _
        unfold maxLen
        omega
      clear ka1 kb1 hma hmb hiA hjT sa sb fin
      cases hD : ltB s x y
      · rw [hD] at HW
        have H1 := hide' (HXB.out fun _ => ltE_total HNE.out.2.1 HNE.out.2.2 HNE.out.1 (fun g => by rw [ltB_iff.2 g] at hD; cases hD))
        clear hD HXA HXB
        go_wp2_with fail
        go_quiet ((go_at_call 35; exact Calls.quiet_of (HW.out _)))
        have HOW := hide' (HO.out.ext (Ext.drewN wr nq))
        have HEW := hide' (HE.out.trans (Ext.drewN wr nq))
        have c1' := (Ext.drewN wr nq).cellOf c2
        generalize wr.drewN nq = W at *
        have HOD : Hid (Own .i64 3 g W.drew u9 (natL out)) := HOW.out.ext (Ext.drewN W 1)
        obtain ⟨v1, w4, hrun, ho1, hb2⟩ := run_snoc (P := Try.prog) (k := .i64) W.drew 22 22 3 8 Try.underlying22 infoI64 g u9 (natL out) (y : Int) HOD.out HL1.out (by have := HEW.out.size; have := HGG.out; show g ≤ W.heap.size; omega)
        have HRUN := hide' hrun
        have HO1 : Hid (Own .i64 3 g w4 v1 (natL (out ++ [y]))) := by rw [← natL_snoc]; exact ho1
        have HE1 : Hid (Ext w w4) := by
          have hb3 := hb2
          rw [← HGG.out] at hb3
          exact Below.trans (HEW.out.trans (Ext.drewN W 1)) hb3
        clear ho1 hb2 hrun HO HE c1 c2 HW
        go_wp2_with fail
        go_region_law (refine step_append_run _ _ v1 22 rfl (.tmp 41) (.tmp 45) 22 rfl rfl (by simp [Act.eval, Act.put]) (by simp [Act.eval, Act.put]) HRUN.out ?_)
        simp only [List.getElem_toArray, List.getElem_cons_succ, List.getElem_cons_zero, Act.put, List.setIfInBounds_toArray, List.set_cons_succ, List.set_cons_zero]
        go_wp2
        go_roundw
        case rel => exact ⟨i, j + 1, _, db, la, lb2, ca, cb2, out ++ [y], HI, HJ2, hla, by omega, rfl, rfl, HAV, SB, H1, HO1, HE1⟩
        case measure => simp only [slLen_eq]; omega
      · rw [hD] at HW
        have H1 := hide' (HXA.out fun _ => ltB_iff.1 hD)
        clear hD HXA HXB
        go_wp2_with fail
        go_quiet ((go_at_call 35; exact Calls.quiet_of (HW.out _)))
        have HOW := hide' (HO.out.ext (Ext.drewN wr nq))
        have HEW := hide' (HE.out.trans (Ext.drewN wr nq))
        have c1' := (Ext.drewN wr nq).cellOf c1
        generalize wr.drewN nq = W at *
        have HOD : Hid (Own .i64 3 g W.drew u9 (natL out)) := HOW.out.ext (Ext.drewN W 1)
        obtain ⟨v1, w4, hrun, ho1, hb2⟩ := run_snoc (P := Try.prog) (k := .i64) W.drew 22 22 3 8 Try.underlying22 infoI64 g u9 (natL out) (x : Int) HOD.out HL1.out (by have := HEW.out.size; have := HGG.out; show g ≤ W.heap.size; omega)
        have HRUN := hide' hrun
        have HO1 : Hid (Own .i64 3 g w4 v1 (natL (out ++ [x]))) := by rw [← natL_snoc]; exact ho1
        have HE1 : Hid (Ext w w4) := by
          have hb3 := hb2
          rw [← HGG.out] at hb3
          exact Below.trans (HEW.out.trans (Ext.drewN W 1)) hb3
        clear ho1 hb2 hrun HO HE c1 c2 HW
        go_wp2_with fail
        go_region_law (refine step_append_run _ _ v1 22 rfl (.tmp 33) (.tmp 37) 22 rfl rfl (by simp [Act.eval, Act.put]) (by simp [Act.eval, Act.put]) HRUN.out ?_)
        simp only [List.getElem_toArray, List.getElem_cons_succ, List.getElem_cons_zero, Act.put, List.setIfInBounds_toArray, List.set_cons_succ, List.set_cons_zero]
        go_wp2
        go_roundw
        case rel => exact ⟨i + 1, j, da, _, la2, lb, ca2, cb, out ++ [x], HI2, HJ, by omega, hlb, rfl, rfl, SA, HBV, H1, HO1, HE1⟩
        case measure => simp only [slLen_eq]; omega
end Go.Proofs.Ytnacjmkconabdaa
