/- Contracts of skew.order and sampleInOrder: endings in order, by induction on how many numbers there are. -/
import Derived.Test.YtnacjmkconabdaaSkTwo
import Derived.Test.YtnacjmkconabdaaSkName
import Derived.Test.YtnacjmkconabdaaSkRest
import Derived.Test.YtnacjmkconabdaaSkMerge
namespace Go.Proofs.Ytnacjmkconabdaa
set_option linter.unusedVariables false
set_option linter.unusedSimpArgs false
open Go.RowKit

/-- A row as far as it is laid. -/
structure HalfP (f : Nat → Nat) (Q : List Nat) (i : Nat) (r : List Nat) : Prop where
  len : r.length = Q.length
  at' : ∀ t, t < i → r.getD t 0 = f (Q.getD t 0)
theorem HalfP.start {f : Nat → Nat} {Q r : List Nat} (h : r.length = Q.length) : HalfP f Q 0 r := ⟨h, fun t h => by omega⟩
theorem HalfP.next {f : Nat → Nat} {Q r : List Nat} {i : Nat} (h : HalfP f Q i r) (hi : i < Q.length) : HalfP f Q (i + 1) (r.set i (f (Q.getD i 0))) := by
  refine ⟨by rw [List.length_set]; exact h.len, fun t ht => ?_⟩
  by_cases e : t = i
  · subst e
    rw [set_same (by rw [h.len]; exact hi)]
  · rw [set_other (by omega)]
    exact h.at' t (by omega)
theorem HalfP.done {f : Nat → Nat} {Q r : List Nat} (h : HalfP f Q Q.length r) : r = Q.map f :=
  natL_ext (by rw [h.len, List.length_map]) fun i hi => by
    rw [h.len] at hi
    rw [h.at' i hi]
    simp [List.getD, hi]

/-- What order answers, of fewer than n numbers. -/
def OrderT (n : Nat) : Prop := ∀ (sv : Value) (s : List Int) (k : Nat) (w : World), s.length < n → Sl .i64 w sv (tailI s) → NonNeg s → fitB (tailI s) (k : Int) = true → s.length ≤ 200000 →
  Calls Try.prog 19 #[sv, .int .i64 (k : Int)] w fun e w' => ∃ u R, e = .returned u ∧ InOrd s R ∧ Own .i64 3 w.heap.size w' u (natL R) ∧ Ext w w'

set_option maxHeartbeats 2000000 in
theorem sampleInOrder_any {N : Nat} (IH : Hid (OrderT N)) (sv : Value) (s : List Int) (k : Nat) (w : World) (hsn : s.length ≤ N) (hs : Sl .i64 w sv (tailI s)) (hnn : NonNeg s) (hfit : fitB (tailI s) (k : Int) = true) (hlen : s.length ≤ 200000) :
    Calls Try.prog 26 #[sv, .int .i64 (k : Int)] w fun e w' => ∃ u G, e = .returned u ∧ InSamp s G ∧ Own .i64 3 w.heap.size w' u (natL G) ∧ Ext w w' := by
  have HV := hide' hs
  have HLEN := hide' hlen
  have HFIT := hide' hfit
  have HNN := hide' hnn
  have HSN := hide' hsn
  obtain ⟨va, vc, hve, _⟩ := id hs
  subst hve
  have HTL := hide' (tailI_len s)
  rw [HTL.out] at HV ⊢
  have hml := sampM_le s.length
  have HML := hide' hml
  have C1 := hide' (sampleOf_any s.length w (by omega))
  have HSM : Hid (∀ p ∈ samp s.length, p ≤ s.length) := fun p hp => by have := samp_mem.1 hp; omega
  have HSL := hide' (samp_len s.length)
  have HSA : Hid (∀ i, i < sampM s.length → (samp s.length).getD i 0 = sampAt (sampA s.length) i) := fun i hi => samp_at hi
  obtain ⟨n, HN⟩ : ∃ n, Hid (s.length = n) := ⟨_, rfl⟩
  rw [HN.out] at HV hlen hml C1 ⊢
  have hL3 : ((n + 3 : Nat) : Int) - 3 = (n : Int) := by omega
  obtain ⟨L, HL⟩ : ∃ L, Hid (n + 3 = L) := ⟨_, rfl⟩
  have hL : L ≤ 200003 := by rw [← HL.out]; omega
  rw [HL.out] at HV hL3 ⊢
  clear hs hnn hfit hsn
  go_enter Try.func26, Try.ntmps26
  go_wp2_with fail
  refine C1.out.mono ?_
  rintro e w1 ⟨fv, rfl, ho, he⟩
  rw [← HN.out] at ho
  have SF := hide' ho.sl
  have X1 := hide' he
  have hz1 := he.size
  clear ho he C1
  have C2 := hide' (byTriples_any _ fv s (samp s.length) k w1 (HV.out.ext X1.out) SF.out HNN.out HFIT.out HSM.out HLEN.out (by rw [HSL.out]; have := HML.out; have := HLEN.out; omega))
  go_wp2_with fail
  refine C2.out.mono ?_
  rintro e w2 ⟨pv, G, rfl, hG1, hG2, ho, he⟩
  have HG1 := hide' hG1
  have HG2 := hide' hG2
  have OP := hide' ho
  have SP := hide' ho.sl
  have X2 := hide' he
  have XX2 := hide' (X1.out.trans he)
  have hz2 := he.size
  have SF2 := hide' (SF.out.ext he)
  clear ho he C2 hG1 hG2
  have C3 := hide' (nameT_any _ fv pv s G w2 (HV.out.ext XX2.out) SF2.out SP.out HG1.out HLEN.out)
  go_wp2_with fail
  refine C3.out.mono ?_
  rintro e w3 ⟨nv, A, c, rfl, hA, ho, he⟩
  have HA := hide' hA
  have SN := hide' ho.sl
  have X3 := hide' he
  have XX3 := hide' (XX2.out.trans he)
  have hz3 := he.size
  have OP3 := hide' (OP.out.ext he)
  clear ho he C3 hA OP SP
  obtain ⟨fa, fc, hfe, _⟩ := SF.out
  subst hfe
  rw [natL_len, HSL.out] at SF ⊢
  have hGl : G.length = sampM s.length := by rw [HG1.out.length_eq, HSL.out]
  have hcl : c ≤ sampM s.length := by have := HA.out.le; rw [hGl] at this; exact this
  have HGL := hide' hGl
  rw [HN.out] at HSL SF HSA hcl HGL hGl ⊢
  obtain ⟨m, HM⟩ : ∃ m, Hid (sampM n = m) := ⟨_, rfl⟩
  rw [HM.out] at HSL SF HSA hml hcl HGL hGl ⊢
  by_cases hc : c = m
  · have HIS : Hid (InSamp s G) := HA.out.apart HNN.out HG1.out HG2.out (by rw [HGL.out, hc]; exact Nat.le_refl _)
    have d1 : ((c : Int) == (m : Int)) = true := by simp; omega
    clear hc hGl
    go_wp2
    go_ret
    exact ⟨_, G, rfl, HIS.out, OP3.out.low hz1, XX3.out⟩
  · have d1 : ((c : Int) == (m : Int)) = false := by simp; omega
    have hm2 : 2 ≤ m := by
      by_cases h0 : G.length = 0
      · have := HA.out.zero h0
        omega
      · have := HA.out.count (G.length - 1) (by omega)
        omega
    have hfit := HA.out.fit HG1.out (by omega)
    have HFT : Hid (fitB (tailI (namI s.length A)) ((c + 1 : Nat) : Int) = true) := by
      show _ = _
      have := hfit.1
      rw [show ((c + 1 : Nat) : Int) = (c : Int) + 1 by omega]
      exact this
    have HNL : Hid ((namI s.length A).length = m) := by show _ = _; rw [namI_len, HN.out, HM.out]
    have hmn : m < n := by
      have := sampM_lt (n := n) (by omega)
      rw [HM.out] at this
      exact this
    have CO := hide' (IH.out nv (namI s.length A) (c + 1) w3 (by rw [HNL.out]; have := HSN.out; have := HN.out; omega) SN.out hfit.2 HFT.out (by rw [HNL.out]; omega))
    have e1 : ((c + 1 : Nat) : Int) = (c : Int) + 1 := by omega
    rw [e1] at CO
    clear hc hGl hfit SN
    go_wp2_with fail
    refine CO.out.mono ?_
    rintro e w4 ⟨qv, R, rfl, hR, ho, he⟩
    have HIS := hide' (HA.out.back HNN.out HG1.out HG2.out hR)
    have HRL : Hid (R.length = m) := by show _ = _; rw [hR.len, HNL.out]
    have HRM : Hid (∀ i, i < m → R.getD i 0 < m) := fun i hi => by have := hR.mem (i := i) (by rw [HNL.out]; exact hi); rw [HNL.out] at this; exact this
    have OQ := hide' ho
    have X4 := hide' he
    have XX4 := hide' (XX3.out.trans he)
    have hz4 := he.size
    have OP4 := hide' (OP3.out.ext he)
    have HPL : Hid (∀ g, pv.ownBlock = some g → g < w3.heap.size) := fun g hg => (World.ownsRow.lt OP3.out g hg).2
    clear ho he hR CO OP3
    obtain ⟨gq, cq, hq1, hq2, _, _⟩ := OQ.out.shape (fun e => by have := congrArg List.length e; rw [natL_len, HRL.out] at this; simp at this; omega)
    rw [natL_len, HRL.out] at hq1
    subst hq1
    obtain ⟨gp, cp, hp1, hp2, _, _⟩ := OP4.out.shape (fun e => by have := congrArg List.length e; rw [natL_len, HGL.out] at this; simp at this; omega)
    rw [natL_len, HGL.out] at hp1
    subst hp1
    have hne : gq ≠ gp := by
      have := HPL.out gp rfl
      omega
    obtain ⟨_, _, _, hcf⟩ := SF.out.nat
    obtain ⟨g1, o1, hf1, kf⟩ := hcf (by omega)
    subst hf1
    have KF : Hid (∀ i, i < m → w1.cell? ⟨g1, o1 + i, none⟩ = some (.int .i64 ((sampAt (sampA n) i : Nat) : Int))) := fun i hi => by
      have := kf i hi
      rw [HSA.out i hi] at this
      exact this
    obtain ⟨f, HFF⟩ : ∃ f, Hid (f = sampAt (sampA n)) := ⟨_, rfl⟩
    have H0 : Hid (HalfP f R 0 G) := HalfP.start (by rw [HGL.out, HRL.out])
    have B0 : Hid (But gp w4 w4) := But.refl _ _
    have E0 : Hid (Ext w1 w4) := (X2.out.trans X3.out).trans X4.out
    rw [HN.out] at HIS
    clear kf hcf SF SF2 HPL
    go_wp2
    go_loopw [36] (fun vi wr => ∃ (i : Nat) (r : List Nat), i ≤ m ∧ vi = .int .i64 i ∧ Hid (HalfP f R i r) ∧ Hid (Own .i64 3 w1.heap.size wr (.slice (some ⟨gp, 0, none⟩) m cp) (natL r)) ∧ Hid (But gp w4 wr) ∧ Hid (Ext w1 wr)) (fun vi _ => m - (intOf vi).toNat)
    case atStart => exact ⟨0, G, Nat.zero_le _, rfl, H0, OP4, B0, E0⟩
    case round =>
      clear H0 OP4 B0 E0
      obtain ⟨i, r, hi, rfl, HH, HO, HB, HE⟩ := hrel
      have HRN : Hid (r.length = m) := by show _ = _; rw [HH.out.len, HRL.out]
      by_cases hlt : i < m
      · have hlt' : (i : Int) < m := by omega
        have H1 := hide' (HH.out.next (by rw [HRL.out]; exact hlt))
        have OQ1 := hide' (OQ.out.keep hne HB.out)
        have c1 := OQ1.out.intCell HRL.out i hlt
        have hq := HRM.out i hlt
        have c2 := HE.out.cellOf (KF.out (R.getD i 0) hq)
        have HFI : Hid (f (R.getD i 0) = sampAt (sampA n) (R.getD i 0)) := by show _ = _; rw [HFF.out]
        rw [HFI.out] at H1
        obtain ⟨q, HQ⟩ : ∃ q, Hid (R.getD i 0 = q) := ⟨_, rfl⟩
        rw [HQ.out] at c1 c2 hq H1
        obtain ⟨x, HX⟩ : ∃ x, Hid (sampAt (sampA n) q = x) := ⟨_, rfl⟩
        rw [HX.out] at c2 H1
        have hq' : (q : Int) < m := by omega
        have c3 := HO.out.intCell HRN.out i hlt
        have z3 := HO.out.frozen (by rw [natL_len]; exact HRN.out) i
        have O6 := hide' (HO.out.storeN HRN.out i x)
        have X6 : Hid (Ext w1 (wr.setCell ⟨gp, i, none⟩ (.int .i64 (x : Int)))) := Ext.but HE.out hp2 (but_set _ _ _ _)
        have B6 : Hid (But gp w4 (wr.setCell ⟨gp, i, none⟩ (.int .i64 (x : Int)))) := HB.out.setCell _ _
        clear HO HE HH HB OQ1
        go_wp2
        go_roundw
        case rel => exact ⟨i + 1, _, by omega, by go_num, H1, O6, B6, X6⟩
        case measure => simp [intOf] <;> omega
      · have d2 : decide ((i : Int) < m) = false := by simp; omega
        have hin : m = i := by omega
        have HD : Hid (r = R.map (sampAt (sampA n))) := by
          show _ = _
          have := HH.out
          rw [← hin, ← HRL.out] at this
          rw [this.done, HFF.out]
        go_wp2
        go_ret
        refine ⟨_, r, rfl, by rw [HD.out]; exact HIS.out, HO.out.low hz1, X1.out.trans HE.out⟩

set_option maxHeartbeats 2000000 in
theorem orderT_any : ∀ n, OrderT n := by
  intro n
  induction n with
  | zero => intro sv s k w h; omega
  | succ n ih =>
    intro sv s k w hn hs hnn hfit hlen
    have IH := hide' ih
    have HV := hide' hs
    have HLEN := hide' hlen
    have HFIT := hide' hfit
    have HNN := hide' hnn
    have C1 := hide' (sampleInOrder_any IH sv s k w (by omega) hs hnn hfit hlen)
    obtain ⟨va, vc, hve, _⟩ := id hs
    subst hve
    have HTL := hide' (tailI_len s)
    rw [HTL.out] at HV C1 ⊢
    obtain ⟨L, HL⟩ : ∃ L, Hid (s.length + 3 = L) := ⟨_, rfl⟩
    have hL : L ≤ 200003 := by rw [← HL.out]; omega
    have hL3 : (L : Int) - 3 = (s.length : Int) := by rw [← HL.out]; omega
    rw [HL.out] at HV C1 ⊢
    clear hs hnn hfit hn
    go_enter Try.func19, Try.ntmps19
    go_wp2_with fail
    refine C1.out.mono ?_
    rintro e w1 ⟨pv, G, rfl, hG, ho, he⟩
    have HG := hide' hG
    have SP := hide' ho.sl
    have X1 := hide' he
    have hz1 := he.size
    clear hG ho he C1
    have C2 := hide' (rest_any _ pv s G k w1 (HV.out.ext X1.out) SP.out HNN.out HFIT.out HG.out HLEN.out)
    go_wp2_with fail
    refine C2.out.mono ?_
    rintro e w2 ⟨tv, T, rfl, hT, ho, he⟩
    have HT := hide' hT
    have ST := hide' ho.sl
    have X2 := hide' (X1.out.trans he)
    have SP2 := hide' (SP.out.ext he)
    clear hT ho he C2 SP
    have C3 := hide' (ranks_any pv s G w2 SP2.out HG.out HLEN.out)
    rw [HL.out] at C3
    go_wp2_with fail
    refine C3.out.mono ?_
    rintro e w3 ⟨rv, r, rfl, hr, ho, he⟩
    have HR := hide' hr
    have SR := hide' ho.sl
    have X3 := hide' (X2.out.trans he)
    have SP3 := hide' (SP2.out.ext he)
    have ST3 := hide' (ST.out.ext he)
    have hz3 := X3.out.size
    clear hr ho he C3 SP2 ST
    rw [← HL.out] at HR
    obtain ⟨pa, pc, hpe, _⟩ := SP3.out
    subst hpe
    rw [natL_len] at SP3 ⊢
    obtain ⟨_, _, _, hcp⟩ := SP3.out.nat
    have hgl : G.length ≤ 200000 := by rw [HG.out.len]; have := sampM_le s.length; omega
    obtain ⟨m, HM⟩ : ∃ m, Hid (G.length = m) := ⟨_, rfl⟩
    rw [HM.out] at hcp hgl SP3 ⊢
    by_cases h0 : m = 0
    · have HA : Hid (InTwo s G) := two_all HG.out (fun h => by rw [HM.out] at h; omega)
      have d1 : decide ((0 : Int) < m) = false := by simp; omega
      have d2 : decide (0 < m) = false := by simp; omega
      have C4 := hide' (merge_any _ rv _ tv s r G G T w3 (HV.out.ext X3.out) SR.out SP3.out ST3.out HNN.out HR.out HG.out HA.out HT.out HLEN.out)
      clear hcp h0
      go_wp2_with fail
      refine C4.out.mono ?_
      rintro e w4 ⟨u, R, rfl, hR, ho, he⟩
      have HRR := hide' hR
      have O4 := hide' (ho.low hz3)
      have X4 := hide' (X3.out.trans he)
      clear hR ho he C4
      go_wp2
      go_ret
      exact ⟨_, R, rfl, HRR.out, O4.out, X4.out⟩
    · have hm0 : (0 : Int) < m := by omega
      have hm1 : 0 < m := by omega
      obtain ⟨g1, o1, rfl, k1⟩ := hcp hm1
      have c1 := k1 0 hm1
      rw [Nat.add_zero] at c1
      by_cases he : G.getD 0 0 = s.length
      · have HA : Hid (InTwo s (G.drop 1)) := two_drop HG.out (by rw [HM.out]; exact hm1) he
        rw [he] at c1
        obtain ⟨da, ra, sa, _⟩ := SP3.out.runDrop (P := Try.prog) 22 3 Try.underlying22 sizeI64 1 (by rw [natL_len, HM.out]; exact hm1)
        rw [← natL_drop] at sa
        have ra1 : ∀ W, (Instr.slice 22 (.slice (some ⟨g1, o1, none⟩) m pc) (some (.int .i64 1)) none none).run Try.prog W = .ok (.slice da (m - 1) (pc - 1)) W := ra
        have C4 := hide' (merge_any _ rv _ tv s r G (G.drop 1) T w3 (HV.out.ext X3.out) SR.out sa ST3.out HNN.out HR.out HG.out HA.out HT.out HLEN.out)
        generalize m - 1 = m1 at *
        generalize pc - 1 = pc1 at *
        clear k1 h0 he sa ra
        go_wp2_with fail
        refine C4.out.mono ?_
        rintro e w4 ⟨u, R, rfl, hR, ho, he⟩
        have HRR := hide' hR
        have O4 := hide' (ho.low hz3)
        have X4 := hide' (X3.out.trans he)
        clear hR ho he C4
        go_wp2
        go_ret
        exact ⟨_, R, rfl, HRR.out, O4.out, X4.out⟩
      · have HA : Hid (InTwo s G) := two_all HG.out (fun h => he h.2)
        have C4 := hide' (merge_any _ rv _ tv s r G G T w3 (HV.out.ext X3.out) SR.out SP3.out ST3.out HNN.out HR.out HG.out HA.out HT.out HLEN.out)
        obtain ⟨p, HP⟩ : ∃ p, Hid (G.getD 0 0 = p) := ⟨_, rfl⟩
        rw [HP.out] at c1 he
        have d3 : ((p : Int) == (s.length : Int)) = false := by simp; omega
        clear k1 h0 he
        go_wp2_with fail
        refine C4.out.mono ?_
        rintro e w4 ⟨u, R, rfl, hR, ho, he⟩
        have HRR := hide' hR
        have O4 := hide' (ho.low hz3)
        have X4 := hide' (X3.out.trans he)
        clear hR ho he C4
        go_wp2
        go_ret
        exact ⟨_, R, rfl, HRR.out, O4.out, X4.out⟩
end Go.Proofs.Ytnacjmkconabdaa
