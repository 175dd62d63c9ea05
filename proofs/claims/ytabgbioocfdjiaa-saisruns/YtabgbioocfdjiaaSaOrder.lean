/- Contracts of sais.order and firstInOrder: endings in order, by induction on how many numbers there are. -/
import Derived.Test.YtabgbioocfdjiaaSaName
import Derived.Test.YtabgbioocfdjiaaKinFirst
namespace Go.Proofs.Ytabgbioocfdjiaa
set_option linter.unusedVariables false
set_option linter.unusedSimpArgs false
open Go.RowKit

theorem nmG_add (s : List Int) (G : List Nat) (t : Nat) : ∀ d, nmG s G (t + d) ≤ nmG s G t + d := by
  intro d
  induction d with
  | zero => exact Nat.le_refl _
  | succ d ih =>
    show nmG s G (t + d) + _ ≤ _
    split <;> omega
theorem Named.all {s N : List Int} {P G : List Nat} {c : Nat} (h : Named s P G P.length N c) (ho : Ordd s P G) (hp : G.Perm (firstN s)) : ∀ t i, t < G.length → i < N.length → G.getD t 0 = (firstN s).getD i 0 → N.getD i 0 = (nmG s G t : Int) := by
  intro t i ht hi e
  have hl : G.length = P.length := by rw [← ho.place, List.length_map]
  have h1 := ho.at (t := t) (by omega)
  rw [← h.name t (by omega)]
  congr 1
  have hi2 : i < (firstN s).length := by rw [← ho.len, ← h.len]; exact hi
  rcases Nat.lt_trichotomy i (P.getD t 0) with g | g | g
  · have := firstN_lt s g h1.1
    omega
  · exact g
  · have := firstN_lt s g hi2
    omega
theorem Named.names {s N : List Int} {P G : List Nat} {c : Nat} (h : Named s P G P.length N c) (ho : Ordd s P G) (hp : G.Perm (firstN s)) (hc : G.Pairwise (fun a b => cmpI (cutW s a) (cutW s b) ≤ 0)) : Names s N :=
  names_of hp hc (by rw [h.len, ho.len]) (h.all ho hp)
theorem Named.fit {s N : List Int} {P G : List Nat} {c : Nat} (h : Named s P G P.length N c) (ho : Ordd s P G) (hp : G.Perm (firstN s)) (hl : P.length ≤ 1000000) : fitB N (c : Int) = true := by
  have hG : G.length = P.length := by rw [← ho.place, List.length_map]
  refine fitB_iff.2 ⟨by omega, by have := h.le; omega, goodI_iff.2 fun z hz => ?_⟩
  obtain ⟨i, hi, rfl⟩ := List.getElem_of_mem hz
  have hi2 : i < (firstN s).length := by rw [← ho.len, ← h.len]; exact hi
  obtain ⟨t, ht, et⟩ := mem_getN (hp.mem_iff.2 (getN_mem hi2))
  have h1 := h.all ho hp t i ht hi et
  have h2 : N.getD i 0 = N[i] := by simp [List.getD, hi]
  rw [← h2, h1, h.count (P.length - 1) (by omega)]
  have := nmG_mono s G (show t ≤ P.length - 1 by omega)
  omega
theorem Named.apart {s N : List Int} {P G : List Nat} {c : Nat} (h : Named s P G P.length N c) (hl : G.length = P.length) (hc : P.length ≤ c) : ∀ t, t + 1 < G.length → cutW s (G.getD t 0) ≠ cutW s (G.getD (t + 1) 0) := fun t ht e => by
  have h1 := h.count (P.length - 1) (by omega)
  have h2 := nmG_add s G (t + 1) (P.length - 1 - (t + 1))
  rw [show t + 1 + (P.length - 1 - (t + 1)) = P.length - 1 by omega, nmG_same e] at h2
  have h3 := nmG_le s G t
  omega

/-- A row as far as it is laid. -/
structure Half (F Q : List Nat) (i : Nat) (r : List Nat) : Prop where
  len : r.length = Q.length
  at' : ∀ t, t < i → r.getD t 0 = F.getD (Q.getD t 0) 0
theorem Half.start (F Q : List Nat) : Half F Q 0 (List.replicate Q.length 0) := ⟨List.length_replicate, fun t h => by omega⟩
theorem Half.next {F Q r : List Nat} {i : Nat} (h : Half F Q i r) (hi : i < Q.length) : Half F Q (i + 1) (r.set i (F.getD (Q.getD i 0) 0)) := by
  refine ⟨by rw [List.length_set]; exact h.len, fun t ht => ?_⟩
  by_cases e : t = i
  · subst e
    rw [set_same (by rw [h.len]; exact hi)]
  · rw [set_other (by omega)]
    exact h.at' t (by omega)
theorem Half.done {F Q r : List Nat} (h : Half F Q Q.length r) : r = Q.map fun (i : Nat) => F.getD i 0 :=
  natL_ext (by rw [h.len, List.length_map]) fun i hi => by
    rw [h.len] at hi
    rw [h.at' i hi]
    simp [List.getD, hi]

/-- What order answers, of fewer than n numbers. -/
def OrderOK (n : Nat) : Prop := ∀ (sv : Value) (s : List Int) (k : Int) (w : World), s.length < n → Sl .i64 w sv s → fitB s k = true → s.length ≤ 1000000 →
  Calls Try.prog 15 #[sv, .int .i64 k] w fun e w' => ∃ u R, e = .returned u ∧ InOrd s R ∧ Own .i64 3 w.heap.size w' u (natL R) ∧ Ext w w'

set_option maxHeartbeats 2000000 in
theorem firstInOrder_any {n : Nat} (IH : Hid (OrderOK n)) (sv : Value) (s : List Int) (k : Int) (w : World) (hsn : s.length ≤ n) (hs : Sl .i64 w sv s) (hfit : fitB s k = true) (hlen : s.length ≤ 1000000) :
    Calls Try.prog 22 #[sv, .int .i64 k] w fun e w' => ∃ u F, e = .returned u ∧ F.Perm (firstN s) ∧ F.Pairwise (ltE s) ∧ Own .i64 3 w.heap.size w' u (natL F) ∧ Ext w w' := by
  have HV := hide' hs
  have HLEN := hide' hlen
  have HFIT := hide' hfit
  have HSN := hide' hsn
  have hhalf := firstN_half s
  have HHALF := hide' hhalf
  clear hs hfit hsn
  have C1 := hide' (first_any sv s w HV.out hlen)
  obtain ⟨f, HF⟩ : ∃ f, Hid ((firstN s).length = f) := ⟨_, rfl⟩
  rw [HF.out] at hhalf
  have hf : f ≤ 1000000 := by omega
  clear hhalf hlen
  go_enter Try.func22, Try.ntmps22
  go_wp2_with fail
  refine C1.out.mono ?_
  rintro e w1 ⟨fv, rfl, ho, he⟩
  have OF := hide' ho
  have X1 := hide' he
  have SF := hide' ho.sl
  clear ho he C1
  obtain ⟨fa, fc, rfl, _⟩ := SF.out
  rw [natL_len, HF.out] at OF SF ⊢
  by_cases hf2 : f < 2
  · have d1 : ((f : Int) < 2) := by omega
    have HFL : Hid ((firstN s).length ≤ 1) := by show _ ≤ _; rw [HF.out]; omega
    clear hf2
    go_wp2
    go_ret
    refine ⟨_, firstN s, rfl, List.Perm.refl _, ?_, OF.out, X1.out⟩
    rw [List.pairwise_iff_getElem]
    intro i j hi hj hij
    have := HFL.out
    omega
  · have d1 : decide ((f : Int) < 2) = false := by simp; omega
    have HF2 := hide' hf2
    clear OF
    go_wp2_with fail
    refine (byPieces_any _ _ s k w1 (HV.out.ext X1.out) SF.out HFIT.out HLEN.out).mono ?_
    rintro e w2 ⟨pv, P, R, rfl, hR1, hR2, hP, ho, he⟩
    have HOD := hide' (Ordd.of hR1 hP)
    obtain ⟨G, HGG⟩ : ∃ G, Hid (firOf s R = G) := ⟨_, rfl⟩
    have HGP := hide' (firOf_perm (s := s) hR1)
    have HGC := hide' (firOf_cut (s := s) hR2)
    rw [HGG.out] at HOD HGP HGC
    have OP := hide' ho
    have SP := hide' ho.sl
    have X2 := hide' (X1.out.trans he)
    have SF2 := hide' (SF.out.ext he)
    clear ho he hR1 hR2 hP SF HGG X1
    go_wp2_with fail
    refine (nameAll_any _ _ _ s P G w2 (HV.out.ext X2.out) SF2.out SP.out HOD.out HLEN.out).mono ?_
    rintro e w3 ⟨nv, N, c, rfl, hN, ho, he⟩
    have HNM := hide' hN
    have SN := hide' ho.sl
    have X3 := hide' (X2.out.trans he)
    have SF3 := hide' (SF2.out.ext he)
    have SP3 := hide' (SP.out.ext he)
    have HPL : Hid (P.length = f) := by show _ = _; rw [HOD.out.len, HF.out]
    have hcf : c ≤ f := by have := hN.le; rw [HPL.out] at this; exact this
    clear ho he hN SF2 SP X2 OP
    by_cases hc : c < f
    · have hc' : ((c : Int) < f) := by omega
      have HGL : Hid (G.length = P.length) := by show _ = _; rw [HGP.out.length_eq, HOD.out.len]
      have HNN := hide' (HNM.out.names HOD.out HGP.out HGC.out)
      have HFT := hide' (HNM.out.fit HOD.out HGP.out (by rw [HPL.out]; exact hf))
      have hNl : N.length = f := by rw [HNM.out.len, HPL.out]
      have CO := hide' (IH.out _ N (c : Int) w3 (by rw [hNl]; have := HSN.out; have := HHALF.out; rw [HF.out] at this; omega) SN.out HFT.out (by rw [hNl]; exact hf))
      have HNL := hide' hNl
      clear hNl
      go_wp2_with fail
      refine CO.out.mono ?_
      rintro e w4 ⟨qv, Q, rfl, hQ, ho, he⟩
      have HPP := hide' (red_ord HNN.out hQ).1
      have HPW := hide' (red_ord HNN.out hQ).2
      have HQL : Hid (Q.length = f) := by show _ = _; rw [hQ.len, HNL.out]
      have HQM : Hid (∀ i, i < f → Q.getD i 0 < f) := fun i hi => by have := hQ.mem (i := i) (by rw [HNL.out]; exact hi); rw [HNL.out] at this; exact this
      have SQ := hide' ho.sl
      have X4 := hide' (X3.out.trans he)
      have SF4 := hide' (SF3.out.ext he)
      clear ho he hQ CO SF3 SP3 X3 SN
      obtain ⟨qa, qc, rfl, _⟩ := SQ.out
      rw [natL_len, HQL.out] at SQ ⊢
      obtain ⟨_, _, _, hcq⟩ := SQ.out.nat
      have CQ := hide' hcq
      obtain ⟨_, _, _, hcf⟩ := SF4.out.nat
      have CF := hide' hcf
      obtain ⟨w5, hmk, ho, he⟩ := make_nats w4 f hf
      have hz4 := X4.out.size
      have O5 := hide' ho
      have X5 := hide' he
      have H0 : Hid (Half (firstN s) Q 0 (List.replicate f 0)) := by show Half _ _ _ _; rw [← HQL.out]; exact Half.start _ _
      obtain ⟨g, HG⟩ : ∃ g, Hid (w4.heap.size = g) := ⟨_, rfl⟩
      have hgw : w4.heap.size ≤ g := by rw [HG.out]; exact Nat.le_refl _
      rw [HG.out] at O5 hmk
      clear ho he hcq hcf SQ SF4
      go_wp2
      go_loopw [41] (fun vi wr => ∃ (i : Nat) (r : List Nat), i ≤ f ∧ vi = .int .i64 i ∧ Hid (Half (firstN s) Q i r) ∧ Hid (Own .i64 3 g wr (.slice (some ⟨g, 0, none⟩) f f) (natL r)) ∧ Hid (Ext w4 wr)) (fun vi _ => f - (intOf vi).toNat)
      case atStart => exact ⟨0, _, Nat.zero_le _, rfl, H0, O5, X5⟩
      case round =>
        clear O5 X5 H0 hmk
        obtain ⟨i, r, hi, rfl, HH, HO, HE⟩ := hrel
        have HRL : Hid (r.length = f) := by show _ = _; rw [HH.out.len, HQL.out]
        have HRN : Hid ((natL r).length = f) := by show _ = _; rw [natL_len, HRL.out]
        by_cases hlt : i < f
        · have hlt' : (i : Int) < f := by omega
          have H1 := hide' (HH.out.next (by rw [HQL.out]; exact hlt))
          obtain ⟨g1, o1, rfl, k1⟩ := CQ.out (by omega)
          have c1 := HE.out.cellOf (k1 i hlt)
          obtain ⟨g2, o2, rfl, k2⟩ := CF.out (by omega)
          have hq := HQM.out i hlt
          have c2 := HE.out.cellOf (k2 (Q.getD i 0) hq)
          obtain ⟨q, HQ⟩ : ∃ q, Hid (Q.getD i 0 = q) := ⟨_, rfl⟩
          rw [HQ.out] at c1 c2 hq H1
          obtain ⟨x, HX⟩ : ∃ x, Hid ((firstN s).getD q 0 = x) := ⟨_, rfl⟩
          rw [HX.out] at c2 H1
          have hq' : (q : Int) < f := by omega
          have c3 := HO.out.cell HRN.out i hlt
          have z3 := HO.out.frozen HRN.out i
          have O6 := hide' (HO.out.storeN HRL.out i x)
          have X6 : Hid (Ext w4 (wr.setCell ⟨g, i, none⟩ (.int .i64 (x : Int)))) := Ext.but HE.out hgw (but_set _ _ _ _)
          clear k1 k2 HO HE HH
          go_wp2
          go_roundw
          case rel => exact ⟨i + 1, _, by omega, by go_num, H1, O6, X6⟩
          case measure => simp [intOf] <;> omega
        · have d2 : decide ((i : Int) < f) = false := by simp; omega
          have hin : f = i := by omega
          have HD : Hid (r = Q.map fun (i : Nat) => (firstN s).getD i 0) := by
            show _ = _
            have := HH.out
            rw [← hin, ← HQL.out] at this
            exact this.done
          go_wp2
          go_ret
          refine ⟨_, r, rfl, by rw [HD.out]; exact HPP.out, by rw [HD.out]; exact HPW.out, ?_, X4.out.trans HE.out⟩
          exact HO.out.low (by have := X4.out.size; have := HG.out; omega)
    · have hc' : decide ((c : Int) < f) = false := by simp; omega
      have HGL : Hid (G.length = P.length) := by show _ = _; rw [HGP.out.length_eq, HOD.out.len]
      have HPP : Hid ((P.map fun (i : Nat) => (firstN s).getD i 0).Perm (firstN s)) := by show List.Perm _ _; rw [HOD.out.place]; exact HGP.out
      have HPW : Hid ((P.map fun (i : Nat) => (firstN s).getD i 0).Pairwise (ltE s)) := by
        show List.Pairwise _ _
        rw [HOD.out.place]
        exact firOf_ord HGP.out HGC.out (HNM.out.apart HGL.out (by rw [HPL.out]; omega))
      obtain ⟨Q, HQQ⟩ : ∃ Q, Hid (P = Q) := ⟨_, rfl⟩
      have HQM : Hid (∀ i, i < f → P.getD i 0 < f) := fun i hi => by have := (HOD.out.at (t := i) (by rw [HPL.out]; exact hi)).1; rw [HF.out] at this; exact this
      have HQL := HPL
      rw [HQQ.out] at HPP HPW HQM HQL
      have SQ := SP3
      rw [HQQ.out] at SQ
      obtain ⟨qv, HQV⟩ : ∃ v, Hid (pv = v) := ⟨_, rfl⟩
      rw [HQV.out] at SQ ⊢
      have X4 := X3
      have SF4 := SF3
      clear SF3 SP3 X3 SN
      obtain ⟨qa, qc, rfl, _⟩ := SQ.out
      rw [natL_len, HQL.out] at SQ ⊢
      obtain ⟨_, _, _, hcq⟩ := SQ.out.nat
      have CQ := hide' hcq
      obtain ⟨_, _, _, hcf⟩ := SF4.out.nat
      have CF := hide' hcf
      obtain ⟨w5, hmk, ho, he⟩ := make_nats w3 f hf
      have hz4 := X4.out.size
      have O5 := hide' ho
      have X5 := hide' he
      have H0 : Hid (Half (firstN s) Q 0 (List.replicate f 0)) := by show Half _ _ _ _; rw [← HQL.out]; exact Half.start _ _
      obtain ⟨g, HG⟩ : ∃ g, Hid (w3.heap.size = g) := ⟨_, rfl⟩
      have hgw : w3.heap.size ≤ g := by rw [HG.out]; exact Nat.le_refl _
      rw [HG.out] at O5 hmk
      clear ho he hcq hcf SQ SF4
      go_wp2
      go_loopw [41] (fun vi wr => ∃ (i : Nat) (r : List Nat), i ≤ f ∧ vi = .int .i64 i ∧ Hid (Half (firstN s) Q i r) ∧ Hid (Own .i64 3 g wr (.slice (some ⟨g, 0, none⟩) f f) (natL r)) ∧ Hid (Ext w3 wr)) (fun vi _ => f - (intOf vi).toNat)
      case atStart => exact ⟨0, _, Nat.zero_le _, rfl, H0, O5, X5⟩
      case round =>
        clear O5 X5 H0 hmk
        obtain ⟨i, r, hi, rfl, HH, HO, HE⟩ := hrel
        have HRL : Hid (r.length = f) := by show _ = _; rw [HH.out.len, HQL.out]
        have HRN : Hid ((natL r).length = f) := by show _ = _; rw [natL_len, HRL.out]
        by_cases hlt : i < f
        · have hlt' : (i : Int) < f := by omega
          have H1 := hide' (HH.out.next (by rw [HQL.out]; exact hlt))
          obtain ⟨g1, o1, rfl, k1⟩ := CQ.out (by omega)
          have c1 := HE.out.cellOf (k1 i hlt)
          obtain ⟨g2, o2, rfl, k2⟩ := CF.out (by omega)
          have hq := HQM.out i hlt
          have c2 := HE.out.cellOf (k2 (Q.getD i 0) hq)
          obtain ⟨q, HQ⟩ : ∃ q, Hid (Q.getD i 0 = q) := ⟨_, rfl⟩
          rw [HQ.out] at c1 c2 hq H1
          obtain ⟨x, HX⟩ : ∃ x, Hid ((firstN s).getD q 0 = x) := ⟨_, rfl⟩
          rw [HX.out] at c2 H1
          have hq' : (q : Int) < f := by omega
          have c3 := HO.out.cell HRN.out i hlt
          have z3 := HO.out.frozen HRN.out i
          have O6 := hide' (HO.out.storeN HRL.out i x)
          have X6 : Hid (Ext w3 (wr.setCell ⟨g, i, none⟩ (.int .i64 (x : Int)))) := Ext.but HE.out hgw (but_set _ _ _ _)
          clear k1 k2 HO HE HH
          go_wp2
          go_roundw
          case rel => exact ⟨i + 1, _, by omega, by go_num, H1, O6, X6⟩
          case measure => simp [intOf] <;> omega
        · have d2 : decide ((i : Int) < f) = false := by simp; omega
          have hin : f = i := by omega
          have HD : Hid (r = Q.map fun (i : Nat) => (firstN s).getD i 0) := by
            show _ = _
            have := HH.out
            rw [← hin, ← HQL.out] at this
            exact this.done
          go_wp2
          go_ret
          refine ⟨_, r, rfl, by rw [HD.out]; exact HPP.out, by rw [HD.out]; exact HPW.out, ?_, X4.out.trans HE.out⟩
          exact HO.out.low (by have := X4.out.size; have := HG.out; omega)

theorem order_any : ∀ n, OrderOK n := by
  intro n
  induction n with
  | zero => intro sv s k w h; omega
  | succ n ih =>
    intro sv s k w hn hs hfit hlen
    have IH := hide' ih
    have HV := hide' hs
    have HLEN := hide' hlen
    have HFIT := hide' hfit
    have CF := hide' (firstInOrder_any IH sv s k w (by omega) hs hfit hlen)
    clear hs hfit hlen hn
    go_enter Try.func15, Try.ntmps15
    go_wp2_with fail
    refine CF.out.mono ?_
    rintro e w1 ⟨u, F, rfl, hp, hw, ho, he⟩
    have HB : Hid (sortB s k (natL F) = true) := sortB_iff.2 ⟨HFIT.out, firB_iff.2 (hp.map _)⟩
    obtain ⟨R, hR1, hR2⟩ := sais_ord (Fits.of HFIT.out) hp hw
    have HI : Hid (sortI s k (natL F) = natL R) := by show _ = _; rw [sortI_yes HB.out, toN_nat, hR1]
    have HR := hide' hR2
    have SU := hide' ho.sl
    have X1 := hide' he
    have hz := he.size
    have CS := hide' (sort_any _ _ s (natL F) k w1 (HV.out.ext X1.out) SU.out HLEN.out)
    rw [HB.out, HI.out] at CS
    clear ho he hp hw hR1 hR2 CF
    go_wp2_with fail
    refine CS.out.mono ?_
    rintro e w2 ⟨v, rfl, ho, he⟩
    have O2 := hide' (ho.low hz)
    have X2 := hide' (X1.out.trans he)
    clear ho he CS
    go_wp2
    go_ret
    exact ⟨_, R, rfl, HR.out, O2.out, X2.out⟩
end Go.Proofs.Ytabgbioocfdjiaa
