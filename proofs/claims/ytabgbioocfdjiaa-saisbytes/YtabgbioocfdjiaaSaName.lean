/- Contract of sais.nameAll: names of the pieces. -/
import Derived.Test.YtabgbioocfdjiaaSaAlike
import Derived.Test.YtabgbioocfdjiaaSaBy
namespace Go.Proofs.Ytabgbioocfdjiaa
set_option linter.unusedVariables false
set_option linter.unusedSimpArgs false
open Go.RowKit

/-- Pieces, each once, in some order, and the places at which they begin. -/
structure Ordd (s : List Int) (P G : List Nat) : Prop where
  len : P.length = (firstN s).length
  nodup : P.Nodup
  lt : ∀ i ∈ P, i < (firstN s).length
  place : P.map (fun (i : Nat) => (firstN s).getD i 0) = G
theorem Ordd.at {s : List Int} {P G : List Nat} (h : Ordd s P G) {t : Nat} (ht : t < P.length) : P.getD t 0 < (firstN s).length ∧ (firstN s).getD (P.getD t 0) 0 = G.getD t 0 := by
  refine ⟨h.lt _ (getN_mem ht), ?_⟩
  rw [← h.place]
  simp [List.getD, ht]
theorem Ordd.of {s : List Int} {R P : List Nat} (hR : R.Perm (List.range s.length)) (h : Pieces s R s.length P) : Ordd s P (firOf s R) := by
  have hl : R.length = s.length := by rw [hR.length_eq, List.length_range]
  have hr := h.row
  rw [List.take_of_length_le (by omega)] at hr
  have hp := firOf_perm (s := s) hR
  refine ⟨?_, ?_, h.lt, hr⟩
  · have := congrArg List.length hr
    rw [List.length_map] at this
    rw [this, hp.length_eq]
  · have hn : (P.map fun (i : Nat) => (firstN s).getD i 0).Nodup := by rw [hr]; exact hp.nodup_iff.2 (firstN_nodup s)
    exact (List.pairwise_map.1 hn).imp fun h e => h (by rw [e])
/-- Names as far as the first i pieces of the row. -/
structure Named (s : List Int) (P G : List Nat) (i : Nat) (N : List Int) (c : Nat) : Prop where
  len : N.length = P.length
  name : ∀ t, t < i → N.getD (P.getD t 0) 0 = (nmG s G t : Int)
  zero : i = 0 → c = 0
  count : ∀ t, i = t + 1 → c = nmG s G t + 1
theorem Named.start (s : List Int) (P G : List Nat) : Named s P G 0 (List.replicate P.length 0) 0 := ⟨List.length_replicate, fun t h => by omega, fun _ => rfl, fun t h => by omega⟩
theorem Named.next {s : List Int} {P G : List Nat} {i c : Nat} {N : List Int} (h : Named s P G i N c) (ho : Ordd s P G) (hi : i < P.length) : Named s P G (i + 1) (N.set (P.getD i 0) (nmG s G i : Int)) (nmG s G i + 1) := by
  have hlt : P.getD i 0 < N.length := by rw [h.len, ho.len]; exact (ho.at hi).1
  refine ⟨by rw [List.length_set]; exact h.len, fun t ht => ?_, fun h0 => by omega, fun t ht => by rw [show i = t by omega]⟩
  by_cases e : t = i
  · subst e
    rw [setI_same hlt]
  · rw [setI_other (fun e2 => e (nodup_getN ho.nodup (by omega) hi e2.symm))]
    exact h.name t (by omega)
theorem Named.le {s : List Int} {P G : List Nat} {i c : Nat} {N : List Int} (h : Named s P G i N c) : c ≤ i := by
  by_cases h0 : i = 0
  · rw [h.zero h0]; omega
  · rw [h.count (i - 1) (by omega)]
    have := nmG_le s G (i - 1)
    omega

set_option maxHeartbeats 1000000 in
theorem nameAll_any (sv fv pv : Value) (s : List Int) (P G : List Nat) (w : World) (hs : Sl .i64 w sv s) (hf : Sl .i64 w fv (natL (firstN s))) (hp : Sl .i64 w pv (natL P)) (hod : Ordd s P G) (hlen : s.length ≤ 1000000) :
    Calls Try.prog 35 #[sv, fv, pv] w fun e w' => ∃ (u : Value) (N : List Int) (c : Nat), e = .returned (.tuple #[u, .int .i64 c]) ∧ Named s P G P.length N c ∧ Own .i64 3 w.heap.size w' u N ∧ Ext w w' := by
  have HV := hide' hs
  have HF := hide' hf
  have HLEN := hide' hlen
  have HOD := hide' hod
  have hfl : P.length ≤ s.length := by rw [hod.len]; have := firstN_half s; omega
  obtain ⟨pa, pc, rfl, _⟩ := id hp
  rw [natL_len] at hp ⊢
  obtain ⟨_, _, _, hcp⟩ := hp.nat
  have CP := hide' hcp
  obtain ⟨f, HL⟩ : ∃ f, Hid (P.length = f) := ⟨_, rfl⟩
  have HFF : Hid ((firstN s).length = f) := by show _ = _; rw [← hod.len]; exact HL.out
  rw [HL.out] at hfl CP ⊢
  obtain ⟨w1, hmk, ho, he⟩ := make_ints w f (by omega)
  obtain ⟨g, HG⟩ : ∃ g, Hid (w.heap.size = g) := ⟨_, rfl⟩
  have hgw : w.heap.size ≤ g := by rw [HG.out]; exact Nat.le_refl _
  rw [HG.out] at ho hmk ⊢
  have O1 := hide' ho
  have X1 := hide' he
  have N0 : Hid (Named s P G 0 (List.replicate f 0) 0) := by show Named _ _ _ _ _ _; rw [← HL.out]; exact Named.start s P G
  clear ho he hp hcp hod hs hf
  go_enter Try.func35, Try.ntmps35
  go_wp2
  go_loopw [7, 15] (fun vc vi wr => ∃ (i c : Nat) (N : List Int), i ≤ f ∧ vi = .int .i64 i ∧ vc = .int .i64 c ∧ Hid (Named s P G i N c) ∧ Hid (Own .i64 3 g wr (.slice (some ⟨g, 0, none⟩) f f) N) ∧ Hid (Ext w wr)) (fun _ vi _ => f - (intOf vi).toNat)
  case atStart => exact ⟨0, 0, _, Nat.zero_le _, rfl, rfl, N0, O1, X1⟩
  case round =>
    clear O1 X1 N0 hmk
    obtain ⟨i, c, N, hi, rfl, rfl, HN, HO, HE⟩ := hrel
    have HNL : Hid (N.length = f) := by show _ = _; rw [HN.out.len, HL.out]
    by_cases hlt : i < f
    · have hlt' : (i : Int) < f := by omega
      have hiP : i < P.length := by rw [HL.out]; exact hlt
      have N1 := hide' (HN.out.next HOD.out hiP)
      have hp1 := (HOD.out.at hiP).1
      rw [HFF.out] at hp1
      obtain ⟨g1, o1, rfl, k1⟩ := CP.out (by omega)
      have K1 := hide' k1
      have c1 := HE.out.cellOf (k1 i hlt)
      have hm := nmG_le s G i
      obtain ⟨p, HP⟩ : ∃ p, Hid (P.getD i 0 = p) := ⟨_, rfl⟩
      obtain ⟨m, HM⟩ : ∃ m, Hid (nmG s G i = m) := ⟨_, rfl⟩
      rw [HP.out] at c1 N1 hp1
      rw [HM.out] at N1 hm
      have hp1' : (p : Int) < f := by omega
      clear k1 hiP
      have fin : Hid (∀ wr', Ext wr wr' → wr'.cell? ⟨g, p, none⟩ = some (.int .i64 (N.getD p 0)) ∧ wr'.frozen? ⟨g, p, none⟩ = false ∧ Own .i64 3 g (wr'.setCell ⟨g, p, none⟩ (.int .i64 (m : Int))) (.slice (some ⟨g, 0, none⟩) f f) (N.set p (m : Int)) ∧ Ext w (wr'.setCell ⟨g, p, none⟩ (.int .i64 (m : Int)))) := fun wr' hx => by
        have h1 := HO.out.ext hx
        exact ⟨h1.cell HNL.out p hp1, h1.frozen HNL.out p, h1.store HNL.out p _, Ext.but (HE.out.trans hx) hgw (but_set _ _ _ _)⟩
      by_cases hi0 : i = 0
      · have hc0 := HN.out.zero hi0
        have hcm : m = c := by omega
        subst hcm
        have d0 : ((i : Int) == 0) = true := by simp; omega
        have e5 : ((m : Int) + 1) - 1 = (m : Int) := by omega
        clear hi0 hc0
        obtain ⟨z1, z2, z3, z4⟩ := fin.out wr (Ext.refl _)
        have Z3 := hide' z3
        have Z4 := hide' z4
        clear z3 z4 HO HE fin HN
        go_wp2
        go_roundw
        case rel => exact ⟨i + 1, m + 1, _, by omega, by go_num, by go_num, N1, Z3, Z4⟩
        case measure => simp [intOf] <;> omega
      · obtain ⟨j, HJ⟩ : ∃ j, Hid (i = j + 1) := ⟨i - 1, by show _ = _; omega⟩
        have hj : (i : Int) - 1 = (j : Int) := by have := HJ.out; omega
        have hjf : j < f := by have := HJ.out; omega
        have hjf' : (j : Int) < f := by omega
        have d0 : ((i : Int) == 0) = false := by simp; omega
        have hjP : j < P.length := by rw [HL.out]; exact hjf
        have c2 := HE.out.cellOf (K1.out j hjf)
        have hq1 := (HOD.out.at hjP).1
        have HCC := hide' (HN.out.count j HJ.out)
        have HAB : Hid (alikeB s (P.getD j 0) p = decide (cutW s (G.getD j 0) = cutW s (G.getD (j + 1) 0))) := by
          show _ = _
          have a1 := HOD.out.at hjP
          have a2 := HOD.out.at (t := j + 1) (by rw [HL.out, ← HJ.out]; exact hlt)
          have e : P.getD (j + 1) 0 = p := by rw [← HJ.out]; exact HP.out
          rw [e] at a2
          rw [alikeB_cut a1.1 a2.1 (fun e2 => by
            have := nodup_getN HOD.out.nodup hjP (show j + 1 < P.length by rw [HL.out, ← HJ.out]; exact hlt) (by rw [e, e2])
            omega), a1.2, a2.2]
        have CA := hide' (toExt (alike_any sv fv s (P.getD j 0) p wr (HV.out.ext HE.out) (HF.out.ext HE.out) hq1 (by rw [HFF.out]; exact hp1) HLEN.out))
        rw [HAB.out] at CA
        obtain ⟨q, HQ⟩ : ∃ q, Hid (P.getD j 0 = q) := ⟨_, rfl⟩
        rw [HQ.out] at c2 CA
        by_cases hcut : cutW s (G.getD j 0) = cutW s (G.getD (j + 1) 0)
        · have hcm : c = m + 1 := by rw [HCC.out, ← HM.out, HJ.out, nmG_same hcut]
          subst hcm
          rw [decide_eq_true hcut] at CA
          have e5 : ((m + 1 : Nat) : Int) - 1 = (m : Int) := by omega
          clear hcut hi0 HN HQ hq1 hjP HCC HAB
          go_wp2_with fail
          refine CA.out.mono ?_
          rintro e wr' ⟨rfl, hx⟩
          obtain ⟨z1, z2, z3, z4⟩ := fin.out wr' hx
          have Z3 := hide' z3
          have Z4 := hide' z4
          clear z3 z4 HO HE fin hx CA
          go_wp2
          go_roundw
          case rel => exact ⟨i + 1, m + 1, _, by omega, by go_num, by go_num, N1, Z3, Z4⟩
          case measure => simp [intOf] <;> omega
        · have hcm : m = c := by rw [HCC.out, ← HM.out, HJ.out, nmG_other hcut]
          subst hcm
          rw [decide_eq_false hcut] at CA
          have e5 : ((m : Int) + 1) - 1 = (m : Int) := by omega
          clear hcut hi0 HN HQ hq1 hjP HCC HAB
          go_wp2_with fail
          refine CA.out.mono ?_
          rintro e wr' ⟨rfl, hx⟩
          obtain ⟨z1, z2, z3, z4⟩ := fin.out wr' hx
          have Z3 := hide' z3
          have Z4 := hide' z4
          clear z3 z4 HO HE fin hx CA
          go_wp2
          go_roundw
          case rel => exact ⟨i + 1, m + 1, _, by omega, by go_num, by go_num, N1, Z3, Z4⟩
          case measure => simp [intOf] <;> omega
    · have d1 : decide ((i : Int) < f) = false := by simp; omega
      have hin : f = i := by omega
      go_wp2
      first | go_ret2 | go_ret
      exact ⟨_, N, c, rfl, by have := HN.out; rw [← hin] at this; exact this, HO.out, HE.out⟩
end Go.Proofs.Ytabgbioocfdjiaa
