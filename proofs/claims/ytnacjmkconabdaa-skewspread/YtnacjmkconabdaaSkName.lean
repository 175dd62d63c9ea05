/- Contract of skew.nameAll: names of the triples, with a tail. -/
import Derived.Test.YtnacjmkconabdaaSkAlike
namespace Go.Proofs.Ytnacjmkconabdaa
set_option linter.unusedVariables false
set_option linter.unusedSimpArgs false
open Go.RowKit

theorem samp_nodup (n : Nat) : (samp n).Nodup := by rw [samp_two]; exact twoN_nodup _

set_option maxHeartbeats 2000000 in
theorem nameT_any (sv fv pv : Value) (s : List Int) (G : List Nat) (w : World) (hs : Sl .i64 w sv (tailI s)) (hf : Sl .i64 w fv (natL (samp s.length))) (hp : Sl .i64 w pv (natL G)) (hG : G.Perm (samp s.length)) (hlen : s.length ≤ 200000) :
    Calls Try.prog 33 #[sv, fv, pv] w fun e w' => ∃ (u : Value) (A : List Int) (c : Nat), e = .returned (.tuple #[u, .int .i64 c]) ∧ NamedT s G (s.length + 3) G.length A c ∧ Own .i64 3 w.heap.size w' u (tailI (namI s.length A)) ∧ Ext w w' := by
  have HV := hide' hs
  have HLEN := hide' hlen
  have HND : Hid G.Nodup := hG.nodup_iff.2 (samp_nodup _)
  have HGM : Hid (∀ i, i < G.length → G.getD i 0 ≤ s.length) := fun i hi => by
    have := samp_mem.1 (hG.mem_iff.1 (getN_mem hi))
    omega
  have HGL : Hid (G.length = sampM s.length) := by show _ = _; rw [hG.length_eq, samp_len]
  have hml := sampM_le s.length
  have HSM : Hid (∀ i, i < sampM s.length → (samp s.length).getD i 0 = sampAt (sampA s.length) i ∧ sampAt (sampA s.length) i ≤ s.length) := fun i hi => ⟨samp_at hi, (sampAt_mem hi).2⟩
  obtain ⟨va, vc, hve, _⟩ := id hs
  subst hve
  obtain ⟨fa, fc, hfe, _⟩ := id hf
  subst hfe
  obtain ⟨pa, pc, hpe, _⟩ := id hp
  subst hpe
  have HTL := hide' (tailI_len s)
  rw [HTL.out] at HV ⊢
  rw [natL_len, samp_len] at hf ⊢
  rw [natL_len, HGL.out] at hp ⊢
  obtain ⟨_, _, _, hcf⟩ := hf.nat
  obtain ⟨_, _, _, hcp⟩ := hp.nat
  have CF := hide' hcf
  have CP := hide' hcp
  obtain ⟨n, HN⟩ : ∃ n, Hid (s.length = n) := ⟨_, rfl⟩
  rw [HN.out] at HV hlen HTL HGM HGL hml HSM CF CP ⊢
  obtain ⟨m, HM⟩ : ∃ m, Hid (sampM n = m) := ⟨_, rfl⟩
  rw [HM.out] at HGL hml HSM CF CP ⊢
  obtain ⟨L, HL⟩ : ∃ L, Hid (n + 3 = L) := ⟨_, rfl⟩
  have hL : L ≤ 200003 := by rw [← HL.out]; omega
  have hnL : n + 3 ≤ L := by rw [← HL.out]; exact Nat.le_refl _
  rw [HL.out] at HV HTL ⊢
  obtain ⟨w1, hmk, ho, he⟩ := make_ints w L (by omega)
  obtain ⟨g, HG⟩ : ∃ g, Hid (w.heap.size = g) := ⟨_, rfl⟩
  have hgw : w.heap.size ≤ g := by rw [HG.out]; exact Nat.le_refl _
  rw [HG.out] at ho hmk ⊢
  have O1 := hide' ho
  have X1 := hide' he
  have N0 : Hid (NamedT s G L 0 (List.replicate L 0) 0) := NamedT.start s G L
  clear ho he hp hcp hs hf hcf hG
  go_enter Try.func33, Try.ntmps33
  go_wp2
  go_loopw [7, 18] (fun vc vi wr => ∃ (i c : Nat) (N : List Int), i ≤ m ∧ c ≤ m ∧ vi = .int .i64 i ∧ vc = .int .i64 c ∧ Hid (NamedT s G L i N c) ∧ Hid (Own .i64 3 g wr (.slice (some ⟨g, 0, none⟩) L L) N) ∧ Hid (Ext w wr)) (fun _ vi _ => m - (intOf vi).toNat)
  case atStart => exact ⟨0, 0, _, Nat.zero_le _, Nat.zero_le _, rfl, rfl, N0, O1, X1⟩
  case round =>
    clear O1 X1 N0 hmk
    obtain ⟨i, c, N, hi, hcm, rfl, rfl, HNM, HO, HE⟩ := hrel
    have HNL : Hid (N.length = L) := HNM.out.len
    by_cases hlt : i < m
    · have hlt' : (i : Int) < m := by omega
      have hiG : i < G.length := by rw [HGL.out]; exact hlt
      have hp1 := HGM.out i hiG
      have N1 := hide' (HNM.out.next HND.out hiG (by omega))
      obtain ⟨g1, o1, rfl, k1⟩ := CP.out (by omega)
      have K1 := hide' k1
      have c1 := HE.out.cellOf (k1 i hlt)
      have hm := nmT_le s G i
      obtain ⟨p, HP⟩ : ∃ p, Hid (G.getD i 0 = p) := ⟨_, rfl⟩
      obtain ⟨t, HT⟩ : ∃ t, Hid (nmT s G i + 1 = t) := ⟨_, rfl⟩
      have htm : t ≤ m := by rw [← HT.out]; omega
      have HTT : Hid ((nmT s G i : Int) + 1 = (t : Int)) := by show _ = _; rw [← HT.out]; omega
      rw [HP.out] at c1 N1 hp1
      rw [HTT.out, HT.out] at N1
      have hp1' : (p : Int) < L := by omega
      clear k1
      have fin : Hid (∀ wr', Ext wr wr' → wr'.cell? ⟨g, p, none⟩ = some (.int .i64 (N.getD p 0)) ∧ wr'.frozen? ⟨g, p, none⟩ = false ∧ Own .i64 3 g (wr'.setCell ⟨g, p, none⟩ (.int .i64 (t : Int))) (.slice (some ⟨g, 0, none⟩) L L) (N.set p (t : Int)) ∧ Ext w (wr'.setCell ⟨g, p, none⟩ (.int .i64 (t : Int)))) := fun wr' hx => by
        have h1 := HO.out.ext hx
        exact ⟨h1.cell HNL.out p (by omega), h1.frozen HNL.out p, h1.store HNL.out p _, Ext.but (HE.out.trans hx) hgw (but_set _ _ _ _)⟩
      by_cases hi0 : i = 0
      · have hc0 := HNM.out.zero hi0
        have hct : (c : Int) + 1 = (t : Int) := by
          rw [← HT.out, hi0]
          show (c : Int) + 1 = ((0 + 1 : Nat) : Int)
          omega
        have d0 : ((i : Int) == 0) = true := by simp; omega
        clear hi0 hc0 hiG
        obtain ⟨z1, z2, z3, z4⟩ := fin.out wr (Ext.refl _)
        have Z3 := hide' z3
        have Z4 := hide' z4
        clear z3 z4 HO HE fin HNM
        go_wp2
        go_roundw
        case rel => exact ⟨i + 1, t, _, by omega, htm, by go_num, by go_num, N1, Z3, Z4⟩
        case measure => simp [intOf] <;> omega
      · obtain ⟨j, HJ⟩ : ∃ j, Hid (i = j + 1) := ⟨i - 1, by show _ = _; omega⟩
        have hj : (i : Int) - 1 = (j : Int) := by have := HJ.out; omega
        have hjf : j < m := by have := HJ.out; omega
        have hjf' : (j : Int) < m := by omega
        have d0 : ((i : Int) == 0) = false := by simp; omega
        have hjG : j < G.length := by rw [HGL.out]; exact hjf
        have c2 := HE.out.cellOf (K1.out j hjf)
        have hq1 := HGM.out j hjG
        have HCC := hide' (HNM.out.count j HJ.out)
        have CA := hide' (toExt (alike3_any _ s (G.getD j 0) p wr (HV.out.ext HE.out) (by rw [HN.out]; exact hq1) (by rw [HN.out]; exact hp1) HLEN.out))
        have HGP : Hid (G.getD (j + 1) 0 = p) := by show _ = _; rw [← HJ.out]; exact HP.out
        have HTS : Hid (triB s (G.getD j 0) p = true → t = c) := fun g => by
          rw [← HGP.out] at g
          rw [← HT.out, HJ.out, nmT_same g, HCC.out]
        have HTO : Hid (triB s (G.getD j 0) p = false → t = c + 1) := fun g => by
          rw [← HGP.out] at g
          rw [← HT.out, HJ.out, nmT_other g, HCC.out]
        obtain ⟨q, HQ⟩ : ∃ q, Hid (G.getD j 0 = q) := ⟨_, rfl⟩
        rw [HQ.out] at c2 CA HTS HTO
        cases hcut : triB s q p
        · have hct : (c : Int) + 1 = (t : Int) := by have := HTO.out hcut; omega
          rw [hcut] at CA
          clear hcut hi0 HNM HQ hq1 hjG HCC HTS HTO hiG
          go_wp2_with fail
          refine CA.out.mono ?_
          rintro e wr' ⟨rfl, hx⟩
          obtain ⟨z1, z2, z3, z4⟩ := fin.out wr' hx
          have Z3 := hide' z3
          have Z4 := hide' z4
          clear z3 z4 HO HE fin hx CA
          go_wp2
          go_roundw
          case rel => exact ⟨i + 1, t, _, by omega, htm, by go_num, by go_num, N1, Z3, Z4⟩
          case measure => simp [intOf] <;> omega
        · have hct := HTS.out hcut
          subst hct
          rw [hcut] at CA
          clear hcut hi0 HNM HQ hq1 hjG HCC HTS HTO hiG
          go_wp2_with fail
          refine CA.out.mono ?_
          rintro e wr' ⟨rfl, hx⟩
          obtain ⟨z1, z2, z3, z4⟩ := fin.out wr' hx
          have Z3 := hide' z3
          have Z4 := hide' z4
          clear z3 z4 HO HE fin hx CA
          go_wp2
          go_roundw
          case rel => exact ⟨i + 1, t, _, by omega, htm, by go_num, by go_num, N1, Z3, Z4⟩
          case measure => simp [intOf] <;> omega
    · have d1 : decide ((i : Int) < m) = false := by simp; omega
      have hin : m = i := by omega
      have HF : Hid (NamedT s G L m N c) := by have := HNM.out; rw [← hin] at this; exact this
      have KN : Hid (∀ j, j < L → wr.cell? ⟨g, j, none⟩ = some (.int .i64 (N.getD j 0))) := fun j hj => HO.out.cell HNL.out j hj
      have X2 := hide' HE.out
      have hz2 := HE.out.size
      have hm3 : (m : Int) + 3 = ((m + 3 : Nat) : Int) := by omega
      obtain ⟨M, HMM⟩ : ∃ M, Hid (m + 3 = M) := ⟨_, rfl⟩
      have hM : M ≤ 200003 := by rw [← HMM.out]; omega
      have hmM : m + 3 ≤ M := by rw [← HMM.out]; exact Nat.le_refl _
      rw [HMM.out] at hm3
      obtain ⟨w3, hmk, ho, he⟩ := make_ints wr M (by omega)
      obtain ⟨f, HFF⟩ : ∃ f, Hid (f = fun (t : Nat) => N.getD (sampAt (sampA n) t) 0) := ⟨_, rfl⟩
      have H0 : Hid (HalfT f m 0 (List.replicate M 0)) := by rw [← HMM.out]; exact HalfT.start f m
      have hzz : w.heap.size ≤ wr.heap.size := hz2
      obtain ⟨h, HH⟩ : ∃ h, Hid (wr.heap.size = h) := ⟨_, rfl⟩
      have hhw : wr.heap.size ≤ h := by rw [HH.out]; exact Nat.le_refl _
      rw [HH.out] at hmk ho
      have O3 := hide' ho
      have X3 := hide' he
      clear ho he HO HE HNM hin
      go_wp2
      generalize HGW : wr = W at *
      clear HGW
      go_loopw [49] (fun vi wq => ∃ (i : Nat) (r : List Int), i ≤ m ∧ vi = .int .i64 i ∧ Hid (HalfT f m i r) ∧ Hid (Own .i64 3 h wq (.slice (some ⟨h, 0, none⟩) M M) r) ∧ Hid (Ext W wq)) (fun vi _ => m - (intOf vi).toNat)
      case atStart => exact ⟨0, _, Nat.zero_le _, rfl, H0, O3, X3⟩
      case round =>
        clear O3 X3 H0 hmk
        obtain ⟨i, r, hi, rfl, HR, HO, HE⟩ := hrel
        have HRL : Hid (r.length = M) := by show _ = _; rw [HR.out.len, HMM.out]
        by_cases hlt : i < m
        · have hlt' : (i : Int) < m := by omega
          obtain ⟨g1, o1, rfl, k1⟩ := CF.out (by omega)
          have c1 := HE.out.cellOf (X2.out.cellOf (k1 i hlt))
          obtain ⟨q1, q2⟩ := HSM.out i hlt
          rw [q1] at c1
          have c2 := HE.out.cellOf (KN.out (sampAt (sampA n) i) (by omega))
          have H1 := hide' (HR.out.next hlt)
          have HFI : Hid (f i = N.getD (sampAt (sampA n) i) 0) := by show _ = _; rw [HFF.out]
          rw [HFI.out] at H1
          obtain ⟨p, HP⟩ : ∃ p, Hid (sampAt (sampA n) i = p) := ⟨_, rfl⟩
          rw [HP.out] at c1 c2 H1 q2
          obtain ⟨x, HX⟩ : ∃ x, Hid (N.getD p 0 = x) := ⟨_, rfl⟩
          rw [HX.out] at c2 H1
          have hp' : (p : Int) < L := by omega
          have hiM : (i : Int) < M := by omega
          have c3 := HO.out.cell HRL.out i (by omega)
          have z3 := HO.out.frozen HRL.out i
          have O6 := hide' (HO.out.store HRL.out i x)
          have X6 : Hid (Ext W (wr.setCell ⟨h, i, none⟩ (.int .i64 x))) := Ext.but HE.out hhw (but_set _ _ _ _)
          clear k1 q1 HO HE HR
          go_wp2
          go_roundw
          case rel => exact ⟨i + 1, _, by omega, by go_num, H1, O6, X6⟩
          case measure => simp [intOf] <;> omega
        · have d2 : decide ((i : Int) < m) = false := by simp; omega
          have hin : m = i := by omega
          have HD : Hid (r = tailI (namI n N)) := by
            show _ = _
            have h1 := HR.out
            rw [← hin] at h1
            refine h1.done (by rw [namI_len, HM.out]) fun t ht => ?_
            rw [namI_at N (by rw [HM.out]; exact ht), HFF.out]
            show N.getD (sampAt (sampA n) t) 0 - 1 + 1 = N.getD (sampAt (sampA n) t) 0
            omega
          go_wp2
          first | go_ret2 | go_ret
          refine ⟨_, N, c, rfl, HF.out, ?_, X2.out.trans HE.out⟩
          rw [← HD.out]
          exact HO.out.low (by have := HH.out; have := HG.out; omega)
end Go.Proofs.Ytnacjmkconabdaa
