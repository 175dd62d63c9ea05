/- Contracts of double.ranksInOrder and ranksByCounts. -/
import Derived.Test.YtimhkmnohkbniaaDbSmall
namespace Go.Proofs.Ytimhkmnohkbniaa
set_option linter.unusedVariables false
set_option linter.unusedSimpArgs false
open Go.RowKit

set_option maxHeartbeats 2000000 in
theorem ranksIn_any (v u : Value) (s : List Int) (R : List Nat) (h b : Nat) (w : World) (hv : Sl .i64 w v (natL R)) (hu : Sl .i64 w u (natL (hrL s h))) (hR : InRk s (h + b) R) (h0 : 0 < h) (hb : b ≤ h) (hbl : b ≤ 1000000) (hlen : s.length ≤ 200000) :
    Calls Try.prog 33 #[v, u, .int .i64 (b : Int)] w fun e w' => ∃ x, e = .returned x ∧ Own .i64 3 w.heap.size w' x (natL (hrL s (h + b))) ∧ Ext w w' := by
  have HLEN : Hid (s.length ≤ 1000000) := by show _ ≤ _; omega
  have HUV := hide' hu
  have HR := hide' hR
  have HAK : Hid (∀ i j (W : World), i < s.length → j < s.length → i ≠ j → Sl .i64 W u (natL (hrL s h)) → Calls Try.prog 39 #[u, .int .i64 i, .int .i64 j, .int .i64 b] W fun e w' => e = .returned (.bool (decide (hrI s (h + b) i = hrI s (h + b) j))) ∧ ∃ m, w' = W.drewN m) :=
    fun i j W hi hj hij hW => alikeR_any u s h b i j W hW hi hj hij h0 hb hbl HLEN.out
  obtain ⟨a, c, rfl, _⟩ := id hv
  obtain ⟨ua, uc, hue, _⟩ := id hu
  subst hue
  rw [natL_len, hR.len] at hv ⊢
  rw [natL_len, hrL_len] at hu HUV HAK ⊢
  obtain ⟨_, _, _, hcv⟩ := hv.nat
  have CV := hide' hcv
  have HMM : Hid (∀ i, i < s.length → R.getD i 0 < s.length) := fun i hi => hR.mem hi
  have HND : Hid (∀ i j, i < s.length → j < s.length → i < j → R.getD i 0 ≠ R.getD j 0) := fun i j hi hj hij e => by
    have := nodup_getN hR.nodup (by rw [hR.len]; exact hi) (by rw [hR.len]; exact hj) e
    omega
  have HFI : Hid (∀ i, i < s.length → (i = 0 ∨ hrI s (h + b) (R.getD (i - 1) 0) ≠ hrI s (h + b) (R.getD i 0)) → i = hrI s (h + b) (R.getD i 0)) := fun i hi hf => by
    refine (hR.first hi ?_).symm
    rcases hf with h1 | h1
    · exact .inl h1
    · by_cases e : i = 0
      · exact .inl e
      · have := pairN_at hR.2 (show i - 1 < i by omega) (by rw [hR.len]; exact hi)
        refine .inr ?_
        omega
  have HNX : Hid (∀ i r x, LaidR s (h + b) R i r → i < s.length → x = hrI s (h + b) (R.getD i 0) → LaidR s (h + b) R (i + 1) (r.set (R.getD i 0) x)) := fun i r x h1 h2 h3 => h1.next hR h2 h3
  have HDN : Hid (∀ r, LaidR s (h + b) R s.length r → r = hrL s (h + b)) := fun r h1 => h1.done hR
  have N0 := hide' (LaidR.start s (h + b) R)
  obtain ⟨Z, HZ⟩ : ∃ Z, Hid (hrL s (h + b) = Z) := ⟨_, rfl⟩
  rw [HZ.out] at HDN ⊢
  obtain ⟨H, HH⟩ : ∃ H, Hid (h + b = H) := ⟨_, rfl⟩
  rw [HH.out] at HFI HNX HDN N0 HAK
  obtain ⟨n, HN⟩ : ∃ n, Hid (s.length = n) := ⟨_, rfl⟩
  rw [HN.out] at CV HMM HND HFI HNX HDN N0 HUV HAK hlen ⊢
  obtain ⟨w1, hmk, ho, he⟩ := make_nats w n (by omega)
  obtain ⟨g, HG⟩ : ∃ g, Hid (w.heap.size = g) := ⟨_, rfl⟩
  have hgw : w.heap.size ≤ g := by rw [HG.out]; exact Nat.le_refl _
  rw [HG.out] at ho hmk ⊢
  have O1 := hide' ho
  have X1 := hide' he
  clear ho he hv hu hcv hR
  go_enter Try.func33, Try.ntmps33
  go_wp2
  go_loopw [15] (fun vi wr => ∃ (i : Nat) (r : List Nat), i ≤ n ∧ vi = .int .i64 i ∧ Hid (LaidR s H R i r) ∧ Hid (Own .i64 3 g wr (.slice (some ⟨g, 0, none⟩) n n) (natL r)) ∧ Hid (Ext w wr)) (fun vi _ => n - (intOf vi).toNat)
  case atStart => exact ⟨0, _, Nat.zero_le _, rfl, N0, O1, X1⟩
  case round =>
    clear O1 X1 N0 hmk
    obtain ⟨i, r, hi, rfl, HL, HO, HE⟩ := hrel
    have HRL : Hid (r.length = n) := by show _ = _; rw [HL.out.len, HN.out]
    by_cases hlt : i < n
    · have hlt' : (i : Int) < n := by omega
      obtain ⟨g1, o1, rfl, k1⟩ := CV.out (by omega)
      have c1 := HE.out.cellOf (k1 i hlt)
      have hpn := HMM.out i hlt
      have HNXi := hide' (fun x h1 => HNX.out i r x HL.out hlt h1)
      have HFIi := hide' (HFI.out i hlt)
      have HUW := hide' (HUV.out.ext HE.out)
      by_cases hi0 : i = 0
      · have d0 : decide ((0 : Int) < (i : Int)) = false := by simp; omega
        have d0' : decide (0 < i) = false := by simp; omega
        have hiv : (i : Int) = ((i : Nat) : Int) := rfl
        have H1 := hide' (HNXi.out i (HFIi.out (.inl hi0)))
        obtain ⟨p, HP⟩ : ∃ p, Hid (R.getD i 0 = p) := ⟨_, rfl⟩
        rw [HP.out] at c1 hpn H1
        have hpn' : (p : Int) < n := by omega
        have c3 := HO.out.intCell HRL.out p hpn
        have z3 := HO.out.frozen (by rw [natL_len]; exact HRL.out) p
        have O6 := hide' (HO.out.storeN HRL.out p i)
        have X6 : Hid (Ext w (wr.setCell ⟨g, p, none⟩ (.int .i64 (i : Int)))) := Ext.but HE.out hgw (but_set _ _ _ _)
        clear k1 HO HE HL HNXi HFIi HUW hi0
        go_wp2_with fail
        go_roundw
        case rel => exact ⟨i + 1, _, by omega, by go_num, H1, O6, X6⟩
        case measure => simp [intOf] <;> omega
      · have d0 : (0 : Int) < (i : Int) := by omega
        have hm1 : (i : Int) - 1 = ((i - 1 : Nat) : Int) := by omega
        have c2 := HE.out.cellOf (k1 (i - 1) (by omega))
        have hqn := HMM.out (i - 1) (by omega)
        have hne := HND.out (i - 1) i (by omega) hlt (by omega)
        have HLA := hide' (HL.out.at' (i - 1) (by omega))
        obtain ⟨t, HT⟩ : ∃ t, Hid (i - 1 = t) := ⟨_, rfl⟩
        have htn : t < n := by rw [← HT.out]; omega
        have htn' : (t : Int) < n := by omega
        rw [HT.out] at hm1 c2 hqn hne HLA HFIi
        have HA := hide' (fun W hW => HAK.out (R.getD t 0) (R.getD i 0) W hqn hpn hne hW)
        obtain ⟨p, HP⟩ : ∃ p, Hid (R.getD i 0 = p) := ⟨_, rfl⟩
        rw [HP.out] at c1 hpn HNXi HFIi HA
        obtain ⟨q, HQ⟩ : ∃ q, Hid (R.getD t 0 = q) := ⟨_, rfl⟩
        rw [HQ.out] at c2 hqn HFIi HA HLA
        have hpn' : (p : Int) < n := by omega
        have hqn' : (q : Int) < n := by omega
        clear k1 hne
        by_cases hx : hrI s H q = hrI s H p
        · have HA2 : Hid (∀ W, Sl .i64 W (.slice ua n uc) (natL (hrL s h)) → Calls Try.prog 39 #[.slice ua n uc, .int .i64 q, .int .i64 p, .int .i64 b] W fun e w' => e = .returned (.bool true) ∧ ∃ m, w' = W.drewN m) := fun W hW => by
            have := HA.out W hW
            rwa [decide_eq_true hx] at this
          have H1 := hide' (HNXi.out (r.getD q 0) (by rw [HLA.out, hx]))
          clear HA HNXi HFIi
          go_wp2_with fail
          refine (HA2.out _ HUW.out).mono ?_
          rintro e w2 ⟨rfl, m, hw2⟩
          have X2 : Hid (Ext wr w2) := by show Ext _ _; rw [hw2]; exact Ext.drewN _ _
          clear hw2
          have HO2 := hide' (HO.out.ext X2.out)
          have HE2 := hide' (HE.out.trans X2.out)
          have c5 := X2.out.cellOf c2
          have c4 := HO2.out.intCell HRL.out q hqn
          have c3 := HO2.out.intCell HRL.out p hpn
          have z3 := HO2.out.frozen (by rw [natL_len]; exact HRL.out) p
          obtain ⟨x, HX⟩ : ∃ x, Hid (r.getD q 0 = x) := ⟨_, rfl⟩
          rw [HX.out] at c4 H1
          have O6 := hide' (HO2.out.storeN HRL.out p x)
          have X6 : Hid (Ext w (w2.setCell ⟨g, p, none⟩ (.int .i64 (x : Int)))) := Ext.but HE2.out hgw (but_set _ _ _ _)
          clear HO HE HL HUW HO2 HE2 c1 c2 X2 hx
          go_wp2_with fail
          go_roundw
          case rel => exact ⟨i + 1, _, by omega, by go_num, H1, O6, X6⟩
          case measure => simp [intOf] <;> omega
        · have HA2 : Hid (∀ W, Sl .i64 W (.slice ua n uc) (natL (hrL s h)) → Calls Try.prog 39 #[.slice ua n uc, .int .i64 q, .int .i64 p, .int .i64 b] W fun e w' => e = .returned (.bool false) ∧ ∃ m, w' = W.drewN m) := fun W hW => by
            have := HA.out W hW
            rwa [decide_eq_false hx] at this
          have H1 := hide' (HNXi.out i (HFIi.out (.inr hx)))
          clear HA HNXi HFIi
          go_wp2_with fail
          refine (HA2.out _ HUW.out).mono ?_
          rintro e w2 ⟨rfl, m, hw2⟩
          have X2 : Hid (Ext wr w2) := by show Ext _ _; rw [hw2]; exact Ext.drewN _ _
          clear hw2
          have HO2 := hide' (HO.out.ext X2.out)
          have HE2 := hide' (HE.out.trans X2.out)
          have c3 := HO2.out.intCell HRL.out p hpn
          have z3 := HO2.out.frozen (by rw [natL_len]; exact HRL.out) p
          have O6 := hide' (HO2.out.storeN HRL.out p i)
          have X6 : Hid (Ext w (w2.setCell ⟨g, p, none⟩ (.int .i64 (i : Int)))) := Ext.but HE2.out hgw (but_set _ _ _ _)
          clear HO HE HL HUW HO2 HE2 c1 c2 X2 hx
          go_wp2_with fail
          go_roundw
          case rel => exact ⟨i + 1, _, by omega, by go_num, H1, O6, X6⟩
          case measure => simp [intOf] <;> omega
    · have d1 : decide ((i : Int) < n) = false := by simp; omega
      have hin : n = i := by omega
      have HD : Hid (r = Z) := by
        show _ = _
        have := HL.out
        rw [← hin] at this
        exact HDN.out _ this
      go_wp2
      go_ret
      refine ⟨_, rfl, ?_, HE.out⟩
      rw [← HD.out]
      exact HO.out

set_option maxHeartbeats 1000000 in
theorem ranksCnt_any (v cv : Value) (s : List Int) (K : Nat) (w : World) (hv : Sl .i64 w v s) (hcv : Sl .i64 w cv (natL (cntsI s K))) (hg : goodI (K : Int) s = true) (hK : K ≤ 1048576) (hlen : s.length ≤ 200000) :
    Calls Try.prog 20 #[v, cv] w fun e w' => ∃ u, e = .returned u ∧ Own .i64 3 w.heap.size w' u (natL (hrL s 1)) ∧ Ext w w' := by
  have HGD := hide' hg
  have HS : Hid (∀ q, q ≤ K → sumI (natL (cntsI s K)) q = (lsN s (q : Int) s.length : Int)) := fun q hq => sum_counts hg q hq
  have HC := hide' (starts_any cv (natL (cntsI s K)) w hcv (by rw [natL_len, cntsI_len]; omega) (fun i hi => by
    rw [natL_len, cntsI_len] at hi
    rw [HS.out i hi]
    have := lsN_le s (i : Int) s.length
    omega))
  have HT : Hid (∀ q, q < K → (startsI (natL (cntsI s K))).getD q 0 = (lsN s (q : Int) s.length : Int)) := fun q hq => by
    rw [startsI_at _ (by rw [natL_len, cntsI_len]; exact hq), HS.out q (by omega)]
  have HTL : Hid ((startsI (natL (cntsI s K))).length = K) := by show _ = _; rw [startsI_len, natL_len, cntsI_len]
  obtain ⟨T, HTT⟩ : ∃ T, Hid (startsI (natL (cntsI s K)) = T) := ⟨_, rfl⟩
  rw [HTT.out] at HC HT HTL
  have HV := hide' hv
  obtain ⟨a, c, rfl, _⟩ := id hv
  obtain ⟨ca, cc, hce, _⟩ := id hcv
  subst hce
  rw [natL_len, cntsI_len] at HC ⊢
  obtain ⟨zs, HZS⟩ : ∃ zs, Hid (natL (hrL s 1) = zs) := ⟨_, rfl⟩
  have HZL : Hid (zs.length = s.length) := by show _ = _; rw [← HZS.out, natL_len, hrL_len]
  have HAT : Hid (∀ i, i < s.length → zs.getD i 0 = (lsN s (s.getD i 0) s.length : Int)) := fun i hi => by rw [← HZS.out, natL_at, hrL_at hi, hrI_one hi]
  rw [HZS.out]
  obtain ⟨n, HN⟩ : ∃ n, Hid (s.length = n) := ⟨_, rfl⟩
  have HGA : Hid (∀ j, j < n → 0 ≤ s.getD j 0 ∧ s.getD j 0 < K) := fun j hj => by
    have := goodI_at HGD.out (j := j) (by rw [HN.out]; exact hj)
    exact ⟨this.1, this.2⟩
  rw [HN.out] at HV HT HAT HZL hlen ⊢
  clear hv hcv hg
  go_enter Try.func20, Try.ntmps20
  go_wp2_with fail
  refine HC.out.mono ?_
  rintro e w1 ⟨su, rfl, ho, he⟩
  have ST := hide' ho.sl
  have X0 := hide' he
  have hz0 := he.size
  clear ho he HC
  obtain ⟨_, _, _, kv⟩ := HV.out.int
  have CV := hide' kv
  obtain ⟨sa, sc, hse, _⟩ := id ST.out
  subst hse
  rw [HTL.out] at ST
  obtain ⟨_, _, _, ks⟩ := ST.out.int
  have CS := hide' ks
  clear kv ks ST
  obtain ⟨w2, hmk, ho, he⟩ := make_ints w1 n (by omega)
  obtain ⟨g, HG⟩ : ∃ g, Hid (w1.heap.size = g) := ⟨_, rfl⟩
  have hgw : w1.heap.size ≤ g := by rw [HG.out]; exact Nat.le_refl _
  have hgw0 : w.heap.size ≤ g := by rw [← HG.out]; exact hz0
  rw [HG.out] at ho hmk
  have O1 := hide' ho
  have X1 := hide' he
  have H0 : Hid (HalfI zs 0 (List.replicate n 0)) := by show HalfI _ _ _; rw [← HZL.out]; exact HalfI.start zs
  clear ho he
  rw [HTL.out]
  go_wp2
  go_loopw [16] (fun vi wr => ∃ (i : Nat) (r : List Int), i ≤ n ∧ vi = .int .i64 i ∧ Hid (HalfI zs i r) ∧ Hid (Own .i64 3 g wr (.slice (some ⟨g, 0, none⟩) n n) r) ∧ Hid (Ext w1 wr)) (fun vi _ => n - (intOf vi).toNat)
  case atStart => exact ⟨0, _, Nat.zero_le _, rfl, H0, O1, X1⟩
  case round =>
    clear O1 X1 H0 hmk
    obtain ⟨i, r, hi, rfl, HH, HO, HE⟩ := hrel
    have HRL : Hid (r.length = n) := by show _ = _; rw [HH.out.len, HZL.out]
    by_cases hlt : i < n
    · have hlt' : (i : Int) < n := by omega
      have H1 := hide' (HH.out.next (by rw [HZL.out]; exact hlt))
      have HI := hide' (HAT.out i hlt)
      rw [HI.out] at H1
      obtain ⟨g1, o1, rfl, k1⟩ := CV.out (by omega)
      have c1 := HE.out.cellOf (X0.out.cellOf (k1 i hlt))
      have hz := HGA.out i hlt
      have HTi := hide' (fun q hq => HT.out q hq)
      obtain ⟨z, HZ⟩ : ∃ z, Hid (s.getD i 0 = z) := ⟨_, rfl⟩
      rw [HZ.out] at c1 hz H1
      obtain ⟨q, rfl⟩ := Int.eq_ofNat_of_zero_le hz.1
      have hq : q < K := by omega
      have hq' : (q : Int) < K := by omega
      obtain ⟨g2, o2, rfl, k2⟩ := CS.out (by omega)
      have c2 := HE.out.cellOf (k2 q hq)
      rw [HTi.out q hq] at c2
      obtain ⟨x, HX⟩ : ∃ x, Hid (lsN s (q : Int) n = x) := ⟨_, rfl⟩
      rw [HX.out] at H1
      rw [HX.out] at c2
      have c3 := HO.out.cell HRL.out i hlt
      have z3 := HO.out.frozen HRL.out i
      have O6 := hide' (HO.out.store HRL.out i (x : Int))
      have X6 : Hid (Ext w1 (wr.setCell ⟨g, i, none⟩ (.int .i64 (x : Int)))) := Ext.but HE.out hgw (but_set _ _ _ _)
      clear k1 k2 hz HO HE HH HTi
      go_wp2
      go_roundw
      case rel => exact ⟨i + 1, _, by omega, by go_num, H1, O6, X6⟩
      case measure => simp [intOf] <;> omega
    · have d2 : decide ((i : Int) < n) = false := by simp; omega
      have hin : n = i := by omega
      have HD : Hid (r = zs) := by
        show _ = _
        have := HH.out
        rw [← hin, ← HZL.out] at this
        exact this.done
      go_wp2
      go_ret
      refine ⟨_, rfl, ?_, X0.out.trans HE.out⟩
      rw [← HD.out]
      exact HO.out.low hgw0
end Go.Proofs.Ytimhkmnohkbniaa
