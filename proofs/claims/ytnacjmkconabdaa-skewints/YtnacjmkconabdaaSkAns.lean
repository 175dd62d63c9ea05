/- Contracts of skew.closeUp, Ints, numbers and Bytes. -/
import Derived.Test.YtnacjmkconabdaaSkOrder
import Derived.Test.YtnacjmkconabdaaSkClose
import Derived.Test.YtnacjmkconabdaaResMath
namespace Go.Proofs.Ytnacjmkconabdaa
set_option linter.unusedVariables false
set_option linter.unusedSimpArgs false
open Go.RowKit

set_option maxHeartbeats 2000000 in
theorem closeUp_any (v cv : Value) (s : List Int) (K : Nat) (w : World) (hv : Sl .i64 w v s) (hcv : Sl .i64 w cv (natL (cntsI s K))) (hg : goodI (K : Int) s = true) (hK : K ≤ 1048576) (hlen : s.length ≤ 100000) :
    Calls Try.prog 18 #[v, cv] w fun e w' => ∃ u, e = .returned (.tuple #[u, .int .i64 ((kdN s K + 1 : Nat) : Int)]) ∧ Own .i64 3 w.heap.size w' u (tailI (clI s)) ∧ Ext w w' := by
  have HGD := hide' hg
  have HKL := hide' (kdN_le hg)
  obtain ⟨a, c, hve, _⟩ := id hv
  subst hve
  obtain ⟨ca, cc, hce, _⟩ := id hcv
  subst hce
  rw [natL_len, cntsI_len] at hcv ⊢
  obtain ⟨_, _, _, kv⟩ := hv.int
  obtain ⟨_, _, _, kc⟩ := hcv.nat
  have CV := hide' kv
  have CC := hide' kc
  obtain ⟨n, HN⟩ : ∃ n, Hid (s.length = n) := ⟨_, rfl⟩
  rw [HN.out] at CV hlen HKL ⊢
  obtain ⟨w1, hmk, ho, he⟩ := make_natsB w K (by omega)
  obtain ⟨g, HG⟩ : ∃ g, Hid (w.heap.size = g) := ⟨_, rfl⟩
  have hgw : w.heap.size ≤ g := by rw [HG.out]; exact Nat.le_refl _
  rw [HG.out] at ho hmk ⊢
  have O1 := hide' ho
  have X1 := hide' he
  have N0 : Hid (KindT s K 0 (List.replicate K 0)) := KindT.start s K
  have HMO : Hid (∀ q, q ≤ K → kdN s q ≤ n) := fun q hq => by
    have := kdN_mono s q (K - q)
    rw [show q + (K - q) = K by omega] at this
    have := HKL.out
    omega
  clear ho he hv hcv kv kc hg
  go_enter Try.func18, Try.ntmps18
  go_wp2
  go_loopw [5, 16] (fun vk vi wr => ∃ (i t : Nat) (N : List Nat), i ≤ K ∧ t ≤ 100001 ∧ Hid (t = kdN s i + 1) ∧ vi = .int .i64 i ∧ vk = .int .i64 t ∧ Hid (KindT s K i N) ∧ Hid (Own .i64 3 g wr (.slice (some ⟨g, 0, none⟩) K K) (natL N)) ∧ Hid (Ext w wr)) (fun _ vi _ => K - (intOf vi).toNat)
  case atStart => exact ⟨0, 1, _, Nat.zero_le _, by omega, rfl, rfl, rfl, N0, O1, X1⟩
  case round =>
    clear O1 X1 N0 hmk
    obtain ⟨i, t, N, hi, ht, HT, rfl, rfl, HNM, HO, HE⟩ := hrel
    have HNL : Hid (N.length = K) := HNM.out.len
    by_cases hlt : i < K
    · have hlt' : (i : Int) < K := by omega
      obtain ⟨g1, o1, rfl, k1⟩ := CC.out (by omega)
      have c1 := HE.out.cellOf (k1 i hlt)
      rw [cntsI_at s hlt] at c1
      have HPU := hide' (HNM.out.put hlt)
      rw [← HT.out] at HPU
      have HSK := hide' (fun h => HNM.out.skip h)
      have HKY := hide' (fun h => kdN_yes (s := s) (q := i) h)
      have HKN := hide' (fun h => kdN_no (s := s) (q := i) h)
      have HM1 := hide' (HMO.out (i + 1) (by omega))
      obtain ⟨x, HX⟩ : ∃ x, Hid (cntI s i s.length = x) := ⟨_, rfl⟩
      rw [HX.out] at c1 HSK HKY HKN
      clear k1
      by_cases hx : 0 < x
      · have hx' : (0 : Int) < (x : Int) := by omega
        have HT1 : Hid (t + 1 = kdN s (i + 1) + 1) := by show _ = _; rw [HKY.out hx, HT.out]
        have ht1 : t + 1 ≤ 100001 := by rw [HT1.out]; have := HM1.out; omega
        have c3 := HO.out.intCell HNL.out i hlt
        have z3 := HO.out.frozen (by rw [natL_len]; exact HNL.out) i
        have O6 := hide' (HO.out.storeN HNL.out i t)
        have X6 : Hid (Ext w (wr.setCell ⟨g, i, none⟩ (.int .i64 (t : Int)))) := Ext.but HE.out hgw (but_set _ _ _ _)
        clear HO HE HNM HSK HKY HKN
        go_wp2
        go_roundw
        case rel => exact ⟨i + 1, t + 1, _, by omega, ht1, HT1, by go_num, by go_num, HPU, O6, X6⟩
        case measure => simp [intOf] <;> omega
      · have d1 : decide ((0 : Int) < (x : Int)) = false := by simp; omega
        have d2 : decide (0 < x) = false := by simp; omega
        have HT1 : Hid (t = kdN s (i + 1) + 1) := by show _ = _; rw [HKN.out hx, HT.out]
        have HS1 := hide' (HSK.out hx)
        clear HNM HSK HKY HKN hx
        go_wp2
        go_roundw
        case rel => exact ⟨i + 1, t, _, by omega, ht, HT1, by go_num, by go_num, HS1, HO, HE⟩
        case measure => simp [intOf] <;> omega
    · have d1 : decide ((i : Int) < K) = false := by simp; omega
      have hin : K = i := by omega
      have HF : Hid (KindT s K K N) := by have := HNM.out; rw [← hin] at this; exact this
      have HTK : Hid (t = kdN s K + 1) := by show _ = _; rw [HT.out, hin]
      have KN : Hid (∀ j, j < K → wr.cell? ⟨g, j, none⟩ = some (.int .i64 ((N.getD j 0 : Nat) : Int))) := fun j hj => HO.out.intCell HNL.out j hj
      have X2 := hide' HE.out
      have hz2 := HE.out.size
      have hm3 : (n : Int) + 3 = ((n + 3 : Nat) : Int) := by omega
      obtain ⟨M, HMM⟩ : ∃ M, Hid (n + 3 = M) := ⟨_, rfl⟩
      have hM : M ≤ 200003 := by rw [← HMM.out]; omega
      have hmM : n + 3 ≤ M := by rw [← HMM.out]; exact Nat.le_refl _
      rw [HMM.out] at hm3
      obtain ⟨w3, hmk, ho, he⟩ := make_ints wr M (by omega)
      obtain ⟨f, HFF⟩ : ∃ f, Hid (f = fun (t : Nat) => ((N.getD (s.getD t 0).toNat 0 : Nat) : Int)) := ⟨_, rfl⟩
      have H0 : Hid (HalfT f n 0 (List.replicate M 0)) := by rw [← HMM.out]; exact HalfT.start f n
      obtain ⟨h, HH⟩ : ∃ h, Hid (wr.heap.size = h) := ⟨_, rfl⟩
      have hhw : wr.heap.size ≤ h := by rw [HH.out]; exact Nat.le_refl _
      have hgh : g ≤ h := by rw [← HH.out]; have := HG.out; omega
      rw [HH.out] at hmk ho
      have O3 := hide' ho
      have X3 := hide' he
      clear ho he HO HE HNM hin
      go_wp2
      generalize HGW : wr = W at *
      clear HGW
      go_loopw [36] (fun vi wq => ∃ (i : Nat) (r : List Int), i ≤ n ∧ vi = .int .i64 i ∧ Hid (HalfT f n i r) ∧ Hid (Own .i64 3 h wq (.slice (some ⟨h, 0, none⟩) M M) r) ∧ Hid (Ext W wq)) (fun vi _ => n - (intOf vi).toNat)
      case atStart => exact ⟨0, _, Nat.zero_le _, rfl, H0, O3, X3⟩
      case round =>
        clear O3 X3 H0 hmk
        obtain ⟨i, r, hi, rfl, HR, HO, HE⟩ := hrel
        have HRL : Hid (r.length = M) := by show _ = _; rw [HR.out.len, HMM.out]
        by_cases hlt : i < n
        · have hlt' : (i : Int) < n := by omega
          obtain ⟨g1, o1, rfl, k1⟩ := CV.out (by omega)
          have c1 := HE.out.cellOf (X2.out.cellOf (k1 i hlt))
          have hz := goodI_at HGD.out (j := i) (by rw [HN.out]; exact hlt)
          have H1 := hide' (HR.out.next hlt)
          have HFI : Hid (f i = ((N.getD (s.getD i 0).toNat 0 : Nat) : Int)) := by show _ = _; rw [HFF.out]
          rw [HFI.out] at H1
          obtain ⟨z, HZ⟩ : ∃ z, Hid (s.getD i 0 = z) := ⟨_, rfl⟩
          rw [HZ.out] at c1 hz H1
          obtain ⟨q, rfl⟩ := Int.eq_ofNat_of_zero_le hz.1
          rw [Int.toNat_natCast] at H1
          have hq : q < K := by omega
          have hq' : (q : Int) < K := by omega
          have c2 := HE.out.cellOf (KN.out q hq)
          obtain ⟨x, HX⟩ : ∃ x, Hid (N.getD q 0 = x) := ⟨_, rfl⟩
          rw [HX.out] at c2 H1
          have hiM : (i : Int) < M := by omega
          have c3 := HO.out.cell HRL.out i (by omega)
          have z3 := HO.out.frozen HRL.out i
          have O6 := hide' (HO.out.store HRL.out i (x : Int))
          have X6 : Hid (Ext W (wr.setCell ⟨h, i, none⟩ (.int .i64 (x : Int)))) := Ext.but HE.out hhw (but_set _ _ _ _)
          clear k1 hz HO HE HR
          go_wp2
          go_roundw
          case rel => exact ⟨i + 1, _, by omega, by go_num, H1, O6, X6⟩
          case measure => simp [intOf] <;> omega
        · have d2 : decide ((i : Int) < n) = false := by simp; omega
          have hin : n = i := by omega
          have HD : Hid (r = tailI (clI s)) := by
            show _ = _
            have h1 := HR.out
            rw [← hin] at h1
            refine h1.done (by rw [clI_len, HN.out]) fun t ht => ?_
            have hgz := goodI_at HGD.out (j := t) (by rw [HN.out]; exact ht)
            rw [HF.out.at HGD.out (by rw [HN.out]; exact ht) (show s.getD t 0 = ((s.getD t 0).toNat : Int) by omega), HFF.out]
          go_wp2
          first | go_ret2 | go_ret
          rw [← HTK.out]
          refine ⟨_, rfl, ?_, X2.out.trans HE.out⟩
          rw [← HD.out]
          exact HO.out.low hgh

theorem skInts_any (v : Value) (s : List Int) (k : Int) (w : World) (hv : Sl .i64 w v s) (hlen : s.length ≤ 1000000) :
    Calls Try.prog 9 #[v, .int .i64 k] w fun e w' => ∃ u L c, e = .returned (.tuple #[u, .int .i64 c]) ∧ ResI s k L c ∧ Own .i64 3 w.heap.size w' u L ∧ Ext w w' := by
  have HV := hide' hv
  have HLEN := hide' hlen
  obtain ⟨a, c, rfl, _⟩ := hv
  by_cases h1 : 100000 < s.length
  · have d1 : (100000 : Int) < (s.length : Int) := by omega
    have HR : Hid (ResI s k [] 2) := .inl ⟨h1, rfl, rfl⟩
    clear h1
    go_enter Try.func9, Try.ntmps9
    go_wp2
    go_ret2
    exact ⟨_, [], 2, rfl, HR.out, Own.nil _ _ _ _, Ext.refl _⟩
  · have d1 : decide ((100000 : Int) < (s.length : Int)) = false := by simp; omega
    have HC := hide' (counts_any _ s k w HV.out hlen)
    have HL1 : Hid (s.length ≤ 100000) := by show _ ≤ _; omega
    clear h1
    cases hf : fitB s k
    · have HR : Hid (ResI s k [] 1) := .inr (.inl ⟨HL1.out, hf, rfl, rfl⟩)
      rw [hf] at HC
      clear hf
      go_enter Try.func9, Try.ntmps9
      go_wp2_with fail
      refine HC.out.mono ?_
      rintro e w1 ⟨s1, rfl, _, he⟩
      have X1 := hide' he
      clear he HC
      go_wp2
      go_ret2
      exact ⟨_, [], 1, rfl, HR.out, Own.nil _ _ _ _, X1.out⟩
    · have HF := hide' hf
      rw [hf] at HC
      obtain ⟨h0, hk, hgd⟩ := fitB_iff.1 hf
      obtain ⟨K, rfl⟩ := Int.eq_ofNat_of_zero_le h0
      have HCI : Hid (countsI s (K : Int) = natL (cntsI s K)) := by show _ = _; rw [countsI_yes hf, Int.toNat_natCast]
      rw [HCI.out] at HC
      have HGD := hide' hgd
      have hK : K ≤ 1048576 := by omega
      clear hf hgd h0
      go_enter Try.func9, Try.ntmps9
      go_wp2_with fail
      refine HC.out.mono ?_
      rintro e w1 ⟨s1, rfl, ho, he⟩
      have S1 := hide' ho.sl
      have X1 := hide' he
      have hz := he.size
      clear ho he HC
      go_wp2_with fail
      refine (closeUp_any _ s1 s K w1 (HV.out.ext X1.out) S1.out HGD.out hK HL1.out).mono ?_
      rintro e w2 ⟨u2, rfl, ho, he⟩
      have S2 := hide' ho.sl
      have X2 := hide' (X1.out.trans he)
      have hz2 := X2.out.size
      have HFT : Hid (fitB (tailI (clI s)) ((kdN s K + 1 : Nat) : Int) = true) := by
        show _ = _
        rw [show ((kdN s K + 1 : Nat) : Int) = (kdN s K : Int) + 1 by omega]
        exact clI_fit HGD.out HLEN.out
      clear ho he
      have HCO := hide' (orderT_any (s.length + 1) u2 (clI s) (kdN s K + 1) w2 (by rw [clI_len]; omega) S2.out (clI_nonneg s) HFT.out (by rw [clI_len]; have := HL1.out; omega))
      obtain ⟨q, HQ⟩ : ∃ q, Hid (kdN s K + 1 = q) := ⟨_, rfl⟩
      rw [HQ.out] at HCO ⊢
      go_wp2_with fail
      refine HCO.out.mono ?_
      rintro e w3 ⟨u, R, rfl, hR, ho, he⟩
      have O2 := hide' (ho.low hz2)
      have X3 := hide' (X2.out.trans he)
      have HR : Hid (ResI s (K : Int) (natL R) 0) := .inr (.inr ⟨HL1.out, HF.out, rfl, R, clI_ord HGD.out hR, rfl⟩)
      clear ho he hR HCO
      go_wp2
      go_ret2
      exact ⟨_, _, 0, rfl, HR.out, O2.out, X3.out⟩

set_option maxHeartbeats 1000000 in
theorem numbers_any (v : Value) (zs : List Int) (w : World) (hv : Sl .u8 w v zs) (h8 : Bytes8 zs) (hlen : zs.length ≤ 1000000) :
    Calls Try.prog 22 #[v] w fun e w' => ∃ u, e = .returned u ∧ Own .i64 3 w.heap.size w' u zs ∧ Ext w w' := by
  have HV := hide' hv
  have H8 := hide' h8
  obtain ⟨a, c, rfl, _⟩ := hv
  obtain ⟨n, HN⟩ : ∃ n, Hid (zs.length = n) := ⟨_, rfl⟩
  rw [HN.out] at HV hlen ⊢
  obtain ⟨w1, hmk, ho, he⟩ := make_ints w n hlen
  obtain ⟨g, HG⟩ : ∃ g, Hid (w.heap.size = g) := ⟨_, rfl⟩
  have hgw : w.heap.size ≤ g := by rw [HG.out]; exact Nat.le_refl _
  rw [HG.out] at ho hmk ⊢
  have O1 := hide' ho
  have X1 := hide' he
  have H0 : Hid (HalfI zs 0 (List.replicate n 0)) := by show HalfI _ _ _; rw [← HN.out]; exact HalfI.start zs
  clear ho he h8
  go_enter Try.func22, Try.ntmps22
  go_wp2
  go_loopw [11] (fun vi wr => ∃ (i : Nat) (r : List Int), i ≤ n ∧ vi = .int .i64 i ∧ Hid (HalfI zs i r) ∧ Hid (Own .i64 3 g wr (.slice (some ⟨g, 0, none⟩) n n) r) ∧ Hid (Ext w wr)) (fun vi _ => n - (intOf vi).toNat)
  case atStart => exact ⟨0, _, Nat.zero_le _, rfl, H0, O1, X1⟩
  case round =>
    clear O1 X1 H0 hmk
    obtain ⟨i, r, hi, rfl, HH, HO, HE⟩ := hrel
    have HRL : Hid (r.length = n) := by show _ = _; rw [HH.out.len, HN.out]
    by_cases hlt : i < n
    · have hlt' : (i : Int) < n := by omega
      have H1 := hide' (HH.out.next (by rw [HN.out]; exact hlt))
      obtain ⟨_, g1, o1, rfl, k1⟩ := HV.out.at (fun e => by have := HN.out; rw [e] at this; simp at this; omega)
      have c1 := HE.out.cellOf (k1 i hlt)
      have hz := H8.out.get i
      obtain ⟨z, HZ⟩ : ∃ z, Hid (zs.getD i 0 = z) := ⟨_, rfl⟩
      rw [HZ.out] at c1 H1 hz
      have hw : IntKind.i64.wrap z = z := by rw [IntKind.wrap_i64]; omega
      have c3 := HO.out.cell HRL.out i hlt
      have z3 := HO.out.frozen HRL.out i
      have O6 := hide' (HO.out.store HRL.out i z)
      have X6 : Hid (Ext w (wr.setCell ⟨g, i, none⟩ (.int .i64 z))) := Ext.but HE.out hgw (but_set _ _ _ _)
      clear k1 HO HE HH
      go_wp2
      go_roundw
      case rel => exact ⟨i + 1, _, by omega, by go_num, H1, O6, X6⟩
      case measure => simp [intOf] <;> omega
    · have d2 : decide ((i : Int) < n) = false := by simp; omega
      have hin : n = i := by omega
      have HD : Hid (r = zs) := by
        show _ = _
        have := HH.out
        rw [← hin, ← HN.out] at this
        exact this.done
      go_wp2
      go_ret
      refine ⟨_, rfl, ?_, HE.out⟩
      rw [← HD.out]
      exact HO.out

theorem skBytes_any (v : Value) (zs : List Int) (w : World) (hv : Sl .u8 w v zs) (h8 : Bytes8 zs) (hlen : zs.length ≤ 1000000) :
    Calls Try.prog 13 #[v] w fun e w' => ∃ u L c, e = .returned (.tuple #[u, .int .i64 c]) ∧ ResI zs 256 L c ∧ Own .i64 3 w.heap.size w' u L ∧ Ext w w' := by
  have HV := hide' hv
  have HLEN := hide' hlen
  have C := hide' (numbers_any v zs w hv h8 hlen)
  obtain ⟨a, c, rfl, _⟩ := hv
  by_cases h1 : 100000 < zs.length
  · have d1 : (100000 : Int) < (zs.length : Int) := by omega
    have HR : Hid (ResI zs 256 [] 2) := .inl ⟨h1, rfl, rfl⟩
    clear h1 C
    go_enter Try.func13, Try.ntmps13
    go_wp2
    go_ret2
    exact ⟨_, [], 2, rfl, HR.out, Own.nil _ _ _ _, Ext.refl _⟩
  · have d1 : decide ((100000 : Int) < (zs.length : Int)) = false := by simp; omega
    clear h1 h8
    go_enter Try.func13, Try.ntmps13
    go_wp2_with fail
    refine C.out.mono ?_
    rintro e w1 ⟨u, rfl, ho, he⟩
    have S1 := hide' ho.sl
    have X1 := hide' he
    have hz := he.size
    clear ho he C
    go_wp2_with fail
    refine (skInts_any _ zs 256 w1 S1.out HLEN.out).mono ?_
    rintro e w2 ⟨u2, L, c2, rfl, hR, ho, he⟩
    have O2 := hide' (ho.low hz)
    have X2 := hide' (X1.out.trans he)
    have HR := hide' hR
    clear ho he hR
    go_wp2
    go_ret2
    exact ⟨_, _, _, rfl, HR.out, O2.out, X2.out⟩
end Go.Proofs.Ytnacjmkconabdaa
