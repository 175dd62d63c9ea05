/- Contract of the document's own Counts: whorlref10.Counts. -/
import Derived.Test.YtimhkmnohkbniaaBktCounts
namespace Go.Proofs.Ytimhkmnohkbniaa
set_option linter.unusedVariables false
set_option linter.unusedSimpArgs false
open Go.RowKit

set_option maxHeartbeats 400000 in
theorem rcounts_any (v : Value) (zs : List Int) (k : Int) (w : World) (hv : Sl .i64 w v zs) (hlen : zs.length ≤ 1000000) :
    Calls Try.prog 21 #[v, .int .i64 k] w fun e w' => ∃ s, e = .returned (.tuple #[s, .bool (fitB zs k)]) ∧ Own .i64 3 w.heap.size w' s (countsI zs k) ∧ Ext w w' := by
  have HV := hide' hv
  obtain ⟨a, c, rfl, _⟩ := hv
  obtain ⟨_, _, _, hcv⟩ := HV.out.int
  have CV := hide' hcv
  obtain ⟨n, HN⟩ : ∃ n, Hid (zs.length = n) := ⟨_, rfl⟩
  rw [HN.out] at CV hlen HV ⊢
  clear hcv
  by_cases h0 : k < 0
  · have HF : Hid (fitB zs k = false) := fitB_neg h0
    have HC : Hid (countsI zs k = []) := countsI_no HF.out
    rw [HC.out, HF.out]
    go_enter Try.func21, Try.ntmps21
    go_wp2
    go_ret2
    exact ⟨_, rfl, Own.nil _ _ _ _, Ext.refl _⟩
  · have d0 : decide (k < 0) = false := by simp; omega
    by_cases h1 : 1048576 < k
    · have HF : Hid (fitB zs k = false) := fitB_big h1
      have HC : Hid (countsI zs k = []) := countsI_no HF.out
      rw [HC.out, HF.out]
      go_enter Try.func21, Try.ntmps21
      go_wp2
      go_ret2
      exact ⟨_, rfl, Own.nil _ _ _ _, Ext.refl _⟩
    · have d1 : decide (1048576 < k) = false := by simp; omega
      have HF : Hid (fitB zs k = goodI k zs) := fitB_eq (by omega) (by omega)
      obtain ⟨K, rfl⟩ := Int.eq_ofNat_of_zero_le (show 0 ≤ k by omega)
      have d2 : decide (1048576 < K) = false := by simp; omega
      have HCI : Hid (goodI (K : Int) zs = true → countsI zs (K : Int) = natL (cntsI zs K)) := fun h => countsI_yes (by rw [HF.out]; exact h)
      have HCN : Hid (goodI (K : Int) zs = false → countsI zs (K : Int) = []) := fun h => countsI_no (by rw [HF.out]; exact h)
      obtain ⟨w1, hmk, ho, he⟩ := make_natsB w K (by omega)
      have HO := hide' ho
      have HE := hide' he
      rw [HF.out]
      clear ho he h0
      go_enter Try.func21, Try.ntmps21
      go_wp2
      clear hmk
      go_loopw [7] (fun vi wr => ∃ (i : Nat) (bs : List Nat), i ≤ n ∧ vi = .int .i64 i ∧ Hid (bs.length = K) ∧ Hid (∀ j, j < i → 0 ≤ zs.getD j 0 ∧ zs.getD j 0 < K) ∧ Hid (∀ q, q < K → bs.getD q 0 = cntI zs q i) ∧
        Hid (Own .i64 3 w.heap.size wr (.slice (some ⟨w.heap.size, 0, none⟩) K K) (natL bs)) ∧ Hid (Ext w wr)) (fun vi _ => n - (intOf vi).toNat)
      case atStart => exact ⟨0, List.replicate K 0, Nat.zero_le _, rfl, List.length_replicate, (fun j hj => by omega), (fun q hq => by simp [cntI, List.getD, hq]), HO, HE⟩
      case round =>
        clear HO HE
        obtain ⟨i, bs, hi, rfl, HL, HG, HB, HO, HE⟩ := hrel
        by_cases hlt : i < n
        · have hlt' : (i : Int) < n := by omega
          obtain ⟨g1, o1, rfl, k1⟩ := CV.out (by omega)
          have c1 := HE.out.cellOf (k1 i hlt)
          clear k1
          obtain ⟨z, HZ⟩ : ∃ z, Hid (zs.getD i 0 = z) := ⟨_, rfl⟩
          rw [HZ.out] at c1
          by_cases hz : z < 0
          · have HB2 : Hid (goodI (K : Int) zs = false) := goodI_bad (j := i) (by rw [HN.out]; exact hlt) (by rw [HZ.out]; exact .inl hz)
            go_wp2
            go_ret2
            rw [HB2.out, HCN.out HB2.out]
            exact ⟨_, rfl, Own.nil _ _ _ _, HE.out⟩
          · have dz : decide (z < 0) = false := by simp; omega
            by_cases hzk : (K : Int) ≤ z
            · have HB2 : Hid (goodI (K : Int) zs = false) := goodI_bad (j := i) (by rw [HN.out]; exact hlt) (by rw [HZ.out]; exact .inr hzk)
              go_wp2
              go_ret2
              rw [HB2.out, HCN.out HB2.out]
              exact ⟨_, rfl, Own.nil _ _ _ _, HE.out⟩
            · obtain ⟨q, rfl⟩ := Int.eq_ofNat_of_zero_le (show 0 ≤ z by omega)
              have hq : (q : Int) < K := by omega
              have hq2 : q < K := by omega
              have dk : decide ((K : Int) ≤ q) = false := by simp; omega
              have dk2 : decide (K ≤ q) = false := by simp; omega
              have hfz := HO.out.frozen (by rw [natL_len]; exact HL.out) q
              have hci := HO.out.intCell HL.out q hq2
              rw [HB.out q hq2] at hci
              have hcn := cntI_le zs q i
              obtain ⟨t, HT⟩ : ∃ t, Hid (cntI zs q i = t) := ⟨_, rfl⟩
              rw [HT.out] at hci hcn
              have HO2 := hide' (HO.out.storeN HL.out q (t + 1))
              clear hz hzk
              go_wp2
              go_roundw
              case rel =>
                refine ⟨i + 1, bs.set q (t + 1), by omega, by go_num, (show _ = _ by rw [List.length_set]; exact HL.out), (fun j hj => ?_), fun r hr => ?_, HO2, Ext.but HE.out (Nat.le_refl _) (but_set _ _ _ _)⟩
                · by_cases e : j = i
                  · subst e; rw [HZ.out]; omega
                  · exact HG.out j (by omega)
                · by_cases hrq : r = q
                  · subst hrq; rw [set_same (by rw [HL.out]; exact hq2), cntI_same HZ.out, HT.out]
                  · rw [set_other (by omega), HB.out r hr, cntI_other (by rw [HZ.out]; omega)]
              case measure => simp [intOf]; omega
        · have hlt' : decide ((i : Int) < n) = false := by simp; omega
          have hin : i = n := by omega
          subst hin
          have HB2 : Hid (goodI (K : Int) zs = true) := goodI_of fun j hj => HG.out j (by rw [HN.out] at hj; exact hj)
          have HQ : Hid (bs = cntsI zs K) := natL_ext (by rw [HL.out, cntsI_len]) fun q hq => by
            rw [HL.out] at hq
            rw [HB.out q hq, cntsI_at zs hq, HN.out]
          go_wp2
          go_ret2
          rw [HB2.out, HCI.out HB2.out]
          exact ⟨_, rfl, by rw [← HQ.out]; exact HO.out, HE.out⟩
end Go.Proofs.Ytimhkmnohkbniaa
