/- Contract of bucket.Counts. -/
import Derived.Test.YtmojnliljaefbaaBktFit
namespace Go.Proofs.Ytmojnliljaefbaa
set_option linter.unusedVariables false
set_option linter.unusedSimpArgs false
open Go.RowKit

/-- How often each key is there, if all may be. -/
def countsI (zs : List Int) (k : Int) : List Int := if fitB zs k = true then natL (cntsI zs k.toNat) else []
theorem countsI_yes {zs : List Int} {k : Int} (h : fitB zs k = true) : countsI zs k = natL (cntsI zs k.toNat) := if_pos h
theorem countsI_no {zs : List Int} {k : Int} (h : fitB zs k = false) : countsI zs k = [] := by unfold countsI; rw [h]; rfl

set_option maxHeartbeats 400000 in
theorem counts_any (v : Value) (zs : List Int) (k : Int) (w : World) (hv : Sl .i64 w v zs) (hlen : zs.length ≤ 1000000) :
    Calls Try.prog 28 #[v, .int .i64 k] w fun e w' => ∃ s, e = .returned (.tuple #[s, .bool (fitB zs k)]) ∧ Own .i64 3 w.heap.size w' s (countsI zs k) ∧ Ext w w' := by
  have HV := hide' hv
  have HLEN := hide' hlen
  obtain ⟨a, c, rfl, _⟩ := hv
  obtain ⟨_, _, _, hcv⟩ := HV.out.int
  have CV := hide' hcv
  obtain ⟨n, HN⟩ : ∃ n, Hid (zs.length = n) := ⟨_, rfl⟩
  rw [HN.out] at CV hlen HV ⊢
  clear hcv
  by_cases hf : fitB zs k = true
  · have HF := hide' hf
    obtain ⟨h0, h1, hg⟩ := fitB_iff.1 hf
    have HG := hide' hg
    obtain ⟨K, rfl⟩ := Int.eq_ofNat_of_zero_le h0
    have HC : Hid (countsI zs (K : Int) = natL (cntsI zs K)) := countsI_yes hf
    rw [HC.out, HF.out]
    clear hf hg h0
    go_enter Try.func28, Try.ntmps28
    go_wp2_with fail
    refine (fit_any _ zs _ _ HV.out HLEN.out).mono ?_
    rw [HF.out]
    rintro e _ ⟨rfl, hw⟩
    rw [hw]
    clear hw
    obtain ⟨w1, hmk, ho, he⟩ := make_natsB w K (by omega)
    have HO := hide' ho
    have HE := hide' he
    clear ho he
    go_wp2
    clear hmk
    go_loopw [17] (fun vi wr => ∃ (i : Nat) (bs : List Nat), i ≤ n ∧ vi = .int .i64 i ∧ Hid (bs.length = K) ∧ Hid (∀ q, q < K → bs.getD q 0 = cntI zs q i) ∧
      Hid (Own .i64 3 w.heap.size wr (.slice (some ⟨w.heap.size, 0, none⟩) K K) (natL bs)) ∧ Hid (Ext w wr)) (fun vi _ => n - (intOf vi).toNat)
    case atStart => exact ⟨0, List.replicate K 0, Nat.zero_le _, rfl, List.length_replicate, (fun q hq => by simp [cntI, List.getD, hq]), HO, HE⟩
    case round =>
      clear HO HE
      obtain ⟨i, bs, hi, rfl, HL, HB, HO, HE⟩ := hrel
      by_cases hlt : i < n
      · have hlt' : (i : Int) < n := by omega
        obtain ⟨g1, o1, rfl, k1⟩ := CV.out (by omega)
        have c1 := HE.out.cellOf (k1 i hlt)
        clear k1
        have hz := goodI_at HG.out (j := i) (by rw [HN.out]; exact hlt)
        obtain ⟨z, HZ⟩ : ∃ z, Hid (zs.getD i 0 = z) := ⟨_, rfl⟩
        rw [HZ.out] at c1 hz
        obtain ⟨q, rfl⟩ := Int.eq_ofNat_of_zero_le hz.1
        have hq : (q : Int) < K := hz.2
        have hq2 : q < K := by omega
        clear hz
        have hfz := HO.out.frozen (by rw [natL_len]; exact HL.out) q
        have hci := HO.out.intCell HL.out q hq2
        rw [HB.out q hq2] at hci
        have hcn := cntI_le zs q i
        obtain ⟨t, HT⟩ : ∃ t, Hid (cntI zs q i = t) := ⟨_, rfl⟩
        rw [HT.out] at hci hcn
        have HO2 := hide' (HO.out.storeN HL.out q (t + 1))
        go_wp2
        go_roundw
        case rel =>
          refine ⟨i + 1, bs.set q (t + 1), by omega, by go_num, (show _ = _ by rw [List.length_set]; exact HL.out), fun r hr => ?_, HO2, Ext.but HE.out (Nat.le_refl _) (but_set _ _ _ _)⟩
          by_cases hrq : r = q
          · subst hrq; rw [set_same (by rw [HL.out]; exact hq2), cntI_same HZ.out, HT.out]
          · rw [set_other (by omega), HB.out r hr, cntI_other (by rw [HZ.out]; omega)]
        case measure => simp [intOf]; omega
      · have hlt' : decide ((i : Int) < n) = false := by simp; omega
        have hin : i = n := by omega
        subst hin
        have HQ : Hid (bs = cntsI zs K) := natL_ext (by rw [HL.out, cntsI_len]) fun q hq => by
          rw [HL.out] at hq
          rw [HB.out q hq, cntsI_at zs hq, HN.out]
        go_wp2
        go_ret2
        exact ⟨_, rfl, by rw [← HQ.out]; exact HO.out, HE.out⟩
  · have hf' : fitB zs k = false := by simpa using hf
    have HF := hide' hf'
    have HC : Hid (countsI zs k = []) := countsI_no hf'
    rw [HC.out, HF.out]
    clear hf hf'
    go_enter Try.func28, Try.ntmps28
    go_wp2_with fail
    refine (fit_any _ zs _ _ HV.out HLEN.out).mono ?_
    rw [HF.out]
    rintro e _ ⟨rfl, hw⟩
    rw [hw]
    clear hw
    go_wp2
    go_ret2
    exact ⟨_, rfl, Own.nil _ _ _ _, Ext.refl _⟩
end Go.Proofs.Ytmojnliljaefbaa
