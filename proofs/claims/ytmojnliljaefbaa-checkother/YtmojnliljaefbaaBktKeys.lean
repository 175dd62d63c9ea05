/- Contract of bucket.keysOf. -/
import Derived.Test.YtmojnliljaefbaaBktMath
import Derived.Test.YtmojnliljaefbaaNatRow
namespace Go.Proofs.Ytmojnliljaefbaa
set_option linter.unusedVariables false
set_option linter.unusedSimpArgs false
open Go.RowKit

set_option maxHeartbeats 400000 in
theorem keysOf_any (v u : Value) (os ks : List Int) (w : World) (hv : Sl .i64 w v os) (hu : Sl .i64 w u ks) (hlen : os.length ≤ 1000000) (hlen2 : ks.length ≤ 1000000) :
    Calls Try.prog 27 #[v, u] w fun e w' => ∃ s, e = .returned (.tuple #[s, .bool (goodI (ks.length : Int) os)]) ∧ (goodI (ks.length : Int) os = true → Own .i64 3 w.heap.size w' s (ownI os ks)) ∧ Ext w w' := by
  have HV := hide' hv
  have HU := hide' hu
  obtain ⟨a, c, rfl, _⟩ := hv
  obtain ⟨a', c', rfl, _⟩ := hu
  obtain ⟨_, _, _, hcv⟩ := HV.out.int
  obtain ⟨_, _, _, hcu⟩ := HU.out.int
  have CV := hide' hcv
  have CU := hide' hcu
  obtain ⟨n, HN⟩ : ∃ n, Hid (os.length = n) := ⟨_, rfl⟩
  obtain ⟨m, HM⟩ : ∃ n, Hid (ks.length = n) := ⟨_, rfl⟩
  rw [HN.out] at CV hlen ⊢
  rw [HM.out] at CU hlen2 ⊢
  clear hcv hcu HV HU
  obtain ⟨w1, hmk, ho, he⟩ := make_intsB w n (by omega)
  have HO := hide' ho
  have HE := hide' he
  clear ho he
  go_enter Try.func27, Try.ntmps27
  go_wp2
  clear hmk
  go_loopw [14] (fun vi wr => ∃ (i : Nat) (bs : List Int), i ≤ n ∧ vi = .int .i64 i ∧ Hid (bs.length = n) ∧ Hid (∀ j, j < i → (0 ≤ os.getD j 0 ∧ os.getD j 0 < m) ∧ bs.getD j 0 = ks.getD (os.getD j 0).toNat 0) ∧
    Hid (Own .i64 3 w.heap.size wr (.slice (some ⟨w.heap.size, 0, none⟩) n n) bs) ∧ Hid (Ext w wr)) (fun vi _ => n - (intOf vi).toNat)
  case atStart => exact ⟨0, List.replicate n 0, Nat.zero_le _, rfl, List.length_replicate, (fun j hj => by omega), HO, HE⟩
  case round =>
    clear HO HE
    obtain ⟨i, bs, hi, rfl, HL, HB, HO, HE⟩ := hrel
    by_cases hlt : i < n
    · have hlt' : (i : Int) < n := by omega
      obtain ⟨g1, o1, rfl, k1⟩ := CV.out (by omega)
      have c1 := HE.out.cellOf (k1 i hlt)
      clear k1
      obtain ⟨z, HZ⟩ : ∃ z, Hid (os.getD i 0 = z) := ⟨_, rfl⟩
      rw [HZ.out] at c1
      by_cases hz : z < 0
      · have HG : Hid (goodI (m : Int) os = false) := goodI_bad (j := i) (by rw [HN.out]; exact hlt) (by rw [HZ.out]; exact .inl hz)
        go_wp2
        go_ret2
        rw [HG.out]
        exact ⟨_, rfl, (fun h => by cases h), HE.out⟩
      · have dz : decide (z < 0) = false := by simp; omega
        by_cases hzm : (m : Int) ≤ z
        · have HG : Hid (goodI (m : Int) os = false) := goodI_bad (j := i) (by rw [HN.out]; exact hlt) (by rw [HZ.out]; exact .inr hzm)
          go_wp2
          go_ret2
          rw [HG.out]
          exact ⟨_, rfl, (fun h => by cases h), HE.out⟩
        · obtain ⟨q, rfl⟩ := Int.eq_ofNat_of_zero_le (show 0 ≤ z by omega)
          have hq : q < m := by omega
          have hq' : (q : Int) < m := by omega
          have dm : decide ((m : Int) ≤ q) = false := by simp; omega
          have dm2 : decide (m ≤ q) = false := by simp; omega
          clear hzm hz
          obtain ⟨g2, o2, rfl, k2⟩ := CU.out (by omega)
          have c2 := HE.out.cellOf (k2 q hq)
          clear k2
          obtain ⟨y, HY⟩ : ∃ y, Hid (ks.getD q 0 = y) := ⟨_, rfl⟩
          rw [HY.out] at c2
          have hfz := HO.out.frozen HL.out i
          have hci := HO.out.cell HL.out i hlt
          have HO2 := hide' (HO.out.store HL.out i y)
          go_wp2
          go_roundw
          case rel =>
            refine ⟨i + 1, bs.set i y, by omega, by go_num, (show _ = _ by rw [List.length_set]; exact HL.out), fun j hj => ?_, HO2, Ext.but HE.out (Nat.le_refl _) (but_set _ _ _ _)⟩
            by_cases hji : j = i
            · subst hji
              rw [setI_same (by rw [HL.out]; exact hlt), HZ.out]
              refine ⟨by omega, ?_⟩
              rw [Int.toNat_natCast, HY.out]
            · rw [setI_other (by omega)]
              exact HB.out j (by omega)
          case measure => simp [intOf]; omega
    · have hlt' : decide ((i : Int) < n) = false := by simp; omega
      have hin : i = n := by omega
      subst hin
      have HG : Hid (goodI (m : Int) os = true) := goodI_of fun j hj => (HB.out j (by rw [HN.out] at hj; exact hj)).1
      have HQ : Hid (bs = ownI os ks) := getD_ext (by rw [HL.out, ownI_len, HN.out]) fun j hj => by
        rw [HL.out] at hj
        rw [(HB.out j hj).2, ownI_at os ks (by rw [HN.out]; exact hj)]
      go_wp2
      go_ret2
      rw [HG.out]
      exact ⟨_, rfl, (fun _ => by rw [← HQ.out]; exact HO.out), HE.out⟩
end Go.Proofs.Ytmojnliljaefbaa
