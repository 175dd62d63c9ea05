/- Contract of kinds.Small. -/
import Derived.Test.YtabgbioocfdjiaaKinMath
import Derived.Test.YtabgbioocfdjiaaBools
import Derived.Test.YtabgbioocfdjiaaNatRow
import Derived.BigRegion
namespace Go.Proofs.Ytabgbioocfdjiaa
set_option linter.unusedVariables false
set_option linter.unusedSimpArgs false
open Go.RowKit

set_option maxHeartbeats 1000000 in
theorem small_any (v : Value) (zs : List Int) (w : World) (hv : Sl .i64 w v zs) (hlen : zs.length ≤ 4000000) :
    Calls Try.prog 25 #[v] w fun e w' => ∃ s, e = .returned s ∧ OwnB w.heap.size w' s (smallI zs) ∧ Ext w w' := by
  have HV := hide' hv
  obtain ⟨a, c, rfl, _⟩ := hv
  obtain ⟨_, _, _, hcv⟩ := HV.out.int
  have CV := hide' hcv
  obtain ⟨n, HN⟩ : ∃ n, Hid (zs.length = n) := ⟨_, rfl⟩
  rw [HN.out] at CV hlen ⊢
  clear hcv HV
  obtain ⟨w1, hmk, ho, he⟩ := make_bools w n hlen
  have HO := hide' ho
  have HE := hide' he
  clear ho he
  have hw2 : IntKind.i64.wrap ((n : Int) - 2) = (n : Int) - 2 := by rw [IntKind.wrap_i64]; omega
  go_enter Try.func25, Try.ntmps25
  go_wp2
  clear hmk
  go_loopw [4] (fun vi wr => ∃ (x : Int) (bs : List Bool), -2 ≤ x ∧ x + 2 ≤ n ∧ vi = .int .i64 x ∧ Hid (bs.length = n) ∧ Hid (∀ j : Nat, x < j → j < n → bs.getD j false = smB zs j) ∧
    Hid (OwnB w.heap.size wr (.slice (some ⟨w.heap.size, 0, none⟩) n n) bs) ∧ Hid (Ext w wr)) (fun vi _ => (intOf vi + 2).toNat)
  case atStart => 
    refine ⟨(n : Int) - 2, List.replicate n false, by omega, by omega, by first | rfl | rw [hw2], List.length_replicate, (fun j h1 h2 => ?_), HO, HE⟩
    rw [smB_last (by rw [HN.out]; omega)]
    simp [List.getD, h2]
  case round =>
    clear HO HE
    obtain ⟨x, bs, hx1, hx2, rfl, HL, HB, HO, HE⟩ := hrel
    by_cases hlt : 0 ≤ x
    · obtain ⟨k, rfl⟩ := Int.eq_ofNat_of_zero_le hlt
      have hk : k + 1 < n := by omega
      have hk0 : k < n := by omega
      have hk0' : (k : Int) < n := by omega
      have hk1' : (k : Int) + 1 < n := by omega
      obtain ⟨g1, o1, rfl, k1⟩ := CV.out (by omega)
      have c1 := HE.out.cellOf (k1 k hk0)
      have c2 := HE.out.cellOf (k1 (k + 1) hk)
      clear k1
      obtain ⟨p, HP⟩ : ∃ z, Hid (zs.getD k 0 = z) := ⟨_, rfl⟩
      obtain ⟨q, HQ⟩ : ∃ z, Hid (zs.getD (k + 1) 0 = z) := ⟨_, rfl⟩
      rw [HP.out] at c1
      rw [HQ.out] at c2
      have c3 := HO.out.cell HL.out (k + 1) hk
      have HR := hide' (HB.out (k + 1) (by omega) hk)
      rw [HR.out] at c3
      obtain ⟨r, HRR⟩ : ∃ z, Hid (smB zs (k + 1) = z) := ⟨_, rfl⟩
      rw [HRR.out] at c3
      have hfz := HO.out.frozen HL.out k
      have hci := HO.out.cell HL.out k hk0
      have hwk : IntKind.i64.wrap ((k : Int) + 1) = ((k + 1 : Nat) : Int) := by rw [IntKind.wrap_i64]; omega
      have HGO : Hid (∀ b, smB zs k = b → (∀ j : Nat, (k : Int) - 1 < j → j < n → (bs.set k b).getD j false = smB zs j)) := by
        intro b hb j h1 h2
        by_cases hjk : j = k
        · subst hjk; rw [setB_same (by rw [HL.out]; exact hk0), hb]
        · rw [setB_other (by omega)]; exact HB.out j (by omega) h2
      have hwm : IntKind.i64.wrap ((k : Int) - 1) = (k : Int) - 1 := by rw [IntKind.wrap_i64]; omega
      rcases Int.lt_trichotomy p q with h | h | h
      · have hb := hide' (smB_lt (s := zs) (i := k) (by rw [HN.out]; exact hk) (by rw [HP.out, HQ.out]; exact h))
        go_wp2_with fail
        go_big_region
        have HO2 : Hid (OwnB w.heap.size (wr.setCell ⟨w.heap.size, k, none⟩ (.bool true)).drew (.slice (some ⟨w.heap.size, 0, none⟩) n n) (bs.set k true)) := (HO.out.store HL.out k true).ext (Ext.drewN _ 1)
        have HE2 : Hid (Ext w (wr.setCell ⟨w.heap.size, k, none⟩ (.bool true)).drew) := (Ext.but HE.out (Nat.le_refl _) (but_set _ _ _ _)).trans (Ext.drewN _ 1)
        clear HO HE c1 c2 c3 hfz hci
        generalize (wr.setCell ⟨w.heap.size, k, none⟩ (.bool true)).drew = WW at *
        go_wp2
        go_roundw
        case rel => exact ⟨(k : Int) - 1, bs.set k true, by omega, by omega, by first | rfl | go_num, (show _ = _ by rw [List.length_set]; exact HL.out), HGO.out true hb.out, HO2, HE2⟩
        case measure => simp [intOf]; omega
      · have hb : Hid (smB zs k = r) := (smB_eq (s := zs) (i := k) (by rw [HN.out]; exact hk) (by rw [HP.out, HQ.out]; exact h)).trans HRR.out
        subst h
        go_wp2_with fail
        go_big_region
        have HO2 : Hid (OwnB w.heap.size (wr.setCell ⟨w.heap.size, k, none⟩ (.bool r)).drew (.slice (some ⟨w.heap.size, 0, none⟩) n n) (bs.set k r)) := (HO.out.store HL.out k r).ext (Ext.drewN _ 1)
        have HE2 : Hid (Ext w (wr.setCell ⟨w.heap.size, k, none⟩ (.bool r)).drew) := (Ext.but HE.out (Nat.le_refl _) (but_set _ _ _ _)).trans (Ext.drewN _ 1)
        clear HO HE c1 c2 c3 hfz hci
        generalize (wr.setCell ⟨w.heap.size, k, none⟩ (.bool r)).drew = WW at *
        go_wp2
        go_roundw
        case rel => exact ⟨(k : Int) - 1, bs.set k r, by omega, by omega, by first | rfl | go_num, (show _ = _ by rw [List.length_set]; exact HL.out), HGO.out r hb.out, HO2, HE2⟩
        case measure => simp [intOf]; omega
      · have hb := hide' (smB_gt (s := zs) (i := k) (by rw [HN.out]; exact hk) (by rw [HP.out, HQ.out]; exact h))
        have h1 : decide (p < q) = false := by simp; omega
        have h2 : (p == q) = false := by simp; omega
        go_wp2_with fail
        go_big_region
        have HO2 : Hid (OwnB w.heap.size (wr.setCell ⟨w.heap.size, k, none⟩ (.bool false)).drew (.slice (some ⟨w.heap.size, 0, none⟩) n n) (bs.set k false)) := (HO.out.store HL.out k false).ext (Ext.drewN _ 1)
        have HE2 : Hid (Ext w (wr.setCell ⟨w.heap.size, k, none⟩ (.bool false)).drew) := (Ext.but HE.out (Nat.le_refl _) (but_set _ _ _ _)).trans (Ext.drewN _ 1)
        clear HO HE c1 c2 c3 hfz hci
        generalize (wr.setCell ⟨w.heap.size, k, none⟩ (.bool false)).drew = WW at *
        go_wp2
        go_roundw
        case rel => exact ⟨(k : Int) - 1, bs.set k false, by omega, by omega, by first | rfl | go_num, (show _ = _ by rw [List.length_set]; exact HL.out), HGO.out false hb.out, HO2, HE2⟩
        case measure => simp [intOf]; omega
    · have hlt' : decide (0 ≤ x) = false := by simp; omega
      have HQ : Hid (bs = smallI zs) := getB_ext (by rw [HL.out, smallI_len, HN.out]) fun j hj => by
        rw [HL.out] at hj
        rw [HB.out j (by omega) hj, smallI_at (by rw [HN.out]; exact hj)]
      go_wp2
      go_ret
      exact ⟨_, rfl, by rw [← HQ.out]; exact HO.out, HE.out⟩
end Go.Proofs.Ytabgbioocfdjiaa
