/- Contracts of the document's own Inverse and Is: whorlref16. -/
import Derived.Test.YtmnbjikhjdmmfaaPart1
import Derived.Test.YtmnbjikhjdmmfaaPart2
namespace Go.Proofs.Ytmnbjikhjdmmfaa
set_option linter.unusedVariables false
set_option linter.unusedSimpArgs false
open Go.RowKit

set_option maxHeartbeats 1000000 in
theorem rinv_any (v : Value) (l : List Int) (w : World) (hv : Sl .i64 w v l) (hlen : l.length ≤ 1000000) :
    Calls Try.prog 28 #[v] w fun e w' => ∃ s, e = .returned (.tuple #[s, .bool (ordB l)]) ∧ Own .i64 3 w.heap.size w' s (invI l) ∧ Ext w w' := by
  have HV := hide' hv
  obtain ⟨a, c, rfl, _⟩ := hv
  obtain ⟨_, _, _, hcv⟩ := HV.out.int
  have CV := hide' hcv
  obtain ⟨n, HN⟩ : ∃ n, Hid (l.length = n) := ⟨_, rfl⟩
  rw [HN.out] at CV hlen ⊢
  clear hcv HV
  obtain ⟨w1, hmk, ho, he⟩ := make_intsB w n (by omega)
  have HO := hide' ho
  have HE := hide' he
  clear ho he
  go_enter Try.func28, Try.ntmps28
  go_wp2
  clear hmk
  go_loopw [5] (fun vi wr => ∃ (i : Nat) (bs : List Int), i ≤ n ∧ vi = .int .i64 i ∧ Hid (bs.length = n) ∧ Hid (∀ j, j < i → bs.getD j 0 = -1) ∧
    Hid (Own .i64 3 w.heap.size wr (.slice (some ⟨w.heap.size, 0, none⟩) n n) bs) ∧ Hid (Ext w wr)) (fun vi _ => n - (intOf vi).toNat)
  case atStart => exact ⟨0, List.replicate n 0, Nat.zero_le _, rfl, List.length_replicate, (fun j hj => by omega), HO, HE⟩
  case round =>
    clear HO HE
    obtain ⟨i, bs, hi, rfl, HL, HB, HO, HE⟩ := hrel
    by_cases hlt : i < n
    · have hlt' : (i : Int) < n := by omega
      have hfz := HO.out.frozen HL.out i
      have hci := HO.out.cell HL.out i hlt
      have HO2 := hide' (HO.out.store HL.out i (-1))
      go_wp2
      go_roundw
      case rel =>
        refine ⟨i + 1, bs.set i (-1), by omega, by go_num, (show _ = _ by rw [List.length_set]; exact HL.out), fun j hj => ?_, HO2, Ext.but HE.out (Nat.le_refl _) (but_set _ _ _ _)⟩
        by_cases hji : j = i
        · subst hji; rw [setI_same (by rw [HL.out]; exact hlt)]
        · rw [setI_other (by omega), HB.out j (by omega)]
      case measure => simp [intOf]; omega
    · have hlt' : decide ((i : Int) < n) = false := by simp; omega
      have hin : n = i := by omega
      have HI0 : Hid (Inv l 0 bs) := Inv.start (by rw [HL.out, HN.out]) fun x hx => HB.out x (by rw [HN.out] at hx; omega)
      clear HB
      subst hin
      go_wp2
      go_loopw [6] (fun vi wq => ∃ (t : Nat) (cs : List Int), t ≤ n ∧ vi = .int .i64 t ∧ Hid (cs.length = n) ∧ Hid (Inv l t cs) ∧
        Hid (Own .i64 3 w.heap.size wq (.slice (some ⟨w.heap.size, 0, none⟩) n n) cs) ∧ Hid (Ext w wq)) (fun vi _ => n - (intOf vi).toNat)
      case atStart => exact ⟨0, bs, Nat.zero_le _, rfl, HL, HI0, HO, HE⟩
      case round =>
        clear HO HE HL HI0 hlt hlt' hi
        obtain ⟨t, cs, ht, rfl, HL, HI, HO, HE⟩ := hrel
        by_cases hlt : t < n
        · have hlt' : (t : Int) < n := by omega
          obtain ⟨g1, o1, rfl, k1⟩ := CV.out (by omega)
          have c1 := HE.out.cellOf (k1 t hlt)
          have C1 := hide' (k1 t hlt)
          clear k1
          have HBAD : Hid (∀ z, l.getD t 0 = z → (z < 0 ∨ (n : Int) ≤ z ∨ 0 ≤ cs.getD z.toNat 0) → ordB l = false ∧ invI l = []) := fun z hz h => HI.out.bad (by rw [HN.out]; exact hlt) (by rw [hz, HN.out]; exact h)
          have HNX : Hid (∀ p : Nat, l.getD t 0 = (p : Int) → p < n → cs.getD p 0 < 0 → Inv l (t + 1) (cs.set p (t : Int))) := fun p h1 h2 h3 => HI.out.next (by rw [HN.out]; exact hlt) h1 (by rw [HN.out]; exact h2) h3
          obtain ⟨z, HZ⟩ : ∃ p, Hid (l.getD t 0 = p) := ⟨_, rfl⟩
          rw [HZ.out] at c1 C1
          by_cases h0 : z < 0
          · have HB := hide' (HBAD.out z HZ.out (.inl h0))
            go_wp2
            go_ret2
            rw [HB.out.1, HB.out.2]
            exact ⟨_, rfl, Own.nil _ _ _ _, HE.out⟩
          · have e0 : decide (z < 0) = false := by simp; omega
            by_cases h1 : (n : Int) ≤ z
            · have HB := hide' (HBAD.out z HZ.out (.inr (.inl h1)))
              go_wp2
              go_ret2
              rw [HB.out.1, HB.out.2]
              exact ⟨_, rfl, Own.nil _ _ _ _, HE.out⟩
            · have e1 : decide ((n : Int) ≤ z) = false := by simp; omega
              obtain ⟨p, rfl⟩ := Int.eq_ofNat_of_zero_le (show 0 ≤ z by omega)
              have hp : p < n := by omega
              have hp' : (p : Int) < n := by omega
              have e2 : decide (n ≤ p) = false := by simp; omega
              have hci := HO.out.cell HL.out p hp
              clear h0 h1
              obtain ⟨y, HY⟩ : ∃ x, Hid (cs.getD p 0 = x) := ⟨_, rfl⟩
              rw [HY.out] at hci
              by_cases hy : 0 ≤ y
              · have HB := hide' (HBAD.out p HZ.out (.inr (.inr (by rw [Int.toNat_natCast, HY.out]; exact hy))))
                go_wp2
                go_ret2
                rw [HB.out.1, HB.out.2]
                exact ⟨_, rfl, Own.nil _ _ _ _, HE.out⟩
              · have e3 : decide (0 ≤ y) = false := by simp; omega
                have HM2 := hide' (HNX.out p HZ.out hp (by rw [HY.out]; omega))
                have hfz := HO.out.frozen HL.out p
                have HO2 := hide' (HO.out.store HL.out p (t : Int))
                clear hy
                go_wp2
                go_roundw
                case rel => exact ⟨t + 1, cs.set p (t : Int), by omega, by go_num, (show _ = _ by rw [List.length_set]; exact HL.out), HM2, HO2, Ext.but HE.out (Nat.le_refl _) (but_set _ _ _ _)⟩
                case measure => simp [intOf] <;> omega
        · have hlt' : decide ((t : Int) < n) = false := by simp; omega
          have htl : n = t := by omega
          have HB := hide' ((show Inv l l.length cs by rw [HN.out, htl]; exact HI.out).done)
          go_wp2
          go_ret2
          rw [HB.out.1, HB.out.2]
          exact ⟨_, rfl, HO.out, HE.out⟩

theorem ris_any (v : Value) (l : List Int) (w : World) (hv : Sl .i64 w v l) (hlen : l.length ≤ 1000000) :
    Calls Try.prog 18 #[v] w fun e w' => e = .returned (.bool (ordB l)) ∧ Ext w w' := by
  have C := hide' (rinv_any v l w hv hlen)
  clear hv hlen
  go_enter Try.func18, Try.ntmps18
  go_wp2_with fail
  refine C.out.mono ?_
  rintro e w1 ⟨s, rfl, _, he⟩
  have X1 := hide' he
  clear he C
  go_wp2
  go_ret
  exact ⟨rfl, X1.out⟩
end Go.Proofs.Ytmnbjikhjdmmfaa
