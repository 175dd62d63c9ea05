/- Contract of bucket.Starts. -/
import Derived.Test.YtmojnliljaefbaaBktMath
import Derived.Test.YtmojnliljaefbaaNatRow
namespace Go.Proofs.Ytmojnliljaefbaa
set_option linter.unusedVariables false
set_option linter.unusedSimpArgs false
open Go.RowKit

set_option maxHeartbeats 400000 in
theorem starts_any (v : Value) (cs : List Int) (w : World) (hv : Sl .i64 w v cs) (hlen : cs.length ≤ 4000000) (hb : ∀ i, i ≤ cs.length → -4611686018427387904 ≤ sumI cs i ∧ sumI cs i ≤ 4611686018427387904) :
    Calls Try.prog 29 #[v] w fun e w' => ∃ s, e = .returned s ∧ Own .i64 3 w.heap.size w' s (startsI cs) ∧ Ext w w' := by
  have HV := hide' hv
  obtain ⟨a, c, rfl, _⟩ := hv
  obtain ⟨_, _, _, hcv⟩ := HV.out.int
  have CV := hide' hcv
  have HBD := hide' hb
  obtain ⟨n, HN⟩ : ∃ n, Hid (cs.length = n) := ⟨_, rfl⟩
  rw [HN.out] at CV hlen HBD ⊢
  clear hcv hb HV
  obtain ⟨w1, hmk, ho, he⟩ := make_intsB w n hlen
  have HO := hide' ho
  have HE := hide' he
  clear ho he
  go_enter Try.func29, Try.ntmps29
  go_wp2
  clear hmk
  go_loopw [4, 12] (fun vs vi wr => ∃ (i : Nat) (t : Int) (bs : List Int), i ≤ n ∧ vs = .int .i64 t ∧ vi = .int .i64 i ∧ Hid (sumI cs i = t) ∧ Hid (bs.length = n) ∧ Hid (∀ j, j < i → bs.getD j 0 = sumI cs j) ∧
    Hid (Own .i64 3 w.heap.size wr (.slice (some ⟨w.heap.size, 0, none⟩) n n) bs) ∧ Hid (Ext w wr)) (fun _ vi _ => n - (intOf vi).toNat)
  case atStart => exact ⟨0, 0, List.replicate n 0, Nat.zero_le _, rfl, rfl, (show _ = _ from rfl), List.length_replicate, (fun j hj => by omega), HO, HE⟩
  case round =>
    clear HO HE
    obtain ⟨i, t, bs, hi, rfl, rfl, HT, HL, HB, HO, HE⟩ := hrel
    by_cases hlt : i < n
    · have hlt' : (i : Int) < n := by omega
      obtain ⟨g1, o1, rfl, k1⟩ := CV.out (by omega)
      have c1 := HE.out.cellOf (k1 i hlt)
      clear k1
      have b1 := HBD.out i (by omega)
      have b2 := HBD.out (i + 1) (by omega)
      have HS : Hid (sumI cs (i + 1) = t + cs.getD i 0) := by show _ = _; rw [← HT.out]; rfl
      rw [HS.out] at b2
      rw [HT.out] at b1
      obtain ⟨z, HZ⟩ : ∃ z, Hid (cs.getD i 0 = z) := ⟨_, rfl⟩
      rw [HZ.out] at c1 b2 HS
      have hfz := HO.out.frozen HL.out i
      have hci := HO.out.cell HL.out i hlt
      have HO2 := hide' (HO.out.store HL.out i t)
      have hsum : IntKind.i64.wrap (t + z) = t + z := by rw [IntKind.wrap_i64]; omega
      go_wp2
      go_roundw
      case rel =>
        refine ⟨i + 1, t + z, bs.set i t, by omega, by first | rfl | go_num, by go_num, HS, (show _ = _ by rw [List.length_set]; exact HL.out), fun j hj => ?_, HO2, Ext.but HE.out (Nat.le_refl _) (but_set _ _ _ _)⟩
        by_cases hji : j = i
        · subst hji; rw [setI_same (by rw [HL.out]; exact hlt), HT.out]
        · rw [setI_other (by omega), HB.out j (by omega)]
      case measure => simp [intOf]; omega
    · have hlt' : decide ((i : Int) < n) = false := by simp; omega
      have hin : i = n := by omega
      subst hin
      have HQ : Hid (bs = startsI cs) := getD_ext (by rw [HL.out, startsI_len, HN.out]) fun j hj => by
        rw [HL.out] at hj
        rw [HB.out j hj, startsI_at cs (by rw [HN.out]; exact hj)]
      go_wp2
      go_ret
      exact ⟨_, rfl, by rw [← HQ.out]; exact HO.out, HE.out⟩
end Go.Proofs.Ytmojnliljaefbaa
