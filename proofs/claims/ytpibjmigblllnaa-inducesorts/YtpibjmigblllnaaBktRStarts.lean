/- Contract of the document's own Starts: whorlref10.Starts. -/
import Derived.Test.YtpibjmigblllnaaBktMath
import Derived.Test.YtpibjmigblllnaaNatRow
import Derived.Test.YtpibjmigblllnaaKripTail
namespace Go.Proofs.Ytpibjmigblllnaa
set_option linter.unusedVariables false
set_option linter.unusedSimpArgs false
open Go.RowKit

set_option maxHeartbeats 400000 in
theorem rstarts_any (v : Value) (cs : List Int) (w : World) (hv : Sl .i64 w v cs) (hlen : cs.length ≤ 1000000) (hb : ∀ i, i ≤ cs.length → -4611686018427387904 ≤ sumI cs i ∧ sumI cs i ≤ 4611686018427387904) :
    Calls Try.prog 30 #[v] w fun e w' => ∃ s, e = .returned s ∧ Own .i64 3 w.heap.size w' s (startsI cs) ∧ Ext w w' := by
  have HV := hide' hv
  obtain ⟨a, c, rfl, _⟩ := hv
  obtain ⟨_, _, _, hcv⟩ := HV.out.int
  have CV := hide' hcv
  have HBD := hide' hb
  obtain ⟨n, HN⟩ : ∃ n, Hid (cs.length = n) := ⟨_, rfl⟩
  rw [HN.out] at CV hlen HBD ⊢
  clear hcv hb HV
  obtain ⟨w1, hmk, ho, he⟩ := make_intsB w n (by omega)
  have HO := hide' ho
  have HE := hide' he
  clear ho he
  go_enter Try.func30, Try.ntmps30
  go_wp2
  clear hmk
  go_loopw [4] (fun vi wr => ∃ (i : Nat) (bs : List Int), i ≤ n ∧ vi = .int .i64 ((i : Int) + 1) ∧ Hid (bs.length = n) ∧ Hid (∀ j, j ≤ i → j < n → bs.getD j 0 = sumI cs j) ∧
    Hid (Own .i64 3 w.heap.size wr (.slice (some ⟨w.heap.size, 0, none⟩) n n) bs) ∧ Hid (Ext w wr)) (fun vi _ => n - (intOf vi).toNat)
  case atStart =>
    refine ⟨0, List.replicate n 0, Nat.zero_le _, rfl, List.length_replicate, (fun j hj hn => ?_), HO, HE⟩
    have : j = 0 := by omega
    subst this
    simp [sumI, List.getD, hn]
  case round =>
    clear HO HE
    obtain ⟨i, bs, hi, rfl, HL, HB, HO, HE⟩ := hrel
    by_cases hlt : i + 1 < n
    · have hlt' : (i : Int) + 1 < n := by omega
      have e1 : (i : Int) + 1 - 1 = (i : Int) := by omega
      have e2 : (i : Int) < n := by omega
      have e3 : i < n := by omega
      obtain ⟨g1, o1, rfl, k1⟩ := CV.out (by omega)
      have c1 := HE.out.cellOf (k1 i e3)
      clear k1
      have b1 := HBD.out i (by omega)
      have b2 := HBD.out (i + 1) (by omega)
      have HS : Hid (sumI cs (i + 1) = sumI cs i + cs.getD i 0) := rfl
      rw [HS.out] at b2
      have c2 := HO.out.cell HL.out i e3
      rw [HB.out i (Nat.le_refl _) e3] at c2
      obtain ⟨t, HT⟩ : ∃ t, Hid (sumI cs i = t) := ⟨_, rfl⟩
      obtain ⟨z, HZ⟩ : ∃ z, Hid (cs.getD i 0 = z) := ⟨_, rfl⟩
      rw [HZ.out] at c1 b2 HS
      rw [HT.out] at c2 b2 HS b1
      have hsum : IntKind.i64.wrap (t + z) = t + z := by rw [IntKind.wrap_i64]; omega
      go_wp2_with fail
      refine wp_region_kt (fun _ _ _ _ => True) 14 (by kernel_rfl) (by kernel_rfl) (by kernel_rfl) ?_
      have hne := later_some wr
      have l1 := later_cell c1
      have l2 := later_cell c2
      simp only [List.take_succ_cons, List.take_zero, List.drop_succ_cons, List.drop_zero]
      refine lexK_take 14 (by kernel_rfl) ?_
      simp only [List.take_succ_cons, List.take_zero, List.drop_succ_cons, List.drop_zero]
      repeat (go_big_quiet_step (fail))
      refine wpQuiet_nil ?_
      refine lexK_nil ?_
      intro w3 he3 _
      have HO3 := hide' (HO.out.ext he3)
      have HE3 := hide' (HE.out.trans he3)
      have hfz3 := HO3.out.frozen HL.out (i + 1)
      have hc3 := HO3.out.cell HL.out (i + 1) hlt
      have HO4 := hide' (HO3.out.store HL.out (i + 1) (t + z))
      clear l1 l2 hne c1 c2 he3
      go_wp2
      go_roundw
      case rel =>
        refine ⟨i + 1, bs.set (i + 1) (t + z), by omega, by go_num, (show _ = _ by rw [List.length_set]; exact HL.out), (fun j hj hjn => ?_), HO4, Ext.but HE3.out (Nat.le_refl _) (but_set _ _ _ _)⟩
        by_cases hji : j = i + 1
        · subst hji; rw [setI_same (by rw [HL.out]; exact hlt), HS.out]
        · rw [setI_other (by omega), HB.out j (by omega) hjn]
      case measure => simp [intOf]; omega
    · have hlt' : decide ((i : Int) + 1 < n) = false := by simp; omega
      have HQ : Hid (bs = startsI cs) := getD_ext (by rw [HL.out, startsI_len, HN.out]) fun j hj => by
        rw [HL.out] at hj
        rw [HB.out j (by omega) hj, startsI_at cs (by rw [HN.out]; exact hj)]
      go_wp2
      go_ret
      exact ⟨_, rfl, by rw [← HQ.out]; exact HO.out, HE.out⟩
end Go.Proofs.Ytpibjmigblllnaa
