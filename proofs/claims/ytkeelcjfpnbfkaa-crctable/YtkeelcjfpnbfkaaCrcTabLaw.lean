/- CrcTable: the walk. -/
import Derived.Test.YtkeelcjfpnbfkaaCrcTab
namespace Go.Proofs.Ytkeelcjfpnbfkaa
set_option linter.unusedVariables false
set_option linter.unusedSimpArgs false
open Go.RowKit

set_option maxHeartbeats 1600000 in
theorem lawTable (i times : Int) (w : World) : Calls Try.prog 4 #[.int .i64 i, .int .i64 times] w fun e w' => e = .returned (.bool true) ∧ Ext w w' := by
  by_cases h1 : i < 0
  · go_enter Try.func4, Try.ntmps4
    go_wp2
    go_ret
    exact ⟨rfl, Ext.refl _⟩
  have h1b : decide (i < 0) = false := decide_eq_false h1
  by_cases h2 : 255 < i
  · go_enter Try.func4, Try.ntmps4
    go_wp2
    go_ret
    exact ⟨rfl, Ext.refl _⟩
  have h2b : decide (255 < i) = false := decide_eq_false h2
  by_cases h3 : times < 1
  · go_enter Try.func4, Try.ntmps4
    go_wp2
    go_ret
    exact ⟨rfl, Ext.refl _⟩
  have h3b : decide (times < 1) = false := decide_eq_false h3
  by_cases h4 : 20 < times
  · go_enter Try.func4, Try.ntmps4
    go_wp2
    go_ret
    exact ⟨rfl, Ext.refl _⟩
  have h4b : decide (20 < times) = false := decide_eq_false h4
  obtain ⟨n, rfl⟩ := Int.eq_ofNat_of_zero_le (by omega : 0 ≤ i)
  obtain ⟨m, rfl⟩ := Int.eq_ofNat_of_zero_le (by omega : 0 ≤ times)
  have hn : n < 256 := by omega
  have hm : m ≤ 20 := by omega
  go_enter Try.func4, Try.ntmps4
  go_wp2_with fail
  refine (new_any w).mono ?_
  rintro e w1 ⟨rfl, hA, hE⟩
  have HA := hide' hA
  have HE := hide' hE
  clear hA hE
  go_wp2
  go_loopw [6] (fun x wr => ∃ k : Nat, x = .int .i64 k ∧ k ≤ m ∧ Hid (Crc wr w.heap.size) ∧ Hid (Ext w wr)) (fun x _ => m - (intOf x).toNat)
  case atStart => exact ⟨0, rfl, by omega, .inl HA.out, HE.out⟩
  case round =>
    obtain ⟨k, rfl, hk, hC, hX⟩ := hrel
    by_cases hlt : k < m
    · have hlt' : (k : Int) < (m : Int) := by omega
      go_wp2_with fail
      refine (table_any w.heap.size _ hC.out).mono ?_
      rintro e w2 ⟨rfl, hA2, hB2⟩
      have HA2 := hide' hA2
      have HX2 := hide' (hX.out.but (Nat.le_refl _) hB2)
      clear hA2 hB2
      have hal := zero_tab
      have HG := hide' (heap_alloc_new w2 (.cells (tabV zeroL) 30))
      have HI2 : Hid ((Try.prog.info? 30).map (·.size) = some (tabV tabL).size) := by show _ = _; rw [tabV_size tabL_len]; exact info_tab
      have HI3 : Hid ((tabV zeroL).size = (tabV tabL).size) := by show _ = _; rw [tabV_size tabL_len, tabV_size zeroL_len]
      go_wp2_with (refine wpList_store_row rfl 30 (.tmp 7) (.tmp 31) rfl w2.heap.size (tabV tabL) rfl rfl 30 (tabV zeroL) HG.out HI2.out HI3.out (tabV_one _) ?_)
      have HA3 : Hid (At ((w2.alloc (.cells (tabV zeroL) 30)).setRow w2.heap.size (tabV tabL)) w.heap.size 1 0 1 tabL) := by
        have hne : w.heap.size ≠ w2.heap.size := by have := HA2.out.lt; omega
        exact ⟨(setRow_other _ w2.heap.size w.heap.size _ hne).trans (HA2.out.ext (ext_alloc _ _)).1, HA2.out.2⟩
      have HX3 : Hid (Ext w ((w2.alloc (.cells (tabV zeroL) 30)).setRow w2.heap.size (tabV tabL))) := by
        have hk : Ext w (w2.alloc (.cells (tabV zeroL) 30)) := HX2.out.trans (ext_alloc _ _)
        have hsz := HX2.out.size
        exact ⟨hk.os, hk.tape, hk.output, by rw [setRow_size]; exact hk.size, fun k hk' => (setRow_other _ w2.heap.size k _ (by omega)).trans (hk.block k hk')⟩
      have hcell : ((w2.alloc (.cells (tabV zeroL) 30)).setRow w2.heap.size (tabV tabL)).cell? ⟨w2.heap.size, n, none⟩ = some (.int .u32 (tab n : Int)) := by
        rw [cell_setRow_same _ _ _ _ _ _ _ HG.out]
        have := tabL_getD n hn
        rw [List.getD_eq_getElem?_getD, List.getElem?_eq_getElem (by rw [tabL_len]; exact hn)] at this
        simp only [Option.getD_some] at this
        simp [tabV, List.getElem?_eq_getElem (show n < tabL.length by rw [tabL_len]; exact hn), this]
      obtain ⟨w3, HW3⟩ : ∃ w3, Hid ((w2.alloc (.cells (tabV zeroL) 30)).setRow w2.heap.size (tabV tabL) = w3) := ⟨_, rfl⟩
      rw [HW3.out] at HA3 HX3 hcell ⊢
      clear hal
      simp only [Act.put, List.setIfInBounds_toArray, List.set_cons_succ, List.set_cons_zero]
      have hne := later_some w3
      have hcl := later_cell hcell
      have hn' : (n : Int) < 256 := by omega
      have q1 : ((tab n : Int) == (tab n : Int)) = true := by simp
      have q1' : ((tab n : Int) != (tab n : Int)) = false := by simp
      refine wp_region_k (fun f args v w => (f = 13 → v = .int .u32 (tab n : Int)) ∧ (f = 14 → v = .int .i64 1)) (by kernel_rfl) (by kernel_rfl) (by kernel_rfl) ?_
      refine lexK_take 4 (by kernel_rfl) ?_
      simp only [List.take_succ_cons, List.take_zero, List.drop_succ_cons, List.drop_zero]
      repeat (go_big_quiet_step (fail))
      refine wpQuiet_nil ?_
      refine lexK_call1 13 #[.int .i64 (n : Int)] (.int .u32 (tab n : Int)) (fun _ _ => ⟨fun h => h.1 rfl, fun h => ⟨fun _ => h, fun e => by cases e⟩⟩) rfl (fun w' => ?_) (fun w' _ _ => (rnumber_any n w' (lt32_of_256 hn)).mono fun e w'' ⟨h1, h2⟩ => ⟨h1, by rw [h2]; exact Ext.refl _⟩) ?_
      · go_simp
      simp only [Act.put, List.setIfInBounds_toArray, List.set_cons_succ, List.set_cons_zero]
      refine lexK_take 3 (by kernel_rfl) ?_
      simp only [List.take_succ_cons, List.take_zero, List.drop_succ_cons, List.drop_zero]
      repeat (go_big_quiet_step (fail))
      refine wpQuiet_nil ?_
      refine lexK_call1 14 #[.pointer (some ⟨w.heap.size, 0, none⟩)] (.int .i64 1) (fun _ _ => ⟨fun h => h.2 rfl, fun h => ⟨fun e => (by cases e), fun _ => h⟩⟩) rfl (fun w' => ?_) (fun w' he _ => (runs_any w.heap.size w' 1 0 1 tabL (HA3.out.ext he) (by omega) (by omega)).mono fun e w'' ⟨h1, h2⟩ => ⟨h1, by rw [h2]; exact Ext.refl _⟩) ?_
      · go_simp
      simp only [Act.put, List.setIfInBounds_toArray, List.set_cons_succ, List.set_cons_zero]
      refine lexK_take 2 (by kernel_rfl) ?_
      simp only [List.take_succ_cons, List.take_zero, List.drop_succ_cons, List.drop_zero]
      repeat (go_big_quiet_step (fail))
      refine wpQuiet_nil ?_
      refine lexK_nil ?_
      intro w4 he4 _
      clear hcl hne hcell
      go_wp2
      go_roundw
      case rel => exact ⟨k + 1, by go_num, by omega, .inr (HA3.out.ext he4), HX3.out.trans he4⟩
      case measure => simp [intOf]; omega
    · have hlt' : (m : Int) ≤ (k : Int) := by omega
      go_wp2_with fail
      refine (known_any _).mono ?_
      rintro e w5 ⟨rfl, hE5⟩
      go_wp2
      go_ret
      exact ⟨rfl, hX.out.trans hE5⟩
end Go.Proofs.Ytkeelcjfpnbfkaa
