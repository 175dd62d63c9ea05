/- sync.Once over a Crc: the table is made at the first call, and not again. -/
import Derived.Test.YtkeelcjfpnbfkaaCrcObj
import Derived.Test.YtkeelcjfpnbfkaaKripTail
namespace Go.Proofs.Ytkeelcjfpnbfkaa
set_option linter.unusedVariables false
set_option linter.unusedSimpArgs false
open Go.RowKit

theorem disable (w : World) : (callFunc 32 #[]).run Try.prog w = .ok (.value (.tuple #[])) w := run_call_mark0 Try.func32 (by kernel_rfl) (by kernel_rfl) (by kernel_rfl) .disable (by kernel_rfl) w
theorem enable (w : World) : (callFunc 34 #[]).run Try.prog w = .ok (.value (.tuple #[])) w := run_call_mark0 Try.func34 (by kernel_rfl) (by kernel_rfl) (by kernel_rfl) .enable (by kernel_rfl) w
theorem acquire (a : Addr) (w : World) : (callFunc 35 #[.pointer (some a)]).run Try.prog w = .ok (.value (.tuple #[])) w := run_call_marked Try.func35 (by kernel_rfl) (by kernel_rfl) (by kernel_rfl) .acquire (by kernel_rfl) a w
theorem releaseMerge (a : Addr) (w : World) : (callFunc 37 #[.pointer (some a)]).run Try.prog w = .ok (.value (.tuple #[])) w := run_call_marked Try.func37 (by kernel_rfl) (by kernel_rfl) (by kernel_rfl) .releaseMerge (by kernel_rfl) a w

/-- A pointer as a raw one: the same address, where there is a cell. -/
theorem raw_ptr {a : Addr} {v : Value} {w : World} (hc : w.cell? a = some v) : (convert 71 74 (.pointer (some a))).run Try.prog w = .ok (.pointer (some a)) w := by
  obtain ⟨e, n, h1, h2, h3⟩ := World.shape?_of_cell? hc
  have h4 : ¬ n ≤ a.off := by omega
  have h5 : Try.prog.info? 46 = some ((Try.prog.info? 46).getD default) := by kernel_rfl
  have h6 : ((Try.prog.info? 46).getD default).size = 2 := by kernel_rfl
  simp [convert, Conv.unsafePointer, Conv.seenAt, viewAt, cellsIn, sizeOf, typeInfo, run_underlying Try.underlying71, run_underlying Try.underlying74, h1, h4]
  rw [h5]
  simp [h6]

theorem store_deferred (a : Addr) (x : Value) (u : FrameMode) (w : World) (hc : w.cell? a = some x) (hz : w.frozen? a = false) :
    CallsD Try.prog 26 #[.pointer (some a), .bool true] u w fun e u' w' => u' = u ∧ (e = .returned (.tuple #[]) ∧ w' = w.drew.setCell a (.int .u32 1)) := by
  have hc' : w.drew.cell? a = some x := by go_simp
  have hz' : w.drew.frozen? a = false := by go_simp
  have hst := run_call_store (P := Try.prog) Try.func30 (by kernel_rfl) (by kernel_rfl) (by kernel_rfl) (by kernel_rfl) (k := .u32) (y := 1) hc' hz'
  go_enter_d Try.func26, Try.ntmps26
  go_wp2
  go_region_calls
  all_goals (go_end0; exact ⟨rfl, rfl⟩)

theorem unlock_deferred (a : Addr) (u : FrameMode) (w : World) (hc : w.cell? a = some (.int .i32 1)) (hz : w.frozen? a = false) :
    CallsD Try.prog 25 #[.pointer (some a)] u w fun e u' w' => u' = u ∧ (e = .returned (.tuple #[]) ∧ w' = w.setCell a (.int .i32 0)) := by
  have hd := disable
  have he := enable
  have hr := releaseMerge
  have hadd := run_call_add (P := Try.prog) Try.func27 (by kernel_rfl) (by kernel_rfl) (by kernel_rfl) .i32 (by kernel_rfl) (y := -1) (s := 0) hc hz (by simp [go_sem]; rfl)
  have hcv := raw_ptr hc
  go_enter_d Try.func25, Try.ntmps25
  go_wp2
  go_end0
  go_wp2
  go_end0
  exact ⟨rfl, rfl⟩

theorem lock_free (a : Addr) (w : World) (hc : w.cell? a = some (.int .i32 0)) (hz : w.frozen? a = false) :
    Calls Try.prog 24 #[.pointer (some a)] w fun e w' => e = .returned (.tuple #[]) ∧ w' = w.setCell a (.int .i32 1) := by
  have hd := disable
  have he := enable
  have ha := acquire
  have hcas := run_call_cas_hit (P := Try.prog) Try.func33 (by kernel_rfl) (by kernel_rfl) (by kernel_rfl) .i32 (by kernel_rfl) (y := 1) hc hz
  have hc' : (w.setCell a (.int .i32 1)).cell? a = some (.int .i32 1) := World.cell?_setCell_same w a _ hc
  have hcv := raw_ptr hc'
  go_enter Try.func24, Try.ntmps24
  go_wp2
  first | go_end0 | (simp only [Exit.inBlock, Exit.then]; refine bodyPost_ret (results_none rfl _ _ _) rfl ?_) | refine bodyPost_ret (results_none rfl _ _ _) rfl ?_
  go_wp2
  go_end0
  exact ⟨rfl, rfl⟩

/-- '(*atomic.Int32).Add(1)'. -/
theorem add_one (a : Addr) (x : Int) (w : World) (hc : w.cell? a = some (.int .i32 0)) (hz : w.frozen? a = false) :
    Calls Try.prog 21 #[.pointer (some a), .int .i32 1] w fun e w' => e = .returned (.int .i32 1) ∧ w' = w.setCell a (.int .i32 1) := by
  have hadd := run_call_add (P := Try.prog) Try.func27 (by kernel_rfl) (by kernel_rfl) (by kernel_rfl) .i32 (by kernel_rfl) (y := 1) (s := 1) hc hz (by simp [go_sem]; rfl)
  go_enter Try.func21, Try.ntmps21
  go_wp2
  go_ret
  exact ⟨rfl, rfl⟩

theorem tabL_getD (j : Nat) (hj : j < 256) : tabL.getD j 0 = (tab j : Int) := by
  unfold tabL
  simp [List.getD, hj]
theorem fill_step (k : Nat) (hk : k < 256) : (tabL.take k ++ List.replicate (256 - k) 0).set k (tab k : Int) = tabL.take (k + 1) ++ List.replicate (256 - (k + 1)) 0 := by
  have hl : (tabL.take k).length = k := by rw [List.length_take, tabL_len]; omega
  rw [List.set_append_right _ _ (by omega), hl, Nat.sub_self, show 256 - k = (256 - (k + 1)) + 1 by omega, List.replicate_succ, List.set_cons_zero]
  rw [List.take_add_one, List.getElem?_eq_getElem (by rw [tabL_len]; exact hk)]
  have := tabL_getD k hk
  rw [List.getD_eq_getElem?_getD, List.getElem?_eq_getElem (by rw [tabL_len]; exact hk)] at this
  simp at this
  simp [this]

set_option maxRecDepth 100000 in
set_option maxHeartbeats 800000 in
theorem fill_any (b : Nat) (w : World) (h : At w b 0 1 0 zeroL) :
    Calls Try.prog 16 #[.pointer (some ⟨b, 0, none⟩)] w fun e w' => e = .returned (.tuple #[]) ∧ At w' b 0 1 1 tabL ∧ But b w w' := by
  have H := hide' h
  clear h
  go_enter Try.func16, Try.ntmps16
  go_wp2
  go_loopw [3] (fun i wr => ∃ (k : Nat), k ≤ 256 ∧ i = .int .i64 k ∧ Hid (At wr b 0 1 0 (tabL.take k ++ List.replicate (256 - k) 0)) ∧ Hid (But b w wr))
    (fun i _ => 256 - (intOf i).toNat)
  case atStart => exact ⟨0, by omega, rfl, H.out, But.refl _ _⟩
  case round =>
    obtain ⟨k, hk, rfl, hA, hB⟩ := hrel
    by_cases hlt : k < 256
    · have hlt' : (k : Int) < 256 := by omega
      have hcell := hA.out.cT k hlt
      have hfz := hA.out.frozen (4 + k)
      go_wp2_with fail
      refine wp_region_kt (fun _ _ v _ => v = .int .u32 (tab k : Int)) 8 (by kernel_rfl) (by kernel_rfl) (by kernel_rfl) ?_
      have hne := later_some wr
      have hcl := later_cell hcell
      simp only [List.take_succ_cons, List.take_zero, List.drop_succ_cons, List.drop_zero]
      refine lexK_take 4 (by kernel_rfl) ?_
      simp only [List.take_succ_cons, List.take_zero, List.drop_succ_cons, List.drop_zero]
      repeat (go_big_quiet_step (fail))
      refine wpQuiet_nil ?_
      refine lexK_call1 20 #[.int .u32 (k : Int)] (.int .u32 (tab k : Int)) (fun _ _ => Iff.rfl) rfl (fun w' => ?_) (fun w' _ _ => (number_any k w' (by omega)).mono fun e w'' ⟨h1, h2⟩ => ⟨h1, by rw [h2]; exact Ext.refl _⟩) ?_
      · go_simp
      simp only [Act.put, List.setIfInBounds_toArray, List.set_cons_succ, List.set_cons_zero]
      refine lexK_take 3 (by kernel_rfl) ?_
      simp only [List.take_succ_cons, List.take_zero, List.drop_succ_cons, List.drop_zero]
      repeat (go_big_quiet_step (fail))
      refine wpQuiet_nil ?_
      refine lexK_nil ?_
      intro w1 he1 _
      have HA1 := hide' (hA.out.ext he1)
      have hc1 := HA1.out.cT k hlt
      have hf1 := HA1.out.frozen (4 + k)
      clear hcl hne hcell hfz
      go_wp2
      go_roundw
      case rel =>
        refine ⟨k + 1, by omega, by go_num, ?_, ?_⟩
        · show At _ _ _ _ _ _
          rw [← fill_step k hlt]
          exact HA1.out.setT k _
        · exact (hB.out.trans (But.ofExt he1)).setCell _ _
      case measure => simp [intOf]; omega
    · have hlt' : (256 : Int) ≤ (k : Int) := by omega
      have hcell := hA.out.c3
      have hfz := hA.out.frozen 3
      have HK : Hid (tabL.take k ++ List.replicate (256 - k) 0 = tabL) := by
        have e : k = 256 := by omega
        show _ = _
        rw [e, Nat.sub_self, List.replicate_zero, List.append_nil, List.take_of_length_le (by rw [tabL_len]; omega)]
      go_wp2_with fail
      refine (add_one ⟨b, 3, none⟩ 0 _ hcell hfz).mono ?_
      rintro e w' ⟨rfl, rfl⟩
      go_wp2
      go_end0
      refine ⟨rfl, ?_, hB.out.setCell _ _⟩
      have := hA.out.set3 1
      rwa [HK.out] at this
end Go.Proofs.Ytkeelcjfpnbfkaa
