/- The contract of (*Crc).Table, and the walk of CrcTable. -/
import Derived.Test.YtkeelcjfpnbfkaaCrcTurned
import Derived.Deep.MidRow
namespace Go.Proofs.Ytkeelcjfpnbfkaa
set_option linter.unusedVariables false
set_option linter.unusedSimpArgs false
open Go.RowKit

/-- A table as a value. -/
def tabV (t : List Int) : Array Value := (t.map (Value.int .u32)).toArray
theorem tabV_size {t : List Int} (h : t.length = 256) : (tabV t).size = 256 := by simp [tabV, h]
theorem tabV_one (t : List Int) : (tabV t).all (·.oneCell') = true := by
  rw [Array.all_eq_true]
  intro i hi
  simp [tabV] at hi ⊢
  rfl
theorem info_tab : (Try.prog.info? 30).map (·.size) = some 256 := by kernel_rfl
theorem zero_tab (w : World) : (zeroValue 30).run Try.prog w = .ok (.agg (tabV zeroL)) w := by kernel_rfl

theorem At.range {w : World} {b : Nat} {d m r : Int} {t : List Int} (h : At w b d m r t) : w.rangeAt b 4 (t.map (Value.int .u32)) := by
  intro j v hj
  rw [h.cellAt, Nat.add_comm]
  simpa [objL] using hj

set_option maxHeartbeats 800000 in
theorem table_any (b : Nat) (w : World) (h : Crc w b) :
    Calls Try.prog 12 #[.pointer (some ⟨b, 0, none⟩)] w fun e w' => e = .returned (.agg (tabV tabL)) ∧ At w' b 1 0 1 tabL ∧ But b w w' := by
  have HC := hide' h
  clear h
  have hal := zero_tab
  have hmf : ∀ (fn : Fn) (first cap : Array Value) (w : World), (Instr.makeFunc fn first cap).run Try.prog w = .ok (.func fn first cap) w := fun _ _ _ _ => rfl
  go_enter Try.func12, Try.ntmps12
  go_wp2_with fail
  refine (do_any b _ (HC.out.ext (ext_alloc _ _))).mono ?_
  rintro e w1 ⟨rfl, hA, hB⟩
  have HA := hide' hA
  have HB := hide' hB
  clear hA hB
  have hg : w1.heap[w.heap.size]? = some (.cells (tabV zeroL) 30 (0, 0)) :=
    (HB.out.block w.heap.size (by simp) (fun e => by have := HC.out.lt; simp at e; omega)).trans (heap_alloc_new w _)
  have HG := hide' hg
  clear hg hal
  have hi1 : (Try.prog.info? 30).map (·.size) = some (tabL.map (Value.int .u32)).length := by rw [List.length_map, tabL_len]; exact info_tab
  have hi2 : (Try.prog.info? 30).map (·.size) = some (tabV tabL).size := by rw [tabV_size tabL_len]; exact info_tab
  have hi3 : (tabV zeroL).size = (tabV tabL).size := by rw [tabV_size tabL_len, tabV_size zeroL_len]
  have HI1 := hide' hi1
  have HI2 := hide' hi2
  have HI3 := hide' hi3
  clear hi1 hi2 hi3
  go_wp2_with (first
    | (refine wpList_load_mid rfl 30 (.tmp 14) rfl b 4 rfl (tabL.map (Value.int .u32)) _ HA.out.range Try.underlying30 rfl HI1.out ?_)
    | (refine wpList_store_row rfl 30 (.tmp 2) (.tmp 15) rfl w.heap.size (tabV tabL) rfl rfl 30 (tabV zeroL) HG.out HI2.out HI3.out (tabV_one _) ?_))
  have hr := setRow_heap w1 w.heap.size _ (tabV tabL) _ _ HG.out
  refine bodyPost_ret (results_cell_row (fn := Try.f12) (p := 2) (ty := 30) rfl _ _ w.heap.size _ (tabV tabL) _ _ rfl hr Try.underlying30 rfl HI2.out) rfl ?_
  refine ⟨rfl, ?_, ?_⟩
  · have hne : b ≠ w.heap.size := by have := HC.out.lt; omega
    exact ⟨(setRow_other w1 w.heap.size b _ hne).trans HA.out.1, HA.out.2⟩
  · have hk : But b w w1 := (But.ofExt (ext_alloc _ _)).trans HB.out
    exact ⟨hk.os, hk.tape, hk.output, by rw [setRow_size]; exact hk.size, fun k hk' hne => (setRow_other w1 w.heap.size k _ (by omega)).trans (hk.block k hk' hne)⟩
end Go.Proofs.Ytkeelcjfpnbfkaa
