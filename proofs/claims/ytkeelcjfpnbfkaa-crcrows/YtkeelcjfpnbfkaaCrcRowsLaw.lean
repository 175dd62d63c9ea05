/- CrcRows: the walk. -/
import Derived.Test.YtkeelcjfpnbfkaaCrcTab
namespace Go.Proofs.Ytkeelcjfpnbfkaa
set_option linter.unusedVariables false
set_option linter.unusedSimpArgs false
open Go.RowKit

theorem zero_eq (w : World) : (binOp .eql 30 (.agg (tabV zeroL)) (.agg (tabV zeroL))).run Try.prog w = .ok (.bool true) w := by kernel_rfl
theorem zero_guard (x y : Operand) (w : World) : (eqGuard .eql 30 x y (.agg (tabV zeroL)) (.agg (tabV zeroL))).run Try.prog w = .ok () w := by kernel_rfl

set_option maxHeartbeats 800000 in
theorem table_none (w : World) : Calls Try.prog 12 #[.pointer none] w fun e w' => e = .returned (.agg (tabV zeroL)) ∧ Ext w w' := by
  have hal := zero_tab
  have HG := hide' (heap_alloc_new w (.cells (tabV zeroL) 30))
  have HI2 : Hid ((Try.prog.info? 30).map (·.size) = some (tabV zeroL).size) := by show _ = _; rw [tabV_size zeroL_len]; exact info_tab
  go_enter Try.func12, Try.ntmps12
  go_wp2_with (refine wpList_store_row rfl 30 (.tmp 2) (.tmp 5) rfl w.heap.size (tabV zeroL) rfl rfl 30 (tabV zeroL) HG.out HI2.out rfl (tabV_one _) ?_)
  have hr := setRow_heap (w.alloc (.cells (tabV zeroL) 30)) w.heap.size _ (tabV zeroL) _ _ HG.out
  refine bodyPost_ret (results_cell_row (fn := Try.f12) (p := 2) (ty := 30) rfl _ _ w.heap.size _ (tabV zeroL) _ _ rfl hr Try.underlying30 rfl HI2.out) rfl ?_
  refine ⟨rfl, ?_⟩
  have hk := ext_alloc w (.cells (tabV zeroL) 30)
  exact ⟨hk.os, hk.tape, hk.output, by rw [setRow_size]; exact hk.size, fun k hk' => (setRow_other _ w.heap.size k _ (by omega)).trans (hk.block k hk')⟩

theorem flatten_take {zss : List (List Int)} {k : Nat} {zs : List Int} (hk : k < zss.length) (h : zss.getD k [] = zs) : (zss.take (k + 1)).flatten = (zss.take k).flatten ++ zs := by
  rw [List.getD_eq_getElem?_getD, List.getElem?_eq_getElem hk, Option.getD_some] at h
  rw [List.take_add_one, List.getElem?_eq_getElem hk, Option.toList_some, List.flatten_append, h]
  simp

set_option maxHeartbeats 3200000 in
theorem lawRows (v : Value) (zss : List (List Int)) (w : World) (hs : Sls w v zss) (hr : ∀ zs ∈ zss, ∀ z ∈ zs, 0 ≤ z ∧ z ≤ 255) (hlz : ∀ zs ∈ zss, zs.length ≤ 140737488351232) :
    Calls Try.prog 5 #[v] w fun e w' => e = .returned (.bool true) ∧ Ext w w' := by
  have HS := hide' hs
  have HR := hide' hr
  have HL := hide' hlz
  clear hr hlz
  obtain ⟨a, c, rfl, hm, _⟩ := hs
  unfold maxLen at hm
  go_enter Try.func5, Try.ntmps5
  go_wp2
  go_loopw [3, 4] (fun s x wr => ∃ (k : Nat) (acc : List Int), x = .int .i64 k ∧ k ≤ zss.length ∧ Hid (acc = (zss.take k).flatten) ∧ acc.length ≤ 1000 ∧ Hid (Own .u8 5 w.heap.size wr s acc) ∧ Hid (Ext w wr)) (fun _ x _ => zss.length - (intOf x).toNat)
  case atStart => exact ⟨0, [], rfl, by omega, rfl, by simp, Own.nil _ _ _ _, Ext.refl _⟩
  case round =>
    obtain ⟨k, acc, rfl, hk, hacc, hlen, hown, hX⟩ := hrel
    obtain ⟨a1, c1, rfl, _, hc1, _⟩ := hown.out.sl
    unfold maxLen at hc1
    by_cases hlt : k < zss.length
    · have hlt' : (k : Int) < (zss.length : Int) := by omega
      obtain ⟨a', c', hv, _, h4⟩ := (HS.out.ext hX.out)
      simp only [Value.slice.injEq] at hv
      obtain ⟨rfl, _, rfl⟩ := hv
      rcases h4 with h4 | ⟨g, off, rfl, h5⟩
      · rw [h4] at hlt; exact absurd hlt (by simp)
      obtain ⟨s, h6, h7⟩ := h5 k hlt
      clear h5
      obtain ⟨zs, HZ⟩ : ∃ zs, Hid (zss.getD k [] = zs) := ⟨_, rfl⟩
      rw [HZ.out] at h7
      have HF := hide' h7
      have hzl : zs.length ≤ 140737488351232 := HL.out zs (by
        have := HZ.out
        rw [List.getD_eq_getElem?_getD, List.getElem?_eq_getElem hlt, Option.getD_some] at this
        rw [← this]; exact List.getElem_mem hlt)
      obtain ⟨a2, c2, rfl, hm2, hm3, _⟩ := h7
      unfold maxLen at hm3
      by_cases h1 : 100 < k
      · have h1' : (100 : Int) < (k : Int) := by omega
        go_wp2
        go_ret
        exact ⟨rfl, hX.out⟩
      have h1b : decide ((100 : Int) < (k : Int)) = false := decide_eq_false (by omega)
      by_cases h2 : 1000 < acc.length + zs.length
      · have h2' : (1000 : Int) < (acc.length : Int) + (zs.length : Int) := by omega
        go_wp2
        go_ret
        exact ⟨rfl, hX.out⟩
      have h2b : decide ((1000 : Int) < (acc.length : Int) + (zs.length : Int)) = false := decide_eq_false (by omega)
      go_wp2_with (at_builtin; refine wpList_join _ rfl (.tmp 26) (.tmp 30) 22 rfl 5 .u8 1 Try.underlying22 infoU8 w.heap.size _ _ acc zs rfl rfl hown.out HF.out ?c1 hX.out.size ?_)
      case c1 => unfold maxLen; omega
      intro v' w' ho' hb'
      have HO' := hide' ho'
      have HB' := hide' hb'
      clear ho' hb'
      go_wp2
      go_roundw
      case rel =>
        refine ⟨k + 1, acc ++ zs, by go_num, by omega, ?_, by simp; omega, HO'.out, ?_⟩
        · show _ = _
          rw [flatten_take hlt HZ.out, hacc.out]
        · exact Below.trans hX.out HB'.out
      case measure => simp [intOf]; omega
    · have hlt' : (zss.length : Int) ≤ (k : Int) := by omega
      have HK : Hid (acc = zss.flatten) := by show _ = _; rw [hacc.out, List.take_of_length_le (by omega)]
      go_wp2_with fail
      refine (new_any wr).mono ?_
      rintro e w1 ⟨rfl, hA, hE⟩
      have HA := hide' hA
      have HE := hide' hE
      clear hA hE
      go_wp2_with fail
      refine (sum_any wr.heap.size _ _ zss (.inl HA.out) ((HS.out.ext hX.out).ext HE.out) HR.out).mono ?_
      rintro e w2 ⟨rfl, hA2, hB2⟩
      have HA2 := hide' hA2
      have HX2 := hide' (HE.out.but (Nat.le_refl _) hB2)
      clear hA2 hB2
      go_wp2_with fail
      have HS3 := hide' (Sls.one (e := 22) (hown.out.sl.ext HX2.out) w2.heap.size rfl)
      refine (sum_any wr.heap.size _ _ [acc] (.inr (HA2.out.ext (ext_alloc _ _))) HS3.out ?_).mono ?_
      · intro l hl z hz
        simp only [List.mem_cons, List.not_mem_nil, or_false] at hl
        subst hl
        rw [HK.out] at hz
        obtain ⟨zs, h1, h2⟩ := List.mem_flatten.1 hz
        exact HR.out zs h1 z h2
      rintro e w3 ⟨rfl, hA3, hB3⟩
      have HA3 := hide' hA3
      have HX3 := hide' ((HX2.out.trans (ext_alloc w2 _)).but (Nat.le_refl _) hB3)
      clear hA3 hB3
      rw [show sumN [acc].flatten = sumN zss.flatten by rw [← HK.out]; simp]
      obtain ⟨x, HXX⟩ : ∃ x, Hid (sumN zss.flatten = x) := ⟨_, rfl⟩
      rw [HXX.out]
      have hq : ((x : Int) == (x : Int)) = true := by simp
      go_wp2_with fail
      refine (sum_any wr.heap.size _ _ [] (.inr HA3.out) (Sls.none _) (by simp)).mono ?_
      rintro e w4 ⟨rfl, hA4, hB4⟩
      have HA4 := hide' hA4
      have HX4 := hide' (HX3.out.but (Nat.le_refl _) hB4)
      clear hA4 hB4
      rw [show sumN ([] : List (List Int)).flatten = 0 from rfl]
      go_wp2_with fail
      refine (runs_any wr.heap.size _ 1 0 1 tabL HA4.out (by omega) (by omega)).mono ?_
      rintro e w5 ⟨rfl, rfl⟩
      go_wp2_with fail
      refine (sum_none _ _).mono ?_
      rintro e w6 ⟨rfl, rfl⟩
      go_wp2_with fail
      refine (runs_none _).mono ?_
      rintro e w7 ⟨rfl, rfl⟩
      go_wp2_with fail
      refine (table_none _).mono ?_
      rintro e w8 ⟨rfl, hE8⟩
      have HX8 := hide' ((HX4.out.trans (ext_alloc _ _)).trans hE8)
      clear hE8
      have hz1 := zero_tab
      have hz2 := zero_eq
      have hz3 := zero_guard
      go_wp2_with fail
      refine (known_any _).mono ?_
      rintro e w9 ⟨rfl, hE9⟩
      go_wp2
      go_ret
      exact ⟨rfl, hX.out.trans (HX8.out.trans hE9)⟩
end Go.Proofs.Ytkeelcjfpnbfkaa
