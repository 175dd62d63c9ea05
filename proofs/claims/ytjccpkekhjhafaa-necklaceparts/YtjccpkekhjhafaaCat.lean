/- Contracts of slices.Grow (of no slice) and slices.Concat, at bytes. -/
import Derived.Test.YtjccpkekhjhafaaSlss
import Derived.Test.YtjccpkekhjhafaaByt
import Derived.Lib.AppendZeros
namespace Go.Proofs.Ytjccpkekhjhafaa
set_option linter.unusedVariables false
set_option linter.unusedSimpArgs false
open Go.RowKit

theorem zeroCells_size (z : Value) (hz : z.cells.size = 1) (n : Nat) : (Builtin.zeroCells z.cells n).size = n := by
  unfold Builtin.zeroCells
  simp [hz]

theorem grow_any (n : Nat) (w : World) (hn : n ≤ 10000000) :
    Calls Try.prog 54 #[.slice none 0 0, .int .i64 n] w fun e w' => ∃ s, e = .returned s ∧ Own .u8 5 w.heap.size w' s [] ∧ Ext w w' := by
  by_cases h0 : n = 0
  · subst h0
    go_enter Try.func54, Try.ntmps54
    go_wp2
    go_ret
    exact ⟨_, rfl, Own.nil _ _ _ _, Ext.refl _⟩
  · obtain ⟨i0, hi, hz0, hz1, hz2⟩ := info_parts infoU8
    have hr := fun ty => Go.Lib.run_append_nil_zeros (P := Try.prog) w 31 3 ty 5 i0 (.int .u8 0) .i64 .i64 Try.underlying31 Try.underlying3 hi hz0 n (by omega) (by rw [hz1]; omega) (by omega) (by rw [hz2]; omega)
    have hge := grownCap_ge w n 0 5
    have hle := grownCap_le_maxLen w n 0 5 (by unfold maxLen; omega)
    obtain ⟨G, hG⟩ : ∃ G, G = grownCap w n 0 5 := ⟨_, rfl⟩
    rw [← hG] at hr hge hle
    have HO : Hid (Own .u8 5 w.heap.size (w.drew.alloc (.cells (Builtin.zeroCells (Value.int .u8 0).cells n ++ Builtin.zeroCells (Value.int .u8 0).cells (G - n)) 5)) (.slice (some ⟨w.heap.size, 0, none⟩) 0 G) []) := by
      refine Own.made (w := w.drew) _ G (Nat.le_refl _) hle ?_
      rw [Array.size_append, zeroCells_size _ rfl, zeroCells_size _ rfl]
      omega
    have HE : Hid (Ext w (w.drew.alloc (.cells (Builtin.zeroCells (Value.int .u8 0).cells n ++ Builtin.zeroCells (Value.int .u8 0).cells (G - n)) 5))) := Ext.trans (Ext.drewN w 1) (ext_alloc w.drew _)
    generalize w.drew.alloc (.cells (Builtin.zeroCells (Value.int .u8 0).cells n ++ Builtin.zeroCells (Value.int .u8 0).cells (G - n)) 5) = W at *
    unfold maxLen at hle
    clear hG hz0 hz1 hz2 hi
    have h1 : (0 : Int) < n := by omega
    have h2 : decide ((n : Int) < 0) = false := by simp
    go_enter Try.func54, Try.ntmps54
    go_wp2_with (at_builtin; refine Go.Lib.wpList_append_run _ rfl _ _ _ _ rfl _ _ rfl rfl _ _ (hr _) ?_)
    go_ret
    exact ⟨_, rfl, HO.out, HE.out⟩

set_option maxHeartbeats 800000 in
theorem concat_any (v : Value) (zss : List (List Int)) (w : World) (hs : Sls w v zss) (hlen : zss.flatten.length ≤ 10000000) :
    Calls Try.prog 37 #[v] w fun e w' => ∃ s, e = .returned s ∧ Own .u8 5 w.heap.size w' s zss.flatten ∧ Ext w w' := by
  have HS := hide' hs
  obtain ⟨a, c, rfl, hm, _⟩ := hs
  unfold maxLen at hm
  obtain ⟨N, HN⟩ : ∃ n, Hid (zss.length = n) := ⟨_, rfl⟩
  rw [HN.out] at hm HS ⊢
  go_enter Try.func37, Try.ntmps37
  go_wp2
  go_loop [3, 11] (fun vx vk => ∃ (k x : Nat), k ≤ N ∧ x ≤ 10000000 ∧ vx = .int .i64 (x : Int) ∧ vk = .int .i64 k ∧ Hid (x = (zss.take k).flatten.length)) (fun _ vk => N - (intOf vk).toNat)
  case atStart => exact ⟨0, 0, by omega, by omega, rfl, rfl, rfl⟩
  case round =>
    obtain ⟨k, x, hk, hx, rfl, rfl, HX⟩ := hrel
    by_cases hlt : k < N
    · have hlt' : (k : Int) < N := by omega
      have hkz : k < zss.length := by rw [HN.out]; exact hlt
      obtain ⟨g, off, a2, c2, rfl, hc, h10, h9, h8⟩ := HS.out.row hkz
      obtain ⟨zs, HZ⟩ : ∃ zs, Hid (zss.getD k [] = zs) := ⟨_, rfl⟩
      rw [HZ.out] at hc h9
      have HF := hide' (flatten_take hkz HZ.out)
      have hxl : x + zs.length ≤ 10000000 := by
        have h1 := flatten_take_le zss (k + 1)
        rw [HF.out, List.length_append, ← HX.out] at h1
        omega
      have HX' : Hid (x + zs.length = (zss.take (k + 1)).flatten.length) := by show _ = _; rw [HF.out, List.length_append, HX.out]
      clear h8
      unfold maxLen at h10
      have d0 : decide ((x : Int) + (zs.length : Int) < 0) = false := by simp; omega
      go_wp2
      go_round
      case rel => exact ⟨k + 1, x + zs.length, by omega, hxl, by go_num, by go_num, HX'⟩
      case measure => simp [intOf]; omega
    · have hlt' : (N : Int) ≤ k := by omega
      go_wp2_with fail
      refine (grow_any x w hx).mono ?_
      rintro e w1 ⟨s0, rfl, ho, he⟩
      have HO := hide' ho
      have HE := hide' he
      clear ho he
      go_wp2
      go_loopw [6, 27] (fun sv vk wr => ∃ (j : Nat), j ≤ N ∧ vk = .int .i64 j ∧ Hid (Own .u8 5 w.heap.size wr sv (zss.take j).flatten) ∧ Hid (Ext w wr)) (fun _ vk _ => N - (intOf vk).toNat)
      case atStart => exact ⟨0, by omega, rfl, HO.out, HE⟩
      case round =>
        obtain ⟨j, hj, rfl, HO2, HE2⟩ := hrel
        by_cases hltj : j < N
        · have hltj' : (j : Int) < N := by omega
          have hjz : j < zss.length := by rw [HN.out]; exact hltj
          obtain ⟨g, off, a2, c2, rfl, hc, h10, h9, h8⟩ := (HS.out.ext HE2.out).row hjz
          obtain ⟨zs, HZ⟩ : ∃ zs, Hid (zss.getD j [] = zs) := ⟨_, rfl⟩
          rw [HZ.out] at hc h9 h8
          have H8 := hide' h8
          have HF := hide' (flatten_take hjz HZ.out)
          have HL : Hid ((zss.take j).flatten.length + zs.length ≤ 10000000) := by
            have h1 := flatten_take_le zss (j + 1)
            rw [HF.out, List.length_append] at h1
            show _ ≤ _
            omega
          clear h8
          unfold maxLen at h10
          go_wp2_with (at_builtin; refine wpList_join _ rfl _ _ 31 rfl 5 .u8 1 Try.underlying31 infoU8 w.heap.size _ _ (zss.take j).flatten zs rfl rfl HO2.out H8.out ?c1 HE2.out.size ?_)
          case c1 => have := HL.out; unfold maxLen; omega
          intro v1 w2 ho1 hb1
          rw [← HF.out] at ho1
          have HO1 := hide' ho1
          have HE1 := hide' (Below.trans HE2.out hb1)
          clear ho1 hb1
          go_wp2
          go_roundw
          case rel => exact ⟨j + 1, by omega, by go_num, HO1, HE1⟩
          case measure => simp [intOf]; omega
        · have hltj' : (N : Int) ≤ j := by omega
          have HD : Hid ((zss.take j).flatten = zss.flatten) := by show _ = _; rw [List.take_of_length_le (by rw [HN.out]; omega)]
          rw [HD.out] at HO2
          go_wp2
          go_ret
          exact ⟨_, rfl, HO2.out, HE2.out⟩
end Go.Proofs.Ytjccpkekhjhafaa
