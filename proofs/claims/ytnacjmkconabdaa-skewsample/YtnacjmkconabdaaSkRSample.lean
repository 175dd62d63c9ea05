/- Contract of the document's own Sample: whorlref14.Sample. -/
import Derived.Test.YtnacjmkconabdaaSkTwo
namespace Go.Proofs.Ytnacjmkconabdaa
set_option linter.unusedVariables false
set_option linter.unusedSimpArgs false
open Go.RowKit

set_option maxHeartbeats 1000000 in
theorem rsample_any (z : Int) (w : World) :
    Calls Try.prog 16 #[.int .i64 z] w fun e w' => ∃ u, e = .returned u ∧ Own .i64 3 w.heap.size w' u (smpI z) ∧ Ext w w' := by
  by_cases h0 : z < 0
  · have HS : Hid (smpI z = []) := if_neg (by omega)
    rw [HS.out]
    go_enter Try.func16, Try.ntmps16
    go_wp2
    go_ret
    exact ⟨_, rfl, Own.nil _ _ _ _, Ext.refl _⟩
  · have d0 : decide (z < 0) = false := by simp; omega
    by_cases h1 : 100000 < z
    · have HS : Hid (smpI z = []) := if_neg (by omega)
      rw [HS.out]
      go_enter Try.func16, Try.ntmps16
      go_wp2
      go_ret
      exact ⟨_, rfl, Own.nil _ _ _ _, Ext.refl _⟩
    · have d1 : decide (100000 < z) = false := by simp; omega
      obtain ⟨n, rfl⟩ := Int.eq_ofNat_of_zero_le (show 0 ≤ z by omega)
      have HS : Hid (smpI (n : Int) = natL (twoN n)) := by
        show _ = _
        unfold smpI
        rw [if_pos (by omega), Int.toNat_natCast]
      rw [HS.out]
      have hn : n ≤ 100000 := by omega
      clear h0 h1
      go_enter Try.func16, Try.ntmps16
      go_wp2
      go_loopw [3, 4] (fun ov vi wr => ∃ (i r : Nat), i ≤ 2 ∧ r ≤ 3 ∧ Hid (r = i + 1) ∧ vi = .int .i64 r ∧ Hid (Own .i64 3 w.heap.size wr ov (firT n (bas n i))) ∧ Hid (Ext w wr)) (fun _ vi _ => 3 - (intOf vi).toNat)
      case atStart => exact ⟨0, 1, Nat.zero_le _, by omega, rfl, rfl, Own.nil _ _ _ _, Ext.refl _⟩
      case round =>
        clear d0 d1
        obtain ⟨i, r, hi, hr, HR, rfl, HO, HE⟩ := hrel
        by_cases hlt : i < 2
        · have hlt' : (r : Int) ≤ 2 := by have := HR.out; omega
          have HBL := hide' (bas_le (n := n) hlt)
          go_wp2
          go_loopw [3, 5] (fun ov vp wr => ∃ (q p : Nat), p ≤ n + 3 ∧ Hid (p = 3 * q + (i + 1)) ∧ Hid (bas n i + q ≤ bas n (i + 1)) ∧ vp = .int .i64 p ∧ Hid (Own .i64 3 w.heap.size wr ov (firT n (bas n i + q))) ∧ Hid (Ext w wr)) (fun _ vp _ => n + 3 - (intOf vp).toNat)
          case atStart => exact ⟨0, r, by omega, (show _ = _ by rw [HR.out]; omega), (show _ ≤ _ by have := HBL.out; omega), rfl, HO, HE⟩
          case round =>
            clear HO HE
            obtain ⟨q, p, hp, HP, HQ, rfl, HO, HE⟩ := hrel
            have hsz := HE.out.size
            by_cases hpn : p < n
            · have hpn' : (p : Int) < n := by omega
              have HB2 : Hid (bas n i + q < bas n (i + 1)) := (bas_lt hlt).1 (by rw [← HP.out]; exact hpn)
              have HL : Hid ((firT n (bas n i + q)).length ≤ 1000000) := by
                show _ ≤ _
                rw [firT_len]
                have := HB2.out
                have := HBL.out
                omega
              have HZ := hide' (firT_succ hlt HB2.out HP.out)
              obtain ⟨Z, HZZ⟩ : ∃ Z, Hid (firT n (bas n i + q) = Z) := ⟨_, rfl⟩
              rw [HZZ.out] at HL HZ HO
              go_wp2_with (at_builtin; refine wpList_snoc _ rfl _ _ 22 rfl 3 .i64 8 Try.underlying22 infoI64 w.heap.size _ Z (p : Int) ⟨wr.heap.size, 0, none⟩ rfl rfl ?c4 (HO.out.alloc _) ?c3 ?c5 ?_)
              case c3 => have := HL.out; unfold maxLen; omega
              case c5 => simp; omega
              case c4 => simp only [World.cell?, heap_alloc_top]; simp
              intro v1 w4 ho1 hb1
              have HO1 : Hid (Own .i64 3 w.heap.size w4 v1 (firT n (bas n i + (q + 1)))) := by rw [← HZ.out]; exact ho1
              have HE1 : Hid (Ext w w4) := Below.trans (HE.out.trans (ext_alloc _ _)) hb1
              clear ho1 hb1
              go_wp2
              go_roundw
              case rel => exact ⟨q + 1, p + 3, by omega, (show _ = _ by rw [HP.out]; omega), (show _ ≤ _ by have := HB2.out; omega), by go_num, HO1, HE1⟩
              case measure => simp [intOf] <;> omega
            · have d1 : decide ((p : Int) < n) = false := by simp; omega
              have HB2 : Hid (bas n i + q = bas n (i + 1)) := by
                show _ = _
                have h1 := HQ.out
                have h2 : ¬ bas n i + q < bas n (i + 1) := fun g => by
                  have := (bas_lt hlt).2 g
                  rw [← HP.out] at this
                  omega
                omega
              rw [HB2.out] at HO
              go_wp2
              go_roundw
              case rel => exact ⟨i + 1, r + 1, by omega, by omega, (show _ = _ by rw [HR.out]), by go_num, HO, HE⟩
              case measure => simp [intOf] <;> omega
        · have d1 : decide ((r : Int) ≤ 2) = false := by have := HR.out; simp; omega
          have hi2 : i = 2 := by omega
          subst hi2
          clear hlt
          go_wp2
          go_ret
          exact ⟨_, rfl, by rw [← firT_all]; exact HO.out, HE.out⟩
end Go.Proofs.Ytnacjmkconabdaa
