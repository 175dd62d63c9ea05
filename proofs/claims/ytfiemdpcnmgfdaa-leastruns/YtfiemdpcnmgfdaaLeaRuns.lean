/- LeastRuns: the walk. -/
import Derived.Test.YtfiemdpcnmgfdaaLeaOf
namespace Go.Proofs.Ytfiemdpcnmgfdaa
set_option linter.unusedVariables false
set_option linter.unusedSimpArgs false
open Go.RowKit

/-- What the calls of the region hand back. -/
def runsS (xs : List Int) (p : Nat) (f : FuncId) (v : Value) (w : World) : Prop :=
  match f with
  | 7 => v = .int .i64 (p : Int)
  | 9 => Sl .u8 w v xs
  | 13 => Sl .u8 w v xs
  | _ => v = .bool true
theorem runsS_1 {xs : List Int} {p : Nat} {v : Value} {w : World} : runsS xs p 7 v w ↔ v = .int .i64 (p : Int) := Iff.rfl
theorem runsS_2 {xs : List Int} {p : Nat} {v : Value} {w : World} : runsS xs p 9 v w ↔ Sl .u8 w v xs := Iff.rfl
theorem runsS_3 {xs : List Int} {p : Nat} {v : Value} {w : World} : runsS xs p 13 v w ↔ Sl .u8 w v xs := Iff.rfl
theorem runsS_4 {xs : List Int} {p : Nat} {v : Value} {w : World} : runsS xs p 12 v w ↔ v = .bool true := Iff.rfl

set_option maxHeartbeats 1000000 in
theorem lawRuns (v : Value) (zs : List Int) (n : Int) (w : World) (hs : Sl .u8 w v zs) :
    Calls Try.prog 6 #[v, .int .i64 n] w fun e w' => e = .returned (.bool true) ∧ Ext w w' := by
  have HS := hide' hs
  obtain ⟨a, cap, rfl, hm2, hm3, _⟩ := hs
  unfold maxLen at hm3
  by_cases h0 : (zs.length : Int) < 1
  · go_enter Try.func6, Try.ntmps6
    go_wp2
    go_ret
    exact ⟨rfl, Ext.refl _⟩
  have d0 : decide ((zs.length : Int) < 1) = false := by simpa using h0
  by_cases h1 : (20 : Int) < (zs.length : Int)
  · go_enter Try.func6, Try.ntmps6
    go_wp2
    go_ret
    exact ⟨rfl, Ext.refl _⟩
  have d1 : decide ((20 : Int) < (zs.length : Int)) = false := by simpa using h1
  by_cases h2 : n < 1
  · go_enter Try.func6, Try.ntmps6
    go_wp2
    go_ret
    exact ⟨rfl, Ext.refl _⟩
  have d2 : decide (n < 1) = false := by simpa using h2
  by_cases h3 : 8 < n
  · go_enter Try.func6, Try.ntmps6
    go_wp2
    go_ret
    exact ⟨rfl, Ext.refl _⟩
  have d3 : decide (8 < n) = false := by simpa using h3
  obtain ⟨n, rfl⟩ := Int.eq_ofNat_of_zero_le (show 0 ≤ n by omega)
  have l0 : 1 ≤ zs.length := by omega
  have l1 : zs.length ≤ 20 := by omega
  have l2 : 1 ≤ n := by omega
  have l3 : n ≤ 8 := by omega
  clear h0 h1 h2 h3
  have L1 : Hid (zs.length ≤ 1000000) := by show _ ≤ _; omega
  have L2 : Hid ((repI zs n).length ≤ 1000000) := by
    have : n * zs.length ≤ 8 * 20 := Nat.mul_le_mul l3 l1
    show _ ≤ _
    rw [repI_len]; omega
  have HA := hide' (atI_rep (x := zs) (n := n) (by omega) (by omega))
  have hp := (atI_spec (s := zs) (by omega)).1
  have HX : Hid (ofI (repI zs n) = turnI (repI zs n) (atI (repI zs n))) := rfl
  have HPL : Hid (atI (repI zs n) ≤ (repI zs n).length) := atI_le _
  obtain ⟨p, HP⟩ : ∃ p, Hid (atI zs = p) := ⟨_, rfl⟩
  rw [HP.out] at HA hp
  rw [HA.out] at HX HPL
  obtain ⟨xs, HXS⟩ : ∃ xs, Hid (turnI (repI zs n) p = xs) := ⟨_, rfl⟩
  rw [HXS.out] at HX
  have hp' : (p : Int) < (zs.length : Int) := by omega
  go_enter Try.func6, Try.ntmps6
  go_wp2
  go_loopw [5, 6] (fun sv vk wr => ∃ (k : Nat), k ≤ n ∧ vk = .int .i64 k ∧ Hid (Own .u8 5 w.heap.size wr sv (repI zs k)) ∧ Hid (Ext w wr)) (fun _ vk _ => n - (intOf vk).toNat)
  case atStart => exact ⟨0, Nat.zero_le _, rfl, Own.nil _ _ _ _, Ext.refl _⟩
  case round =>
    obtain ⟨k, hk, rfl, HO, HE⟩ := hrel
    by_cases hlt : k < n
    · have hlt' : (k : Int) < n := by omega
      have HL : Hid ((repI zs k).length + zs.length ≤ 240) := by
        have h1 : (k + 1) * zs.length ≤ 8 * 20 := Nat.mul_le_mul (by omega) l1
        rw [Nat.succ_mul] at h1
        show _ ≤ _
        rw [repI_len]; omega
      go_wp2_with (at_builtin; refine wpList_join _ rfl _ _ 22 rfl 5 .u8 1 Try.underlying22 infoU8 w.heap.size _ _ (repI zs k) zs rfl rfl HO.out (HS.out.ext HE.out) ?c1 HE.out.size ?_)
      case c1 => have := HL.out; unfold maxLen; omega
      intro v1 w1 ho1 hb1
      rw [← repI_succ] at ho1
      have HO1 := hide' ho1
      have HE1 := hide' (Below.trans HE.out hb1)
      clear ho1 hb1
      go_wp2
      go_roundw
      case rel => exact ⟨k + 1, by omega, by go_num, HO1, HE1⟩
      case measure => simp [intOf]; omega
    · have hlt' : (n : Int) ≤ k := by omega
      have hkn : k = n := by omega
      subst hkn
      have HSl := hide' HO.out.sl
      have HSz := hide' (HS.out.ext HE.out)
      go_wp2_with fail
      refine (at_any _ (repI zs k) wr HSl.out L2.out).mono ?_
      rw [HA.out]
      rintro e w1 ⟨rfl, rfl⟩
      obtain ⟨N, HN⟩ : ∃ N, Hid (zs.length = N) := ⟨_, rfl⟩
      rw [HN.out] at HSz hp' hp ⊢
      go_wp2_with fail
      have hne := later_some w1
      have q1 : ((strOfNums xs).toList == (strOfNums xs).toList) = true := by simp
      have q2 : ((p : Int) == (p : Int)) = true := by simp
      refine wp_region_k (fun f args v w => runsS xs p f v w) (by kernel_rfl) (by kernel_rfl) (by kernel_rfl) ?_
      refine lexK_take 2 (by kernel_rfl) ?_
      simp only [List.take_succ_cons, List.take_zero, List.drop_succ_cons, List.drop_zero]
      repeat (go_big_quiet_step (fail))
      refine wpQuiet_nil ?_
      refine lexK_call1 7 #[.slice a N cap] (.int .i64 (p : Int)) (fun _ _ => runsS_1) rfl (fun w' => ?_) (fun w' he' _ => ?_) ?_
      · go_simp
      · refine (at_any _ zs w' (HSz.out.ext he') L1.out).mono ?_
        rw [HP.out]
        rintro e w'' ⟨h1, h2⟩
        exact ⟨h1, by rw [h2]; exact Ext.refl _⟩
      simp only [Act.put, List.setIfInBounds_toArray, List.set_cons_succ, List.set_cons_zero]
      refine lexK_take 9 (by kernel_rfl) ?_
      simp only [List.take_succ_cons, List.take_zero, List.drop_succ_cons, List.drop_zero]
      repeat (go_big_quiet_step (fail))
      refine wpQuiet_nil ?_
      refine lexK_call 9 #[u5] (fun v w1 w2 h12 h => runsS_2.2 (Sl.ext (runsS_2.1 h) h12)) rfl (fun w' => ?_) (fun w' he' _ => ?_) ?_
      · go_simp
      · refine (of_any _ (repI zs k) w' (HSl.out.ext he') L2.out).mono ?_
        rw [HX.out]
        rintro e w'' ⟨s, h1, h2, h3⟩
        exact ⟨s, h1, h3, runsS_2.2 h2.sl⟩
      intro u w2 _ _ hu
      clear hu
      refine lexK_val (.string (strOfNums xs)) rfl (fun w6 he6 hf6 => ?_) ?_
      · exact run_convert_op rfl rfl ((runsS_2.1 ((hf6 46 (by decide)).2 rfl)).str _ 5 _ Try.underlying22 Try.underlying5 Try.underlying9)
      simp only [Act.put, List.setIfInBounds_toArray, List.set_cons_succ, List.set_cons_zero]
      refine lexK_take 2 (by kernel_rfl) ?_
      simp only [List.take_succ_cons, List.take_zero, List.drop_succ_cons, List.drop_zero]
      repeat (go_big_quiet_step (fail))
      refine wpQuiet_nil ?_
      refine lexK_call 13 #[u5, .int .i64 (p : Int)] (fun v w1 w2 h12 h => runsS_3.2 (Sl.ext (runsS_3.1 h) h12)) rfl (fun w' => ?_) (fun w' he' _ => ?_) ?_
      · go_simp
      · refine (rturn_any _ (repI zs k) p w' (HSl.out.ext he') HPL.out L2.out).mono ?_
        rw [HXS.out]
        rintro e w'' ⟨s, h1, h2, h3⟩
        exact ⟨s, h1, h3, runsS_3.2 h2.sl⟩
      intro u2 w3 _ _ hu2
      clear hu2
      refine lexK_val (.string (strOfNums xs)) rfl (fun w6 he6 hf6 => ?_) ?_
      · exact run_convert_op rfl rfl ((runsS_3.1 ((hf6 50 (by decide)).2 rfl)).str _ 5 _ Try.underlying22 Try.underlying5 Try.underlying9)
      simp only [Act.put, List.setIfInBounds_toArray, List.set_cons_succ, List.set_cons_zero]
      refine lexK_take 3 (by kernel_rfl) ?_
      simp only [List.take_succ_cons, List.take_zero, List.drop_succ_cons, List.drop_zero]
      repeat (go_big_quiet_step (fail))
      refine wpQuiet_nil ?_
      refine lexK_call1 12 #[] (.bool true) (fun _ _ => runsS_4) rfl (fun w' => ?_) (fun w' _ _ => known_any w') ?_
      · go_simp
      simp only [Act.put, List.setIfInBounds_toArray, List.set_cons_succ, List.set_cons_zero]
      refine lexK_take 2 (by kernel_rfl) ?_
      simp only [List.take_succ_cons, List.take_zero, List.drop_succ_cons, List.drop_zero]
      repeat (go_big_quiet_step (fail))
      refine wpQuiet_nil ?_
      refine lexK_nil ?_
      intro w7 he7 _
      clear hne q1 q2
      go_wp2
      go_ret
      exact ⟨rfl, HE.out.trans he7⟩
end Go.Proofs.Ytfiemdpcnmgfdaa
