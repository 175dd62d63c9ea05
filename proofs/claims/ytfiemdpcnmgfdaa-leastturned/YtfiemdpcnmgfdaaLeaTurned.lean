/- LeastTurned: the walk. -/
import Derived.Test.YtfiemdpcnmgfdaaLeaOf
namespace Go.Proofs.Ytfiemdpcnmgfdaa
set_option linter.unusedVariables false
set_option linter.unusedSimpArgs false
open Go.RowKit

/-- What the calls of the region hand back. -/
def turnedS (zs : List Int) (k : Nat) (f : FuncId) (v : Value) (w : World) : Prop :=
  match f with
  | 13 => Sl .u8 w v (turnI zs k)
  | 9 => Sl .u8 w v (ofI zs)
  | _ => v = .bool true
theorem turnedS_1 {zs : List Int} {k : Nat} {v : Value} {w : World} : turnedS zs k 13 v w ↔ Sl .u8 w v (turnI zs k) := Iff.rfl
theorem turnedS_2 {zs : List Int} {k : Nat} {v : Value} {w : World} : turnedS zs k 9 v w ↔ Sl .u8 w v (ofI zs) := Iff.rfl
theorem turnedS_3 {zs : List Int} {k : Nat} {v : Value} {w : World} : turnedS zs k 11 v w ↔ v = .bool true := Iff.rfl
theorem turnedS_4 {zs : List Int} {k : Nat} {v : Value} {w : World} : turnedS zs k 12 v w ↔ v = .bool true := Iff.rfl

set_option maxHeartbeats 1000000 in
theorem lawTurned (v : Value) (zs : List Int) (k : Int) (w : World) (hs : Sl .u8 w v zs) :
    Calls Try.prog 4 #[v, .int .i64 k] w fun e w' => e = .returned (.bool true) ∧ Ext w w' := by
  have HS := hide' hs
  obtain ⟨a, cap, rfl, hm2, hm3, _⟩ := hs
  unfold maxLen at hm3
  by_cases h0 : (zs.length : Int) < 1
  · go_enter Try.func4, Try.ntmps4
    go_wp2
    go_ret
    exact ⟨rfl, Ext.refl _⟩
  have d0 : decide ((zs.length : Int) < 1) = false := by simpa using h0
  by_cases h1 : (200 : Int) < (zs.length : Int)
  · go_enter Try.func4, Try.ntmps4
    go_wp2
    go_ret
    exact ⟨rfl, Ext.refl _⟩
  have d1 : decide ((200 : Int) < (zs.length : Int)) = false := by simpa using h1
  by_cases h2 : k < 0
  · go_enter Try.func4, Try.ntmps4
    go_wp2
    go_ret
    exact ⟨rfl, Ext.refl _⟩
  have d2 : decide (k < 0) = false := by simpa using h2
  by_cases h3 : (zs.length : Int) ≤ k
  · go_enter Try.func4, Try.ntmps4
    go_wp2
    go_ret
    exact ⟨rfl, Ext.refl _⟩
  have d3 : decide ((zs.length : Int) ≤ k) = false := by simpa using h3
  obtain ⟨k, rfl⟩ := Int.eq_ofNat_of_zero_le (show 0 ≤ k by omega)
  have hlen : zs.length ≤ 1000000 := by omega
  have hk : k < zs.length := by omega
  have HT := hide' (ofI_turn hk)
  have HTL : Hid ((turnI zs k).length ≤ 1000000) := by show _ ≤ _; rw [turnI_len (Nat.le_of_lt hk)]; exact hlen
  have HOL : Hid ((ofI zs).length ≤ 1000000) := by show _ ≤ _; rw [ofI_len]; exact hlen
  have HZ := hide' (atI_of zs)
  clear h0 h1 h2 h3
  go_enter Try.func4, Try.ntmps4
  go_wp2_with fail
  refine (of_any _ zs w HS.out hlen).mono ?_
  rintro e w1 ⟨s, rfl, ho, he⟩
  have HO := hide' ho.sl
  have X1 := hide' he
  have HS1 := hide' (HS.out.ext he)
  clear ho he
  go_wp2_with fail
  have hne := later_some w1
  have hcv := later_str (P := Try.prog) HO.out 22 5 9 Try.underlying22 Try.underlying5 Try.underlying9
  have q1 : ((strOfNums (ofI zs)).toList == (strOfNums (ofI zs)).toList) = true := by simp
  refine wp_region_k (fun f args v w => turnedS zs k f v w) (by kernel_rfl) (by kernel_rfl) (by kernel_rfl) ?_
  refine lexK_take 2 (by kernel_rfl) ?_
  simp only [List.take_succ_cons, List.take_zero, List.drop_succ_cons, List.drop_zero]
  repeat (go_big_quiet_step (fail))
  refine wpQuiet_nil ?_
  refine lexK_call 13 #[.slice a zs.length cap, .int .i64 (k : Int)] (fun v w1 w2 h12 h => turnedS_1.2 (Sl.ext (turnedS_1.1 h) h12)) rfl (fun w' => ?_) (fun w' he' _ => (rturn_any _ zs k w' (HS1.out.ext he') (Nat.le_of_lt hk) hlen).mono fun e w'' ⟨s, h1, h2, h3⟩ => ⟨s, h1, h3, turnedS_1.2 h2.sl⟩) ?_
  · go_simp
  intro u w2 _ _ hu
  clear hu
  simp only [Act.put, List.setIfInBounds_toArray, List.set_cons_succ, List.set_cons_zero]
  refine lexK_call 9 #[u] (fun v w1 w2 h12 h => turnedS_2.2 (Sl.ext (turnedS_2.1 h) h12)) rfl (fun w' => ?_) (fun w' he' hf' => ?_) ?_
  · go_simp
  · refine (of_any u (turnI zs k) w' (turnedS_1.1 ((hf' 28 (by decide)).2 rfl)) HTL.out).mono ?_
    rintro e w'' ⟨s, h1, h2, h3⟩
    rw [HT.out] at h2
    exact ⟨s, h1, h3, turnedS_2.2 h2.sl⟩
  intro u2 w3 _ _ hu2
  clear hu2
  refine lexK_val (.string (strOfNums (ofI zs))) rfl (fun w6 he6 hf6 => ?_) ?_
  · exact run_convert_op rfl rfl ((turnedS_2.1 ((hf6 29 (by decide)).2 rfl)).str _ 5 _ Try.underlying22 Try.underlying5 Try.underlying9)
  simp only [Act.put, List.setIfInBounds_toArray, List.set_cons_succ, List.set_cons_zero]
  refine lexK_take 5 (by kernel_rfl) ?_
  simp only [List.take_succ_cons, List.take_zero, List.drop_succ_cons, List.drop_zero]
  repeat (go_big_quiet_step (fail))
  refine wpQuiet_nil ?_
  refine lexK_call1 11 #[s] (.bool true) (fun _ _ => turnedS_3) rfl (fun w' => ?_) (fun w' he' _ => ?_) ?_
  · go_simp
  · refine (is_any s (ofI zs) w' (HO.out.ext he') HOL.out).mono ?_
    rw [HZ.out]
    rintro e w'' ⟨h1, h2⟩
    exact ⟨h1, by rw [h2]; exact Ext.refl _⟩
  simp only [Act.put, List.setIfInBounds_toArray, List.set_cons_succ, List.set_cons_zero]
  refine lexK_take 2 (by kernel_rfl) ?_
  simp only [List.take_succ_cons, List.take_zero, List.drop_succ_cons, List.drop_zero]
  repeat (go_big_quiet_step (fail))
  refine wpQuiet_nil ?_
  refine lexK_call1 12 #[] (.bool true) (fun _ _ => turnedS_4) rfl (fun w' => ?_) (fun w' _ _ => known_any w') ?_
  · go_simp
  simp only [Act.put, List.setIfInBounds_toArray, List.set_cons_succ, List.set_cons_zero]
  refine lexK_take 2 (by kernel_rfl) ?_
  simp only [List.take_succ_cons, List.take_zero, List.drop_succ_cons, List.drop_zero]
  repeat (go_big_quiet_step (fail))
  refine wpQuiet_nil ?_
  refine lexK_nil ?_
  intro w7 he7 _
  clear hcv hne q1
  go_wp2
  go_ret
  exact ⟨rfl, Ext.trans X1.out he7⟩
end Go.Proofs.Ytfiemdpcnmgfdaa
