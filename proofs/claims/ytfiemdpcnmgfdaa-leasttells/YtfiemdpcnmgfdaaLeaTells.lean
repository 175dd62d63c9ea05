/- LeastTells: the walk. -/
import Derived.Test.YtfiemdpcnmgfdaaLeaOf
namespace Go.Proofs.Ytfiemdpcnmgfdaa
set_option linter.unusedVariables false
set_option linter.unusedSimpArgs false
open Go.RowKit

/-- What the calls of the region hand back. -/
def tellsS (zs : List Int) (p : Nat) (f : FuncId) (v : Value) (w : World) : Prop :=
  match f with
  | 7 => v = .int .i64 (p : Int)
  | 8 => v = .int .i64 (p : Int)
  | 9 => Sl .u8 w v (ofI zs)
  | 10 => Sl .u8 w v (ofI zs)
  | 11 => v = .bool ((p : Int) == 0)
  | _ => v = .bool true
theorem tellsS_1 {zs : List Int} {p : Nat} {v : Value} {w : World} : tellsS zs p 7 v w ↔ v = .int .i64 (p : Int) := Iff.rfl
theorem tellsS_2 {zs : List Int} {p : Nat} {v : Value} {w : World} : tellsS zs p 8 v w ↔ v = .int .i64 (p : Int) := Iff.rfl
theorem tellsS_3 {zs : List Int} {p : Nat} {v : Value} {w : World} : tellsS zs p 9 v w ↔ Sl .u8 w v (ofI zs) := Iff.rfl
theorem tellsS_4 {zs : List Int} {p : Nat} {v : Value} {w : World} : tellsS zs p 10 v w ↔ Sl .u8 w v (ofI zs) := Iff.rfl
theorem tellsS_5 {zs : List Int} {p : Nat} {v : Value} {w : World} : tellsS zs p 11 v w ↔ v = .bool ((p : Int) == 0) := Iff.rfl
theorem tellsS_6 {zs : List Int} {p : Nat} {v : Value} {w : World} : tellsS zs p 12 v w ↔ v = .bool true := Iff.rfl

set_option maxHeartbeats 1000000 in
theorem lawTells (v : Value) (zs : List Int) (w : World) (hs : Sl .u8 w v zs) :
    Calls Try.prog 3 #[v] w fun e w' => e = .returned (.bool true) ∧ Ext w w' := by
  have HS := hide' hs
  obtain ⟨a, cap, rfl, hm2, hm3, _⟩ := hs
  unfold maxLen at hm3
  by_cases h1 : (150 : Int) < (zs.length : Int)
  · go_enter Try.func3, Try.ntmps3
    go_wp2
    go_ret
    exact ⟨rfl, Ext.refl _⟩
  have d1 : decide ((150 : Int) < (zs.length : Int)) = false := by simpa using h1
  have hlen : zs.length ≤ 1000000 := by omega
  clear h1
  obtain ⟨p, HP⟩ : ∃ p, Hid (atI zs = p) := ⟨_, rfl⟩
  have C1 : Hid (∀ w', Ext w w' → Calls Try.prog 7 #[.slice a zs.length cap] w' fun e w'' => e = .returned (.int .i64 (p : Int)) ∧ Ext w' w'') := fun w' he => by
    have := at_any _ zs w' (HS.out.ext he) hlen
    rw [HP.out] at this
    exact this.mono fun e w'' ⟨h1, h2⟩ => ⟨h1, by rw [h2]; exact Ext.refl _⟩
  have C2 : Hid (∀ w', Ext w w' → Calls Try.prog 8 #[.slice a zs.length cap] w' fun e w'' => e = .returned (.int .i64 (p : Int)) ∧ Ext w' w'') := fun w' he => by
    have := rat_any _ zs w' (HS.out.ext he) hlen
    rw [HP.out] at this
    exact this
  have C5 : Hid (∀ w', Ext w w' → Calls Try.prog 11 #[.slice a zs.length cap] w' fun e w'' => e = .returned (.bool ((p : Int) == 0)) ∧ Ext w' w'') := fun w' he => by
    have := is_any _ zs w' (HS.out.ext he) hlen
    rw [HP.out] at this
    refine this.mono fun e w'' ⟨h1, h2⟩ => ⟨?_, by rw [h2]; exact Ext.refl _⟩
    rw [h1]
    congr 2
    rw [Bool.eq_iff_iff]; simp
  obtain ⟨n, HN⟩ : ∃ n, Hid (zs.length = n) := ⟨_, rfl⟩
  rw [HN.out] at C1 C2 C5 HS d1 hlen hm2 ⊢
  go_enter Try.func3, Try.ntmps3
  go_wp2_with fail
  have hne := later_some w
  have q1 : ((strOfNums (ofI zs)).toList == (strOfNums (ofI zs)).toList) = true := by simp
  have q2 : ((p : Int) == (p : Int)) = true := by simp
  obtain ⟨z, HZ⟩ : ∃ z, Hid (((p : Int) == 0) = z) := ⟨_, rfl⟩
  have q3 : ((p : Int) == 0) = z := HZ.out
  have q4 : (z == z) = true := by simp
  refine wp_region_k (fun f args v w => tellsS zs p f v w) (by kernel_rfl) (by kernel_rfl) (by kernel_rfl) ?_
  refine lexK_take 1 (by kernel_rfl) ?_
  simp only [List.take_succ_cons, List.take_zero, List.drop_succ_cons, List.drop_zero]
  repeat (go_big_quiet_step (fail))
  refine wpQuiet_nil ?_
  refine lexK_call1 7 #[.slice a n cap] (.int .i64 (p : Int)) (fun _ _ => tellsS_1) rfl (fun w' => ?_) (fun w' he' _ => C1.out w' he') ?_
  · go_simp
  simp only [Act.put, List.setIfInBounds_toArray, List.set_cons_succ, List.set_cons_zero]
  refine lexK_take 1 (by kernel_rfl) ?_
  simp only [List.take_succ_cons, List.take_zero, List.drop_succ_cons, List.drop_zero]
  repeat (go_big_quiet_step (fail))
  refine wpQuiet_nil ?_
  refine lexK_call1 8 #[.slice a n cap] (.int .i64 (p : Int)) (fun _ _ => tellsS_2) rfl (fun w' => ?_) (fun w' he' _ => C2.out w' he') ?_
  · go_simp
  simp only [Act.put, List.setIfInBounds_toArray, List.set_cons_succ, List.set_cons_zero]
  refine lexK_take 3 (by kernel_rfl) ?_
  simp only [List.take_succ_cons, List.take_zero, List.drop_succ_cons, List.drop_zero]
  repeat (go_big_quiet_step (fail))
  refine wpQuiet_nil ?_
  refine lexK_call 9 #[.slice a n cap] (fun v w1 w2 h12 h => tellsS_3.2 (Sl.ext (tellsS_3.1 h) h12)) rfl (fun w' => ?_) (fun w' he' _ => (of_any _ zs w' (HS.out.ext he') (by rw [HN.out]; exact hlen)).mono fun e w'' ⟨s, h1, h2, h3⟩ => ⟨s, h1, h3, tellsS_3.2 h2.sl⟩) ?_
  · go_simp
  intro u w2 _ _ hu
  clear hu
  refine lexK_val (.string (strOfNums (ofI zs))) rfl (fun w6 he6 hf6 => ?_) ?_
  · exact run_convert_op rfl rfl ((tellsS_3.1 ((hf6 13 (by decide)).2 rfl)).str _ 5 _ Try.underlying22 Try.underlying5 Try.underlying9)
  simp only [Act.put, List.setIfInBounds_toArray, List.set_cons_succ, List.set_cons_zero]
  refine lexK_take 1 (by kernel_rfl) ?_
  simp only [List.take_succ_cons, List.take_zero, List.drop_succ_cons, List.drop_zero]
  repeat (go_big_quiet_step (fail))
  refine wpQuiet_nil ?_
  refine lexK_call 10 #[.slice a n cap] (fun v w1 w2 h12 h => tellsS_4.2 (Sl.ext (tellsS_4.1 h) h12)) rfl (fun w' => ?_) (fun w' he' _ => (rof_any _ zs w' (HS.out.ext he') (by rw [HN.out]; exact hlen)).mono fun e w'' ⟨s, h1, h2, h3⟩ => ⟨s, h1, h3, tellsS_4.2 h2.sl⟩) ?_
  · go_simp
  intro u2 w3 _ _ hu2
  clear hu2
  refine lexK_val (.string (strOfNums (ofI zs))) rfl (fun w6 he6 hf6 => ?_) ?_
  · exact run_convert_op rfl rfl ((tellsS_4.1 ((hf6 16 (by decide)).2 rfl)).str _ 5 _ Try.underlying22 Try.underlying5 Try.underlying9)
  simp only [Act.put, List.setIfInBounds_toArray, List.set_cons_succ, List.set_cons_zero]
  refine lexK_take 4 (by kernel_rfl) ?_
  simp only [List.take_succ_cons, List.take_zero, List.drop_succ_cons, List.drop_zero]
  repeat (go_big_quiet_step (fail))
  refine wpQuiet_nil ?_
  refine lexK_call1 11 #[.slice a n cap] (.bool ((p : Int) == 0)) (fun _ _ => tellsS_5) rfl (fun w' => ?_) (fun w' he' _ => C5.out w' he') ?_
  · go_simp
  rw [HZ.out]
  simp only [Act.put, List.setIfInBounds_toArray, List.set_cons_succ, List.set_cons_zero]
  refine lexK_take 1 (by kernel_rfl) ?_
  simp only [List.take_succ_cons, List.take_zero, List.drop_succ_cons, List.drop_zero]
  repeat (go_big_quiet_step (fail))
  refine wpQuiet_nil ?_
  refine lexK_call1 8 #[.slice a n cap] (.int .i64 (p : Int)) (fun _ _ => tellsS_2) rfl (fun w' => ?_) (fun w' he' _ => C2.out w' he') ?_
  · go_simp
  simp only [Act.put, List.setIfInBounds_toArray, List.set_cons_succ, List.set_cons_zero]
  refine lexK_take 4 (by kernel_rfl) ?_
  simp only [List.take_succ_cons, List.take_zero, List.drop_succ_cons, List.drop_zero]
  repeat (go_big_quiet_step (fail))
  refine wpQuiet_nil ?_
  refine lexK_call1 12 #[] (.bool true) (fun _ _ => tellsS_6) rfl (fun w' => ?_) (fun w' _ _ => known_any w') ?_
  · go_simp
  simp only [Act.put, List.setIfInBounds_toArray, List.set_cons_succ, List.set_cons_zero]
  refine lexK_take 2 (by kernel_rfl) ?_
  simp only [List.take_succ_cons, List.take_zero, List.drop_succ_cons, List.drop_zero]
  repeat (go_big_quiet_step (fail))
  refine wpQuiet_nil ?_
  refine lexK_nil ?_
  intro w7 he7 _
  clear hne q1 q2 q3 q4
  go_wp2
  go_ret
  exact ⟨rfl, he7⟩
end Go.Proofs.Ytfiemdpcnmgfdaa
