/- BijTurns: the walk. -/
import Derived.Test.YtinnfcjkgddfeaaPart3
import Derived.Test.YtinnfcjkgddfeaaPart4
namespace Go.Proofs.Ytinnfcjkgddfeaa
set_option linter.unusedVariables false
set_option linter.unusedSimpArgs false
open Go.RowKit

/-- What the calls of the region hand back. -/
def bjtS (x : List Int) (f : FuncId) (v : Value) (w : World) : Prop :=
  match f with
  | 9 => Sl .u8 w v x
  | _ => v = .bool true
theorem bjtS_1 {x : List Int} {v : Value} {w : World} : bjtS x 9 v w ↔ Sl .u8 w v x := Iff.rfl
theorem bjtS_2 {x : List Int} {v : Value} {w : World} : bjtS x 10 v w ↔ v = .bool true := Iff.rfl

set_option maxHeartbeats 1000000 in
theorem lawTurns (v : Value) (s : List Int) (w : World) (hv : Sl .u8 w v s) (h8 : Bytes8 s) :
    Calls Try.prog 3 #[v] w fun e w' => e = .returned (.bool true) ∧ Ext w w' := by
  have HV := hide' hv
  have H8 := hide' h8
  obtain ⟨va, vc, rfl, _⟩ := hv
  clear h8
  by_cases h1 : (60 : Int) < (s.length : Int)
  · go_enter Try.func3, Try.ntmps3
    go_wp2
    go_ret
    exact ⟨rfl, Ext.refl _⟩
  have d1 : decide ((60 : Int) < (s.length : Int)) = false := by simpa using h1
  have HS5 : Hid (s.length ≤ 100000) := by show _ ≤ _; omega
  clear h1
  go_enter Try.func3, Try.ntmps3
  go_wp2_with fail
  refine (bjTurn_any _ s w HV.out H8.out HS5.out).mono ?_
  rintro e w2 ⟨L, u2, rfl, hl, ho, he⟩
  have O2 := hide' ho.sl
  have HI := hide' hl
  have X2 := hide' (he)
  clear ho he hl
  have hne := later_some w2
  have hcv := later_str (P := Try.prog) O2.out 22 5 9 Try.underlying22 Try.underlying5 Try.underlying9
  have q1 : ((strOfNums L).toList == (strOfNums L).toList) = true := by simp
  obtain ⟨ua, un, uc, hu⟩ : ∃ a n c, u2 = .slice a n c := by obtain ⟨a', c', h, _⟩ := O2.out; exact ⟨_, _, _, h⟩
  subst hu
  go_wp2_with fail
  refine wp_region_k (fun f args v w => bjtS L f v w) (by kernel_rfl) (by kernel_rfl) (by kernel_rfl) ?_
  refine lexK_take 6 (by kernel_rfl) ?_
  simp only [List.take_succ_cons, List.take_zero, List.drop_succ_cons, List.drop_zero]
  repeat (go_big_quiet_step (fail))
  refine wpQuiet_nil ?_
  refine lexK_call 9 #[.slice va s.length vc] (fun v w1 w2 h12 h => bjtS_1.2 (Sl.ext (bjtS_1.1 h) h12)) rfl (fun w' => ?_) (fun w' he' _ => (rbjTurn_any _ s w' (HV.out.ext (X2.out.trans he')) HS5.out).mono fun e w'' ⟨l, r, h1, h2, h3, h4⟩ => ⟨r, h1, h4, bjtS_1.2 (by rw [HI.out.eq h2]; exact h3.sl)⟩) ?_
  · go_simp
  intro u w3 _ _ hu
  clear hu
  simp only [Act.put, List.setIfInBounds_toArray, List.set_cons_succ, List.set_cons_zero]
  refine lexK_val (.string (strOfNums L)) rfl (fun w6 he6 hf6 => ?_) ?_
  · exact run_convert_op rfl rfl ((bjtS_1.1 ((hf6 19 (by decide)).2 rfl)).str _ 5 _ Try.underlying22 Try.underlying5 Try.underlying9)
  simp only [Act.put, List.setIfInBounds_toArray, List.set_cons_succ, List.set_cons_zero]
  refine lexK_take 3 (by kernel_rfl) ?_
  simp only [List.take_succ_cons, List.take_zero, List.drop_succ_cons, List.drop_zero]
  repeat (go_big_quiet_step (fail))
  refine wpQuiet_nil ?_
  refine lexK_call1 10 #[] (.bool true) (fun _ _ => bjtS_2) rfl (fun w' => ?_) (fun w' _ _ => known_any w') ?_
  · go_simp
  simp only [Act.put, List.setIfInBounds_toArray, List.set_cons_succ, List.set_cons_zero]
  refine lexK_take 2 (by kernel_rfl) ?_
  simp only [List.take_succ_cons, List.take_zero, List.drop_succ_cons, List.drop_zero, List.take_nil, List.drop_nil]
  repeat (go_big_quiet_step (fail))
  refine wpQuiet_nil ?_
  refine lexK_nil ?_
  intro w5 he5 _
  have X5 := hide' (X2.out.trans he5)
  clear he5 hne hcv
  go_wp2
  go_ret
  exact ⟨rfl, X5.out⟩
end Go.Proofs.Ytinnfcjkgddfeaa
