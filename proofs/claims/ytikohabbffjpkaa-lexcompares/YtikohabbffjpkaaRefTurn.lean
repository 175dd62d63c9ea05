/- Contracts of the document's own Turn: whorlref4.Turn. -/
import Derived.Test.YtikohabbffjpkaaRefWords
import Derived.Test.YtikohabbffjpkaaKripNew
namespace Go.Proofs.Ytikohabbffjpkaa
set_option linter.unusedVariables false
set_option linter.unusedSimpArgs false
open Go.RowKit

theorem rturn_any (v : Value) (zs : List Int) (i : Nat) (w : World) (hs : Sl .u8 w v zs) (hi : i ≤ zs.length) (hlen : zs.length ≤ 1000000) :
    Calls Try.prog 38 #[v, .int .i64 (i : Int)] w fun e w' => ∃ s, e = .returned s ∧ Own .u8 5 w.heap.size w' s (turnI zs i) ∧ Ext w w' := by
  have HS := hide' hs
  obtain ⟨a, c, rfl, h2, h3, _⟩ := hs
  unfold maxLen at h3
  obtain ⟨a1, r1, s1, _⟩ := HS.out.runDrop (P := Try.prog) 22 5 Try.underlying22 size8 i hi
  obtain ⟨r2, s2⟩ := HS.out.runTake (P := Try.prog) 22 5 Try.underlying22 size8 i hi
  have S1 := hide' s1
  have S2 := hide' s2
  have L1 : Hid ((zs.drop i).length = zs.length - i) := List.length_drop
  have L2 : Hid ((zs.take i).length = i) := by show _ = _; rw [List.length_take]; omega
  clear s1 s2
  go_enter Try.func38, Try.ntmps38
  go_wp2_with fail
  refine wp_region_kt (fun _ _ _ _ => True) 8 (by kernel_rfl) (by kernel_rfl) (by kernel_rfl) ?_
  have hne := later_some w
  simp only [List.take_succ_cons, List.take_zero, List.drop_succ_cons, List.drop_zero]
  refine lexK_some (fun u w' => Bare 5 w.heap.size w' u) (fun u => Bare.up) rfl (fun w1 he1 _ => ?_) ?_
  · exact ⟨.slice (some ⟨w1.heap.size, 0, none⟩) 0 0, w1.alloc (.cells #[] 5), by kernel_rfl, ext_alloc _ _, _, rfl, he1.size, heap_alloc_top _ _⟩
  intro u w1 he1 _ hu
  clear he1 hu
  simp only [Act.put, List.setIfInBounds_toArray, List.set_cons_succ, List.set_cons_zero]
  refine lexK_take 3 (by kernel_rfl) ?_
  simp only [List.take_succ_cons, List.take_zero, List.drop_succ_cons, List.drop_zero]
  repeat (go_big_quiet_step (fail))
  refine wpQuiet_nil ?_
  refine lexK_some (fun u w' => Own .u8 5 w.heap.size w' u (zs.drop i)) (fun u => Own.up) rfl (fun w2 he2 hf2 => ?_) ?_
  · obtain ⟨u2, w3, q1, q2, q3⟩ := append_new (P := Try.prog) w2 w.heap.size 22 22 5 1 Try.underlying22 infoU8 _ _ _ ((hf2 5 (by decide)).2 rfl) (S1.out.ext he2) (by rw [L1.out]; unfold maxLen; omega) he2.size
    exact ⟨u2, w3, run_append_op rfl rfl rfl q1, q2, q3⟩
  intro u2 w2 he2 _ hu2
  clear he2 hu2
  simp only [Act.put, List.setIfInBounds_toArray, List.set_cons_succ, List.set_cons_zero]
  refine lexK_take 3 (by kernel_rfl) ?_
  simp only [List.take_succ_cons, List.take_zero, List.drop_succ_cons, List.drop_zero]
  repeat (go_big_quiet_step (fail))
  refine wpQuiet_nil ?_
  refine lexK_nil ?_
  intro w3 he3 hf3
  have HE := hide' he3
  have HO := hide' ((hf3 9).2 rfl)
  have hsz := he3.size
  clear he3 hf3 r1 r2 hne
  go_wp2_with (at_builtin; refine wpList_join _ rfl _ _ 22 rfl 5 .u8 1 Try.underlying22 infoU8 w.heap.size _ _ (zs.drop i) (zs.take i) rfl rfl HO.out (S2.out.ext HE.out) ?c1 hsz ?_)
  case c1 => unfold maxLen; omega
  intro v4 w4 ho4 hb4
  have HO4 := hide' ho4
  have HB4 := hide' hb4
  clear ho4 hb4
  go_wp2
  go_ret
  exact ⟨_, rfl, HO4.out, Below.trans HE.out HB4.out⟩
end Go.Proofs.Ytikohabbffjpkaa
