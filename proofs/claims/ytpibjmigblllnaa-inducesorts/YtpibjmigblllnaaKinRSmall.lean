/- Contract of whorlref11.Small: the document's own answer. -/
import Derived.Test.YtpibjmigblllnaaKinMath
import Derived.Test.YtpibjmigblllnaaKinWords
import Derived.Test.YtpibjmigblllnaaBools
import Derived.Test.YtpibjmigblllnaaNatRow
import Derived.Test.YtpibjmigblllnaaKripTail
namespace Go.Proofs.Ytpibjmigblllnaa
set_option linter.unusedVariables false
set_option linter.unusedSimpArgs false
open Go.RowKit

/-- The kinds of the first k places. -/
def smU (s : List Int) (k : Nat) : List Bool := (List.range k).map (smB s)
theorem smU_len (s : List Int) (k : Nat) : (smU s k).length = k := by simp [smU]
theorem smU_succ (s : List Int) (k : Nat) : smU s k ++ [smB s k] = smU s (k + 1) := by simp [smU, List.range_succ]

set_option maxHeartbeats 1000000 in
theorem rsmall_any (v : Value) (zs : List Int) (w : World) (hv : Sl .i64 w v zs) (hlen : zs.length ≤ 1000000) :
    Calls Try.prog 28 #[v] w fun e w' => ∃ s, e = .returned s ∧ OwnB w.heap.size w' s (smallI zs) ∧ Ext w w' := by
  have HV := hide' hv
  obtain ⟨a, c, rfl, hc1, hc2, _⟩ := hv
  obtain ⟨n, HN⟩ : ∃ n, Hid (zs.length = n) := ⟨_, rfl⟩
  rw [HN.out] at HV hlen hc1 ⊢
  unfold maxLen at hc2
  go_enter Try.func28, Try.ntmps28
  go_wp2
  go_loopw [3, 4] (fun sv vi wr => ∃ (i : Nat), i ≤ n ∧ vi = .int .i64 i ∧ Hid (OwnB w.heap.size wr sv (smU zs i)) ∧ Hid (Ext w wr)) (fun _ vi _ => n - (intOf vi).toNat)
  case atStart => exact ⟨0, Nat.zero_le _, rfl, OwnB.nil _ _, Ext.refl _⟩
  case round =>
    obtain ⟨i, hi, rfl, HO, HE⟩ := hrel
    have hsz := HE.out.size
    by_cases hlt : i < n
    · have hlt' : (i : Int) < n := by omega
      obtain ⟨a1, r1, s1, _⟩ := HV.out.runDrop (P := Try.prog) 22 3 Try.underlying22 sizeI64 i (by rw [HN.out]; omega)
      obtain ⟨a2, r2, s2, _⟩ := HV.out.runDrop (P := Try.prog) 22 3 Try.underlying22 sizeI64 (i + 1) (by rw [HN.out]; omega)
      rw [Int.natCast_add, Int.natCast_one] at r2
      have S1 := hide' (s1.ext HE.out)
      have S2 := hide' (s2.ext HE.out)
      have L1 : Hid ((zs.drop i).length ≤ 1000000) := by show _ ≤ _; rw [List.length_drop, HN.out]; omega
      have L2 : Hid ((zs.drop (i + 1)).length ≤ 1000000) := by show _ ≤ _; rw [List.length_drop, HN.out]; omega
      clear s1 s2
      have HX : Hid (smU zs i ++ [decide (cmpI (zs.drop i) (zs.drop (i + 1)) < 0)] = smU zs (i + 1)) := smU_succ zs i
      have HLU := hide' (smU_len zs i)
      obtain ⟨C, HC⟩ : ∃ C, Hid (cmpI (zs.drop i) (zs.drop (i + 1)) = C) := ⟨_, rfl⟩
      rw [HC.out] at HX
      obtain ⟨b, HB⟩ : ∃ b, Hid (decide (C < 0) = b) := ⟨_, rfl⟩
      rw [HB.out] at HX
      have hdb : decide (C < 0) = b := HB.out
      go_wp2_with fail
      refine wp_region_kt (fun _ _ v _ => v = .int .i64 C) 11 (by kernel_rfl) (by kernel_rfl) (by kernel_rfl) ?_
      have hne := later_some wr
      simp only [List.take_succ_cons, List.take_zero, List.drop_succ_cons, List.drop_zero]
      refine lexK_take 8 (by kernel_rfl) ?_
      simp only [List.take_succ_cons, List.take_zero, List.drop_succ_cons, List.drop_zero]
      repeat (go_big_quiet_step (fail))
      refine wpQuiet_nil ?_
      refine lexK_call1 32 #[.slice a1 (n - i) (c - i), .slice a2 (n - (i + 1)) (c - (i + 1))] (.int .i64 C) (fun _ _ => Iff.rfl) rfl (fun w' => ?_) (fun w' he _ => (words_any _ _ _ _ w' (S1.out.ext he) (S2.out.ext he) L1.out L2.out).mono fun e w'' ⟨h1, m, h2⟩ => ⟨by rw [h1, HC.out], by rw [h2]; exact Ext.drewN _ _⟩) ?_
      · go_simp
      simp only [Act.put, List.setIfInBounds_toArray, List.set_cons_succ, List.set_cons_zero]
      refine lexK_take 1 (by kernel_rfl) ?_
      simp only [List.take_succ_cons, List.take_zero, List.drop_succ_cons, List.drop_zero]
      repeat (go_big_quiet_step (fail))
      refine wpQuiet_nil ?_
      refine lexK_some (fun u w' => ∃ g, u = .slice (some ⟨g, 0, none⟩) 1 1 ∧ w'.cell? ⟨g, 0, none⟩ = some (.bool b)) (fun u w1' w2' h12 h => ?_) rfl (fun w1' he1 _ => ?_) ?_
      · obtain ⟨g, h1, h2⟩ := h
        exact ⟨g, h1, h12.cellOf h2⟩
      · exact ⟨.slice (some ⟨w1'.heap.size, 0, none⟩) 1 1, w1'.alloc (.cells #[.bool b] 4), by kernel_rfl, ext_alloc _ _, _, rfl, by simp only [World.cell?, heap_alloc_top]; simp⟩
      intro u2 w1 he1 _ hu2
      clear he1 hu2
      simp only [Act.put, List.setIfInBounds_toArray, List.set_cons_succ, List.set_cons_zero]
      refine lexK_nil ?_
      intro w1 he1 hf1
      obtain ⟨g2, hg2, hc2⟩ := (hf1 21).2 rfl
      subst hg2
      have HO1 := hide' (HO.out.ext he1)
      have HE1 := hide' (HE.out.trans he1)
      have hsz1 := HE1.out.size
      clear hne r1 r2 he1 HO HE hf1
      go_wp2_with (at_builtin; refine wpList_snocB _ rfl _ _ rfl w.heap.size _ (smU zs i) b ⟨g2, 0, none⟩ rfl rfl hc2 HO1.out ?c3 hsz1 ?_)
      case c3 => rw [HLU.out]; omega
      intro v2 w2 ho2 hb2
      have HO2 : Hid (OwnB w.heap.size w2 v2 (smU zs (i + 1))) := by rw [← HX.out]; exact ho2
      have HE2 : Hid (Ext w w2) := Below.trans HE1.out hb2
      clear ho2 hb2
      go_wp2
      go_roundw
      case rel => exact ⟨i + 1, by omega, by go_num, HO2, HE2⟩
      case measure => simp [intOf]; omega
    · have hlt' : decide ((i : Int) < n) = false := by simp; omega
      have HQ : Hid (smU zs i = smallI zs) := by
        show _ = _
        have e : i = n := by omega
        rw [e, ← HN.out]; rfl
      go_wp2
      go_ret
      exact ⟨_, rfl, by rw [← HQ.out]; exact HO.out, HE.out⟩
end Go.Proofs.Ytpibjmigblllnaa
