/- Contracts of period.Least and period.Root. -/
import Derived.Test.YtjccpkekhjhafaaPerOps
import Derived.Test.YtjccpkekhjhafaaClone
namespace Go.Proofs.Ytjccpkekhjhafaa
set_option linter.unusedVariables false
set_option linter.unusedSimpArgs false
open Go.RowKit

theorem least_any (v : Value) (zs : List Int) (w : World) (hs : Sl .u8 w v zs) (hlen : zs.length ≤ 1000000) :
    Calls Try.prog 38 #[v] w fun e w' => e = .returned (.int .i64 (leastI zs : Int)) ∧ Ext w w' := by
  have HS := hide' hs
  obtain ⟨a, c, rfl, h2, h3, _⟩ := hs
  unfold maxLen at h3
  by_cases h0 : zs.length = 0
  · have hz : leastI zs = 0 := by unfold leastI; omega
    rw [hz, h0]
    go_enter Try.func38, Try.ntmps38
    go_wp2
    go_ret
    exact ⟨rfl, Ext.refl _⟩
  · have d0 : ((zs.length : Int) == 0) = false := by simp; exact fun h => h0 (by rw [h]; rfl)
    obtain ⟨n, hn⟩ : ∃ n, zs.length = n + 1 := ⟨zs.length - 1, by omega⟩
    have hb := borI_lt (s := zs) (n := n + 1) (by omega) (by omega)
    have HL := hide' hn
    have HQ : Hid (leastI zs = n + 1 - borI zs (n + 1)) := by show _ = _; unfold leastI; rw [hn]
    have HX : Hid ((borsL zs).getD n 0 = (borI zs (n + 1) : Int)) := borsL_at (by omega)
    have HLL : Hid ((borsL zs).length = n + 1) := by show _ = _; rw [borsL_len, hn]
    obtain ⟨B, HB⟩ : ∃ b, Hid (borI zs (n + 1) = b) := ⟨_, rfl⟩
    rw [HB.out] at hb HX HQ
    rw [hn] at HS hlen d0 h2 ⊢
    clear hn h0
    go_enter Try.func38, Try.ntmps38
    go_wp2_with fail
    refine (borders_any _ zs w HS.out (by rw [HL.out]; exact hlen)).mono ?_
    rintro e w1 ⟨s, rfl, ho, he⟩
    have hne : borsL zs ≠ [] := fun h => by have := HLL.out; rw [h] at this; simp at this
    obtain ⟨g, cap, rfl, _, hc1, hc2⟩ := ho.shape hne
    rw [HLL.out] at hc1 ho ⊢
    have hc := ho.cell HLL.out n (by omega)
    rw [HX.out] at hc
    have HE := hide' he
    clear ho he hne
    unfold maxLen at hc2
    have l1 : (n : Int) < (n : Int) + 1 := by omega
    have l2 : n < n + 1 := by omega
    go_wp2
    go_ret
    rw [HQ.out]
    refine ⟨?_, HE.out⟩
    rw [Int.ofNat_sub (by omega)]
    rfl

set_option maxHeartbeats 400000 in
theorem root_any (v : Value) (zs : List Int) (w : World) (hs : Sl .u8 w v zs) (hlen : zs.length ≤ 1000000) :
    Calls Try.prog 31 #[v] w fun e w' => ∃ s, e = .returned (.tuple #[s, .int .i64 ((zs.length / rootN zs : Nat) : Int)]) ∧ Own .u8 5 w.heap.size w' s (zs.take (rootN zs)) ∧ Ext w w' := by
  have HS := hide' hs
  obtain ⟨a, c, rfl, h2, h3, _⟩ := hs
  unfold maxLen at h3
  by_cases h0 : zs.length = 0
  · have hz : zs = [] := List.length_eq_zero_iff.1 h0
    subst hz
    rw [rootN_nil]
    go_enter Try.func31, Try.ntmps31
    go_wp2
    go_ret2
    exact ⟨_, rfl, Own.nil _ _ _ _, Ext.refl _⟩
  · have d0 : ((zs.length : Int) == 0) = false := by simp; exact fun h => h0 (by rw [h]; rfl)
    obtain ⟨p1, p2, _, _⟩ := leastI_spec (s := zs) (by omega)
    obtain ⟨r1, r2, _, _⟩ := rootN_spec (s := zs) (by omega)
    have L1 := hide' hlen
    have HR : Hid (rootN zs = if zs.length % leastI zs = 0 then leastI zs else zs.length) := rfl
    obtain ⟨p, HP⟩ : ∃ p, Hid (leastI zs = p) := ⟨_, rfl⟩
    obtain ⟨r, HRR⟩ : ∃ r, Hid (rootN zs = r) := ⟨_, rfl⟩
    rw [HP.out] at p1 p2 HR
    rw [HRR.out] at r1 r2 HR ⊢
    obtain ⟨N, HN⟩ : ∃ n, Hid (zs.length = n) := ⟨_, rfl⟩
    rw [HN.out] at p2 HR r2 d0 h2 hlen ⊢
    rw [HN.out] at HS
    clear h0
    have hm1 : (N : Int).tmod (p : Int) = ((N % p : Nat) : Int) := by rw [Int.tmod_eq_emod_of_nonneg (by omega)]; simp
    have hm2 : (N : Int) % (p : Int) = ((N % p : Nat) : Int) := by simp
    have hd1 : (N : Int).tdiv (r : Int) = ((N / r : Nat) : Int) := by rw [Int.tdiv_eq_ediv_of_nonneg (by omega)]; simp
    have hd2 : (N : Int) / (r : Int) = ((N / r : Nat) : Int) := by simp
    have hdl : N / r ≤ N := Nat.div_le_self _ _
    have hml : N % p < p := Nat.mod_lt _ (by omega)
    obtain ⟨q, HQ⟩ : ∃ q, Hid (N / r = q) := ⟨_, rfl⟩
    obtain ⟨x, HX⟩ : ∃ x, Hid (N % p = x) := ⟨_, rfl⟩
    rw [HQ.out] at hd1 hd2 hdl ⊢
    rw [HX.out] at hm1 hm2 HR hml
    obtain ⟨t1, t2⟩ := HS.out.runTake (P := Try.prog) 31 5 Try.underlying31 size8 r (by rw [HN.out]; exact r2)
    have T2 := hide' t2
    have TL : Hid ((zs.take r).length ≤ 1000000) := by have := L1.out; show _ ≤ _; rw [List.length_take]; omega
    clear t2
    have pne : (p : Int) ≠ 0 := by omega
    have rne : (r : Int) ≠ 0 := by omega
    go_enter Try.func31, Try.ntmps31
    go_wp2_with fail
    refine (least_any _ zs w HS.out L1.out).mono ?_
    rintro e w1 ⟨rfl, he⟩
    have HE := hide' he
    clear he
    rw [HP.out]
    by_cases hx : x = 0
    · have hr : r = p := by rw [HR.out, if_pos hx]
      have dx : ((x : Int) == 0) = true := by simp; exact hx
      clear hx
      subst hr
      go_wp2_with fail
      have hne := later_some w1
      refine wp_region_k (fun f args v w' => Own .u8 5 w1.heap.size w' v (zs.take r)) (by kernel_rfl) (by kernel_rfl) (by kernel_rfl) ?_
      refine lexK_take 3 (by kernel_rfl) ?_
      simp only [List.take_succ_cons, List.take_zero, List.drop_succ_cons, List.drop_zero]
      repeat (go_big_quiet_step (fail))
      refine wpQuiet_nil ?_
      refine lexK_call 39 #[.slice a r c] (fun v w1 w2 h12 h => Own.ext h h12) rfl (fun w' => ?_) (fun w' he' _ => (clone_any a r c (zs.take r) w' ((T2.out.ext HE.out).ext he') TL.out).mono fun e w'' ⟨s, h1, h2, h3⟩ => ⟨s, h1, h3, h2.low he'.size⟩) ?_
      · go_simp
      intro v w2 _ _ hv1
      clear hv1
      simp only [Act.put, List.setIfInBounds_toArray, List.set_cons_succ, List.set_cons_zero]
      refine lexK_take 6 (by kernel_rfl) ?_
      simp only [List.take_succ_cons, List.take_zero, List.drop_succ_cons, List.drop_zero]
      repeat (go_big_quiet_step (fail))
      refine wpQuiet_nil ?_
      refine lexK_nil ?_
      intro w3 he3 hf3
      have HF := hide' ((hf3 20).2 rfl)
      have HE3 := hide' he3
      clear hf3 he3 hne t1
      go_wp2
      go_ret2
      exact ⟨_, rfl, HF.out.low HE.out.size, HE.out.trans HE3.out⟩
    · have hr : r = N := by rw [HR.out, if_neg hx]
      have dx : ((x : Int) == 0) = false := by simp; exact hx
      clear hx
      subst hr
      go_wp2_with fail
      have hne := later_some w1
      refine wp_region_k (fun f args v w' => Own .u8 5 w1.heap.size w' v (zs.take r)) (by kernel_rfl) (by kernel_rfl) (by kernel_rfl) ?_
      refine lexK_take 3 (by kernel_rfl) ?_
      simp only [List.take_succ_cons, List.take_zero, List.drop_succ_cons, List.drop_zero]
      repeat (go_big_quiet_step (fail))
      refine wpQuiet_nil ?_
      refine lexK_call 39 #[.slice a r c] (fun v w1 w2 h12 h => Own.ext h h12) rfl (fun w' => ?_) (fun w' he' _ => (clone_any a r c (zs.take r) w' ((T2.out.ext HE.out).ext he') TL.out).mono fun e w'' ⟨s, h1, h2, h3⟩ => ⟨s, h1, h3, h2.low he'.size⟩) ?_
      · go_simp
      intro v w2 _ _ hv1
      clear hv1
      simp only [Act.put, List.setIfInBounds_toArray, List.set_cons_succ, List.set_cons_zero]
      refine lexK_take 6 (by kernel_rfl) ?_
      simp only [List.take_succ_cons, List.take_zero, List.drop_succ_cons, List.drop_zero]
      repeat (go_big_quiet_step (fail))
      refine wpQuiet_nil ?_
      refine lexK_nil ?_
      intro w3 he3 hf3
      have HF := hide' ((hf3 20).2 rfl)
      have HE3 := hide' he3
      clear hf3 he3 hne t1
      go_wp2
      go_ret2
      exact ⟨_, rfl, HF.out.low HE.out.size, HE.out.trans HE3.out⟩
end Go.Proofs.Ytjccpkekhjhafaa
