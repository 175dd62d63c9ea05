/- Contracts of least.Of and of the document's own At and Of; whorllaw6's known answer. -/
import Derived.Test.YtjccpkekhjhafaaLeaAt
import Derived.Test.YtjccpkekhjhafaaCat
import Derived.Test.YtjccpkekhjhafaaRefTurns
import Derived.Lib.SlBytesConst
namespace Go.Proofs.Ytjccpkekhjhafaa
set_option linter.unusedVariables false
set_option linter.unusedSimpArgs false
open Go.RowKit

theorem Sls.up {v : Value} {zss : List (List Int)} : UpW (fun w => Sls w v zss) := fun w w' he h => Sls.ext h he

theorem of_any (v : Value) (zs : List Int) (w : World) (hs : Sl .u8 w v zs) (hlen : zs.length ≤ 1000000) :
    Calls Try.prog 30 #[v] w fun e w' => ∃ s, e = .returned s ∧ Own .u8 5 w.heap.size w' s (ofI zs) ∧ Ext w w' := by
  have HS := hide' hs
  have C := hide' (at_any v zs w hs hlen)
  obtain ⟨a, c, rfl, h2, h3, _⟩ := hs
  unfold maxLen at h3
  have hle := atI_le zs
  have HF : Hid (ofI zs = turnI zs (atI zs)) := rfl
  obtain ⟨i, HI⟩ : ∃ i, Hid (atI zs = i) := ⟨_, rfl⟩
  rw [HI.out] at C hle HF
  rw [HF.out]
  obtain ⟨a1, r1, s1, _⟩ := HS.out.runDrop (P := Try.prog) 31 5 Try.underlying31 size8 i hle
  obtain ⟨r2, s2⟩ := HS.out.runTake (P := Try.prog) 31 5 Try.underlying31 size8 i hle
  have S1 := hide' s1
  have S2 := hide' s2
  have HT : Hid (([zs.drop i, zs.take i] : List (List Int)).flatten = turnI zs i) := by show _ = _; simp [turnI]
  have HL : Hid (([zs.drop i, zs.take i] : List (List Int)).flatten.length ≤ 10000000) := by show _ ≤ _; rw [HT.out, turnI_len hle]; omega
  clear s1 s2
  go_enter Try.func30, Try.ntmps30
  go_wp2_with fail
  refine C.out.mono ?_
  rintro e w1 ⟨rfl, rfl⟩
  go_wp2_with fail
  have hne := later_some w1
  refine wp_region_k (fun f args v w' => Own .u8 5 w1.heap.size w' v (turnI zs i)) (by kernel_rfl) (by kernel_rfl) (by kernel_rfl) ?_
  refine lexK_take 6 (by kernel_rfl) ?_
  simp only [List.take_succ_cons, List.take_zero, List.drop_succ_cons, List.drop_zero]
  repeat (go_big_quiet_step (fail))
  refine wpQuiet_nil ?_
  refine lexK_some (fun u w' => Sls w' u [zs.drop i, zs.take i]) (fun u => Sls.up) rfl (fun w2 he2 _ => ?_) ?_
  · exact ⟨.slice (some ⟨w2.heap.size, 0, none⟩) 2 2, w2.alloc (.cells #[.slice a1 (zs.length - i) (c - i), .slice a i c] 31), by kernel_rfl, ext_alloc _ _, Sls.two (S1.out.ext he2) (S2.out.ext he2) _ rfl⟩
  intro u w2 he2 _ hu
  clear he2 hu
  simp only [Act.put, List.setIfInBounds_toArray, List.set_cons_succ, List.set_cons_zero]
  refine lexK_call 37 #[u] (fun v w1 w2 h12 h => Own.ext h h12) rfl (fun w' => ?_) (fun w' he' hf' => ?_) ?_
  · go_simp
  · refine (concat_any u [zs.drop i, zs.take i] w' ((hf' 12 (by decide)).2 rfl) HL.out).mono ?_
    rintro e w'' ⟨s, q1, q2, q3⟩
    rw [HT.out] at q2
    exact ⟨s, q1, q3, q2.low he'.size⟩
  intro u2 w3 _ _ hu2
  clear hu2
  simp only [Act.put, List.setIfInBounds_toArray, List.set_cons_succ, List.set_cons_zero]
  refine lexK_take 1 (by kernel_rfl) ?_
  simp only [List.take_succ_cons, List.take_zero, List.drop_succ_cons, List.drop_zero]
  repeat (go_big_quiet_step (fail))
  refine wpQuiet_nil ?_
  refine lexK_nil ?_
  intro w4 he4 hf4
  have HX := hide' ((hf4 13).2 rfl)
  have HE := hide' he4
  clear hf4 he4 hne r1 r2
  go_wp2
  go_ret
  exact ⟨_, rfl, HX.out, HE.out⟩

theorem rat_any (v : Value) (zs : List Int) (w : World) (hs : Sl .u8 w v zs) (hlen : zs.length ≤ 1000000) :
    Calls Try.prog 17 #[v] w fun e w' => e = .returned (.int .i64 (atI zs : Int)) ∧ Ext w w' := by
  have HS := hide' hs
  obtain ⟨a, c, rfl, h2, h3, _⟩ := hs
  unfold maxLen at h3
  have HA : Hid (atI zs = atN zs (zs.length - 1)) := rfl
  obtain ⟨N, HN⟩ : ∃ n, Hid (zs.length = n) := ⟨_, rfl⟩
  rw [HN.out] at h2 hlen HS HA ⊢
  go_enter Try.func17, Try.ntmps17
  go_wp2
  go_loopw [3, 4] (fun vp vq wr => ∃ (p q : Nat), p ≤ q ∧ q + 1 ≤ N + 1 ∧ vp = .int .i64 p ∧ vq = .int .i64 ((q + 1 : Nat) : Int) ∧ Hid (p = atN zs q) ∧ Hid (q + 1 ≤ N ∨ q = 0) ∧ Hid (Ext w wr)) (fun _ vq _ => N - (intOf vq).toNat)
  case atStart => exact ⟨0, 0, by omega, by omega, rfl, rfl, rfl, .inr rfl, Ext.refl _⟩
  case round =>
    obtain ⟨p, q, hp, hq, rfl, rfl, HP, HQ, HE⟩ := hrel
    by_cases hlt : q + 1 < N
    · have hlt' : ((q + 1 : Nat) : Int) < N := by omega
      have HU : Hid (atN zs (q + 1) = if cmpI (turnI zs (q + 1)) (turnI zs p) < 0 then q + 1 else p) := by show _ = _; rw [atN, ← HP.out]
      have C0 := hide' (rturns_any _ zs (q + 1 : Nat) p wr (HS.out.ext HE.out) (by rw [HN.out]; omega))
      rw [turnsL_in (by rw [HN.out]; omega) (by rw [HN.out]; omega)] at C0
      obtain ⟨t, HT⟩ : ∃ t, Hid (cmpI (turnI zs (q + 1)) (turnI zs p) = t) := ⟨_, rfl⟩
      rw [HT.out] at C0 HU
      obtain ⟨Q, hQ⟩ : ∃ Q, Q = q + 1 := ⟨_, rfl⟩
      rw [← hQ] at C0 HU hlt hlt' ⊢
      have hpQ : p ≤ Q := by omega
      by_cases ht : t < 0
      · have HP' : Hid (Q = atN zs Q) := by show _ = _; rw [HU.out, if_pos ht]
        have hQ' := hide' hQ
        clear hQ
        go_wp2_with fail
        refine C0.out.mono ?_
        rintro e w1 ⟨rfl, he⟩
        have HE1 := hide' (HE.out.trans he)
        clear he
        go_wp2
        go_roundw
        case rel => exact ⟨Q, Q, by omega, by omega, rfl, by go_num, HP', .inl (by omega), HE1⟩
        case measure => simp [intOf]; omega
      · have ht' : decide (t < 0) = false := by simpa using ht
        have HP' : Hid (p = atN zs Q) := by show _ = _; rw [HU.out, if_neg ht]
        have hQ' := hide' hQ
        clear hQ ht
        go_wp2_with fail
        refine C0.out.mono ?_
        rintro e w1 ⟨rfl, he⟩
        have HE1 := hide' (HE.out.trans he)
        clear he
        go_wp2
        go_roundw
        case rel => exact ⟨p, Q, by omega, by omega, rfl, by go_num, HP', .inl (by omega), HE1⟩
        case measure => simp [intOf]; omega
    · have HA' : Hid (atI zs = p) := by
        have h1 := HQ.out
        have h2 : N - 1 = q := by omega
        show _ = _
        rw [HA.out, h2, HP.out]
      obtain ⟨Q, hQ⟩ : ∃ Q, Q = q + 1 := ⟨_, rfl⟩
      rw [← hQ] at hlt ⊢
      have hl1 : N ≤ Q := by omega
      have hl2 : (N : Int) ≤ (Q : Int) := by omega
      clear hQ hlt
      go_wp2
      go_ret
      rw [HA'.out]
      exact ⟨rfl, HE.out⟩

theorem rof_any (v : Value) (zs : List Int) (w : World) (hs : Sl .u8 w v zs) (hlen : zs.length ≤ 1000000) :
    Calls Try.prog 20 #[v] w fun e w' => ∃ s, e = .returned s ∧ Own .u8 5 w.heap.size w' s (ofI zs) ∧ Ext w w' := by
  have HS := hide' hs
  have C := hide' (rat_any v zs w hs hlen)
  have hle := atI_le zs
  have HF : Hid (ofI zs = turnI zs (atI zs)) := rfl
  obtain ⟨i, HI⟩ : ∃ i, Hid (atI zs = i) := ⟨_, rfl⟩
  rw [HI.out] at C hle HF
  rw [HF.out]
  go_enter Try.func20, Try.ntmps20
  go_wp2_with fail
  refine C.out.mono ?_
  rintro e w1 ⟨rfl, he⟩
  have HE := hide' he
  clear he
  go_wp2_with fail
  refine (rturn_any _ zs i w1 (HS.out.ext HE.out) hle hlen).mono ?_
  rintro e w2 ⟨s, rfl, ho, he⟩
  have HO := hide' ho
  have HE2 := hide' he
  clear ho he
  go_wp2
  go_ret
  exact ⟨_, rfl, HO.out.low HE.out.size, HE.out.trans HE2.out⟩
end Go.Proofs.Ytjccpkekhjhafaa
