/- Contracts of whorlref15.cut and Ranks. -/
import Derived.Test.YtimhkmnohkbniaaDbMath
import Derived.Test.YtimhkmnohkbniaaPermMath
import Derived.Test.YtimhkmnohkbniaaKinWords
import Derived.Test.YtimhkmnohkbniaaNatRow
import Derived.Test.YtimhkmnohkbniaaBut
import Derived.Lib.MinMax
namespace Go.Proofs.Ytimhkmnohkbniaa
set_option linter.unusedVariables false
set_option linter.unusedSimpArgs false
open Go.RowKit

theorem cutI_cut {s : List Int} {h i : Nat} (hi : i ≤ s.length) : (s.take (i + min h (s.length - i))).drop i = cutI s h i := by
  unfold cutI
  rw [List.drop_take, show i + min h (s.length - i) - i = min h (s.length - i) by omega]
  by_cases g : h ≤ s.length - i
  · rw [Nat.min_eq_left g]
  · rw [Nat.min_eq_right (by omega), List.take_of_length_le (by rw [List.length_drop]; omega), List.take_of_length_le (by rw [List.length_drop]; omega)]

theorem rcut_any (v : Value) (s : List Int) (i h : Nat) (w : World) (hv : Sl .i64 w v s) (hi : i ≤ s.length) (hlen : s.length ≤ 1000000) :
    Calls Try.prog 27 #[v, .int .i64 (i : Int), .int .i64 (h : Int)] w fun e w' => ∃ u, e = .returned u ∧ Sl .i64 w' u (cutI s h i) ∧ ∃ m, w' = w.drewN m := by
  have HV := hide' hv
  have HCC := hide' (cutI_cut (h := h) hi)
  obtain ⟨a, c, rfl, _⟩ := id hv
  obtain ⟨m, HM⟩ : ∃ m, Hid (min h (s.length - i) = m) := ⟨_, rfl⟩
  have hmi : i + m ≤ s.length := by rw [← HM.out]; omega
  have hmin : min (h : Int) ((s.length : Int) - (i : Int)) = (m : Int) := by rw [← HM.out]; omega
  rw [HM.out] at HCC
  obtain ⟨p1, r1, s1⟩ := HV.out.runCut (P := Try.prog) 22 3 Try.underlying22 sizeI64 i (i + m) (by omega) hmi
  rw [HCC.out] at s1
  have S1 := hide' s1
  have hadd : (i : Int) + (m : Int) = ((i + m : Nat) : Int) := by omega
  obtain ⟨n, HN⟩ : ∃ n, Hid (s.length = n) := ⟨_, rfl⟩
  rw [HN.out] at hmin r1 hlen ⊢
  generalize i + m = q at *
  clear s1 hv
  go_enter Try.func27, Try.ntmps27
  go_wp2
  go_ret
  exact ⟨_, rfl, S1.out, 0, rfl⟩

/-- What the document's Ranks answers. -/
def rrI (s : List Int) (h : Int) : List Int := if h < 0 ∨ 100000 < s.length then [] else natL (hrL s h.toNat)

set_option maxHeartbeats 2000000 in
theorem rRanks_any (v : Value) (s : List Int) (h : Int) (w : World) (hv : Sl .i64 w v s) (hlen : s.length ≤ 1000000) :
    Calls Try.prog 17 #[v, .int .i64 h] w fun e w' => ∃ u, e = .returned u ∧ Own .i64 3 w.heap.size w' u (rrI s h) ∧ Ext w w' := by
  have HV := hide' hv
  obtain ⟨a, c, hve, _⟩ := hv
  by_cases h0 : h < 0
  · subst hve
    have HR : Hid (rrI s h = []) := if_pos (.inl h0)
    rw [HR.out]
    go_enter Try.func17, Try.ntmps17
    go_wp2_with fail
    go_ret
    exact ⟨_, rfl, Own.nil _ _ _ _, Ext.refl _⟩
  have d0 : decide (h < 0) = false := by simp; omega
  by_cases h1 : 100000 < s.length
  · subst hve
    have HR : Hid (rrI s h = []) := if_pos (.inr h1)
    rw [HR.out]
    have d1 : (100000 : Int) < (s.length : Int) := by omega
    go_enter Try.func17, Try.ntmps17
    go_wp2_with fail
    go_ret
    exact ⟨_, rfl, Own.nil _ _ _ _, Ext.refl _⟩
  obtain ⟨H, rfl⟩ := Int.eq_ofNat_of_zero_le (show 0 ≤ h by omega)
  have HR : Hid (rrI s (H : Int) = natL (hrL s H)) := by
    show _ = _
    unfold rrI
    rw [if_neg (by omega), Int.toNat_natCast]
  rw [HR.out]
  have HCU : Hid (∀ W p, Sl .i64 W v s → p ≤ s.length → Calls Try.prog 27 #[v, .int .i64 (p : Int), .int .i64 (H : Int)] W fun e w' => ∃ u, e = .returned u ∧ Sl .i64 w' u (cutI s H p) ∧ ∃ m, w' = W.drewN m) := fun W p g1 g2 => rcut_any v s p H W g1 g2 hlen
  have HCL : Hid (∀ p, (cutI s H p).length ≤ 1000000) := fun p => by
    show _ ≤ _
    unfold cutI
    rw [List.length_take, List.length_drop]
    omega
  have HHY : Hid (∀ i t, cmpI (cutI s H t) (cutI s H i) < 0 → hrN s H i (t + 1) = hrN s H i t + 1) := fun i t g => hrN_yes (cutB_iff.2 g)
  have HHN : Hid (∀ i t, ¬ cmpI (cutI s H t) (cutI s H i) < 0 → hrN s H i (t + 1) = hrN s H i t) := fun i t g => hrN_no (decide_eq_false g)
  have HLE : Hid (∀ i t, hrN s H i t ≤ t) := fun i t => hrN_le s H i t
  have HTK : Hid (∀ i, i < s.length → natL ((hrL s H).take (i + 1)) = natL ((hrL s H).take i) ++ [((hrN s H i s.length : Nat) : Int)]) := fun i hi => by
    rw [takeN_succ (by rw [hrL_len]; exact hi), hrL_at hi, ← natL_snoc]
    rfl
  have HTL : Hid (∀ i, (natL ((hrL s H).take i)).length ≤ s.length) := fun i => by
    show _ ≤ _
    rw [natL_len, List.length_take, hrL_len]
    omega
  have HTA : Hid (natL ((hrL s H).take s.length) = natL (hrL s H)) := by
    show _ = _
    rw [List.take_of_length_le (by rw [hrL_len]; exact Nat.le_refl _)]
  subst hve
  have HN1 : Hid (s.length ≤ 100000) := by show _ ≤ _; omega
  have d1 : decide ((100000 : Int) < (s.length : Int)) = false := by simp; omega
  obtain ⟨n, HN⟩ : ∃ n, Hid (s.length = n) := ⟨_, rfl⟩
  rw [HN.out] at d1 HN1 HV HCU HTK HTL HTA ⊢
  have hn1 := HN1.out
  clear h0 h1 hlen HR
  go_enter Try.func17, Try.ntmps17
  go_wp2_with fail
  go_loopw [5, 6] (fun ov vi wr => ∃ (i : Nat), i ≤ n ∧ vi = .int .i64 i ∧ Hid (Own .i64 3 w.heap.size wr ov (natL ((hrL s H).take i))) ∧ Hid (Ext w wr)) (fun _ vi _ => n - (intOf vi).toNat)
  case atStart => exact ⟨0, Nat.zero_le _, rfl, Own.nil _ _ _ _, Ext.refl _⟩
  case round =>
    clear d1
    obtain ⟨i, hi, rfl, HO, HE⟩ := hrel
    by_cases hlt : i < n
    · have hlt' : (i : Int) < n := by omega
      go_wp2
      go_loopw [7, 8] (fun vn vk wq => ∃ (k x : Nat), k ≤ n ∧ x ≤ k ∧ vk = .int .i64 k ∧ vn = .int .i64 x ∧ Hid (hrN s H i k = x) ∧ Hid (Own .i64 3 w.heap.size wq u5 (natL ((hrL s H).take i))) ∧ Hid (Ext w wq)) (fun _ vk _ => n - (intOf vk).toNat)
      case atStart => exact ⟨0, 0, Nat.zero_le _, Nat.le_refl _, rfl, rfl, rfl, HO, HE⟩
      case round =>
        clear HO HE
        obtain ⟨k, x, hk, hx, rfl, rfl, HX, HO, HE⟩ := hrel
        by_cases hkt : k < n
        · have hkt' : (k : Int) < n := by omega
          have HY1 := hide' (HHY.out i k)
          have HN1' := hide' (HHN.out i k)
          rw [HX.out] at HY1 HN1'
          have HCa := hide' (HCU.out wr k (HV.out.ext HE.out) (by omega))
          go_wp2_with fail
          refine HCa.out.mono ?_
          rintro e w2 ⟨ua, rfl, hs, m, hm⟩
          have X2 : Hid (Ext wr w2) := by show Ext _ _; rw [hm]; exact Ext.drewN _ _
          have HO2 := hide' (HO.out.ext X2.out)
          have HE2 := hide' (HE.out.trans X2.out)
          have SA := hide' hs
          clear hs hm X2 HO HE HCa
          have HCb := hide' (HCU.out w2 i (HV.out.ext HE2.out) (by omega))
          go_wp2_with fail
          refine HCb.out.mono ?_
          rintro e w3 ⟨ub, rfl, hs, m, hm⟩
          have X3 : Hid (Ext w2 w3) := by show Ext _ _; rw [hm]; exact Ext.drewN _ _
          have HO3 := hide' (HO2.out.ext X3.out)
          have HE3 := hide' (HE2.out.trans X3.out)
          have SB := hide' hs
          have SA3 := hide' (SA.out.ext X3.out)
          clear hs hm X3 HO2 HE2 HCb SA
          have HW := hide' (words_any ua ub _ _ w3 SA3.out SB.out (HCL.out k) (HCL.out i))
          obtain ⟨C, HC⟩ : ∃ C, Hid (cmpI (cutI s H k) (cutI s H i) = C) := ⟨_, rfl⟩
          rw [HC.out] at HW HY1 HN1'
          go_wp2_with fail
          refine HW.out.mono ?_
          rintro e w4 ⟨rfl, m, hm⟩
          have X4 : Hid (Ext w3 w4) := by show Ext _ _; rw [hm]; exact Ext.drewN _ _
          have HO4 := hide' (HO3.out.ext X4.out)
          have HE4 := hide' (HE3.out.trans X4.out)
          clear hm X4 HO3 HE3 SA3 SB HW
          by_cases hc : C < 0
          · have HZ := hide' (HY1.out (by omega))
            clear HY1 HN1'
            go_wp2
            go_roundw
            case rel => exact ⟨k + 1, x + 1, by omega, by omega, by go_num, by go_num, HZ, HO4, HE4⟩
            case measure => simp [intOf] <;> omega
          · have d2 : decide (C < 0) = false := by simp; omega
            have HZ := hide' (HN1'.out (by omega))
            clear HY1 HN1'
            go_wp2
            go_roundw
            case rel => exact ⟨k + 1, x, by omega, by omega, by go_num, by go_num, HZ, HO4, HE4⟩
            case measure => simp [intOf] <;> omega
        · have d1 : decide ((k : Int) < n) = false := by simp; omega
          have hkn : k = n := by omega
          have HT := hide' (HTK.out i hlt)
          have HXX : Hid (hrN s H i n = x) := by have := HX.out; rw [hkn] at this; exact this
          rw [HXX.out] at HT
          have hsz := HE.out.size
          have HL := hide' (HTL.out i)
          clear hkn HX
          go_wp2_with (at_builtin; refine wpList_snoc _ rfl _ _ 22 rfl 3 .i64 8 Try.underlying22 infoI64 w.heap.size _ (natL ((hrL s H).take i)) (x : Int) ⟨wr.heap.size, 0, none⟩ rfl rfl ?c4 (HO.out.alloc _) ?c3 ?c5 ?_)
          case c3 => have := HL.out; unfold maxLen; omega
          case c5 => simp; omega
          case c4 => simp only [World.cell?, heap_alloc_top]; simp
          intro v1 w5 ho1 hb1
          have HO1 : Hid (Own .i64 3 w.heap.size w5 v1 (natL ((hrL s H).take (i + 1)))) := by rw [HT.out]; exact ho1
          have HE1 : Hid (Ext w w5) := Below.trans (HE.out.trans (ext_alloc _ _)) hb1
          clear ho1 hb1
          go_wp2
          go_roundw
          case rel => exact ⟨i + 1, by omega, by go_num, HO1, HE1⟩
          case measure => simp [intOf] <;> omega
    · have d1 : decide ((i : Int) < n) = false := by simp; omega
      have hin : i = n := by omega
      have HF : Hid (Own .i64 3 w.heap.size wr u5 (natL (hrL s H))) := by
        have := HO.out
        rw [hin, HTA.out] at this
        exact this
      go_wp2
      go_ret
      exact ⟨_, rfl, HF.out, HE.out⟩
end Go.Proofs.Ytimhkmnohkbniaa
