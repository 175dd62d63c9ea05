/- Contract of omega.ranked. -/
import Derived.Test.YtifemkgkgghapaaRkMath
import Derived.Test.YtifemkgkgghapaaOmSorted
namespace Go.Proofs.Ytifemkgkgghapaa
set_option linter.unusedVariables false
set_option linter.unusedSimpArgs false
open Go.RowKit

theorem perm_nodup {ord : List Nat} {M : Nat} (h : ord.Perm (List.range M)) {i j : Nat} (hi : i < M) (hj : j < M) (hne : i ≠ j) : ord.getD i 0 ≠ ord.getD j 0 := by
  have hl : ord.length = M := by rw [h.length_eq, List.length_range]
  have hn : ord.Nodup := h.symm.nodup (List.nodup_range)
  intro e
  have h1 : ord[i]'(by omega) = ord[j]'(by omega) := by
    simpa [List.getD, List.getElem?_eq_getElem (show i < ord.length by omega), List.getElem?_eq_getElem (show j < ord.length by omega)] using e
  exact hne ((List.getElem_inj hn).1 h1)

theorem clsT_same {ord : List Nat} {f s : Nat → Nat} {J : Nat} (h : f (ord.getD (J + 1) 0) = f (ord.getD J 0) ∧ s (ord.getD (J + 1) 0) = s (ord.getD J 0)) : clsT ord f s (J + 2) = clsT ord f s (J + 1) := by
  show cls ord f s (J + 1) + 1 = cls ord f s J + 1
  have hc : cls ord f s (J + 1) = cls ord f s J + (if f (ord.getD (J + 1) 0) = f (ord.getD J 0) ∧ s (ord.getD (J + 1) 0) = s (ord.getD J 0) then 0 else 1) := rfl
  rw [hc, if_pos h]
theorem clsT_other {ord : List Nat} {f s : Nat → Nat} {J : Nat} (h : ¬ (f (ord.getD (J + 1) 0) = f (ord.getD J 0) ∧ s (ord.getD (J + 1) 0) = s (ord.getD J 0))) : clsT ord f s (J + 2) = clsT ord f s (J + 1) + 1 := by
  show cls ord f s (J + 1) + 1 = cls ord f s J + 1 + 1
  have hc : cls ord f s (J + 1) = cls ord f s J + (if f (ord.getD (J + 1) 0) = f (ord.getD J 0) ∧ s (ord.getD (J + 1) 0) = s (ord.getD J 0) then 0 else 1) := rfl
  rw [hc, if_neg h]
theorem clsT_le (ord : List Nat) (f s : Nat → Nat) (i : Nat) : clsT ord f s i ≤ i := by
  cases i with
  | zero => exact Nat.le_refl _
  | succ i => have := cls_le ord f s i; show cls ord f s i + 1 ≤ _; omega

set_option maxHeartbeats 2000000 in
theorem ranked_any (v u x : Value) (ord fs ss : List Nat) (M : Nat) (w : World) (hv : Sl .i64 w v (natL ord)) (hu : Sl .i64 w u (natL fs)) (hx : Sl .i64 w x (natL ss)) (hp : ord.Perm (List.range M)) (hf : fs.length = M) (hs : ss.length = M) (hlen : M ≤ 100000) :
    Calls Try.prog 29 #[v, u, x] w fun e w' => ∃ s bs, e = .returned (.tuple #[s, .int .i64 (clsT ord (fun p => fs.getD p 0) (fun p => ss.getD p 0) M : Nat)]) ∧ bs.length = M ∧ (∀ i, i < M → bs.getD (ord.getD i 0) 0 = cls ord (fun p => fs.getD p 0) (fun p => ss.getD p 0) i) ∧
      Own .i64 3 w.heap.size w' s (natL bs) ∧ Ext w w' := by
  have HV := hide' hv
  have HU := hide' hu
  have HX := hide' hx
  have hl : ord.length = M := by rw [hp.length_eq, List.length_range]
  obtain ⟨a, c, rfl, _⟩ := hv
  obtain ⟨a', c', rfl, _⟩ := hu
  obtain ⟨a2, c2, rfl, _⟩ := hx
  rw [natL_len] at HV HU HX ⊢
  rw [natL_len, natL_len]
  obtain ⟨_, hc1, hc2, hcv⟩ := HV.out.nat
  obtain ⟨_, hc3, hc4, hcu⟩ := HU.out.nat
  obtain ⟨_, hc5, hc6, hcx⟩ := HX.out.nat
  unfold maxLen at hc2 hc4 hc6
  rw [hl] at hcv hc1 ⊢
  rw [hf] at hcu hc3 ⊢
  rw [hs] at hcx hc5 ⊢
  have CV := hide' hcv
  have CU := hide' hcu
  have CX := hide' hcx
  have HP := hide' hp
  have HIN : Hid (∀ i, i < M → ord.getD i 0 < M) := fun i hi => List.mem_range.1 (HP.out.mem_iff.1 (getN_mem (by rw [hl]; exact hi)))
  clear hcv hcu hcx hp hf hs hl HV HU HX
  have HFD : Hid (∀ p, (fun p => fs.getD p 0) p = fs.getD p 0) := fun _ => rfl
  obtain ⟨F, HF⟩ : ∃ F : Nat → Nat, Hid (F = fun p => fs.getD p 0) := ⟨_, rfl⟩
  obtain ⟨S, HS⟩ : ∃ S : Nat → Nat, Hid (S = fun p => ss.getD p 0) := ⟨_, rfl⟩
  rw [← HF.out, ← HS.out]
  have HFA : Hid (∀ p, fs.getD p 0 = F p) := fun p => by rw [HF.out]
  have HSA : Hid (∀ p, ss.getD p 0 = S p) := fun p => by rw [HS.out]
  clear HFD
  obtain ⟨w1, hmk, ho, he⟩ := make_nats w M (by omega)
  have HO := hide' ho
  have HE := hide' he
  clear ho he
  go_enter Try.func29, Try.ntmps29
  go_wp2
  clear hmk
  go_loopw [7, 15] (fun vn vi wr => ∃ (i t : Nat) (bs : List Nat), i ≤ M ∧ t ≤ i ∧ vn = .int .i64 t ∧ vi = .int .i64 i ∧ Hid (clsT ord F S i = t) ∧ Hid (bs.length = M) ∧ Hid (∀ j, j < i → bs.getD (ord.getD j 0) 0 = cls ord F S j) ∧
    Hid (Own .i64 3 w.heap.size wr (.slice (some ⟨w.heap.size, 0, none⟩) M M) (natL bs)) ∧ Hid (Ext w wr)) (fun _ vi _ => M - (intOf vi).toNat)
  case atStart => exact ⟨0, 0, List.replicate M 0, Nat.zero_le _, Nat.le_refl _, rfl, rfl, rfl, List.length_replicate, (fun j hj => by omega), HO, HE⟩
  case round =>
    obtain ⟨i, t, bs, hi, htl, rfl, rfl, HT, HL, HB, HO, HE⟩ := hrel
    by_cases hlt : i < M
    · have hlt' : (i : Int) < M := by omega
      obtain ⟨g1, o1, rfl, k1⟩ := CV.out (by omega)
      obtain ⟨g2, o2, rfl, k2⟩ := CU.out (by omega)
      obtain ⟨g3, o3, rfl, k3⟩ := CX.out (by omega)
      have hp := HIN.out i hlt
      have c1 := HE.out.cellOf (k1 i hlt)
      have cf1 := HE.out.cellOf (k2 _ hp)
      have cs1 := HE.out.cellOf (k3 _ hp)
      rw [HFA.out] at cf1
      rw [HSA.out] at cs1
      have HNE : Hid (∀ j, j < i → ord.getD i 0 ≠ ord.getD j 0) := fun j hj => perm_nodup HP.out hlt (by omega) (by omega)
      -- what a round leaves, whatever the count
      have fin : ∀ q : Nat, clsT ord F S (i + 1) = q + 1 → Hid (∀ j, j < i + 1 → (bs.set (ord.getD i 0) q).getD (ord.getD j 0) 0 = cls ord F S j) := fun q hq j hj => by
        by_cases hji : j = i
        · subst hji
          rw [set_same (by rw [HL.out]; exact hp)]
          have : cls ord F S j + 1 = q + 1 := hq
          omega
        · rw [set_other (HNE.out j (by omega)), HB.out j (by omega)]
      have FIN := hide' fin
      clear fin
      by_cases h0 : i = 0
      · have hq : clsT ord F S (i + 1) = t + 1 := by rw [← HT.out, h0]; rfl
        have HB2 := FIN.out t hq
        have HT2 := hide' hq
        obtain ⟨p, HPP⟩ : ∃ p, Hid (ord.getD i 0 = p) := ⟨_, rfl⟩
        rw [HPP.out] at c1 hp HB2
        have hp' : (p : Int) < M := by omega
        have hfz := HO.out.frozen (by rw [natL_len]; exact HL.out) p
        have hci := HO.out.intCell HL.out p hp
        have d0 : ((i : Int) == 0) = true := by simp; exact h0
        have e1 : (t : Int) + 1 - 1 = (t : Int) := by omega
        clear k1 k2 k3 hq cf1 cs1 h0
        go_wp2_with fail
        go_quiet (fail)
        clear c1
        go_wp2
        go_roundw
        case rel => exact ⟨i + 1, t + 1, _, by omega, by omega, by go_num, by go_num, HT2, (show _ = _ by rw [List.length_set]; exact HL.out), HB2, (HO.out.ext (Ext.drewN wr _)).storeN HL.out p t, Ext.but (HE.out.trans (Ext.drewN wr _)) (Nat.le_refl _) (but_set _ _ _ _)⟩
        case measure => simp [intOf]; omega
      · obtain ⟨J, HJ⟩ : ∃ J, Hid (i = J + 1) := ⟨i - 1, by show _ = _; omega⟩
        have hJM : J < M := by have := HJ.out; omega
        have hJM' : (J : Int) < M := by omega
        have hJi : (i : Int) - 1 = (J : Int) := by have := HJ.out; omega
        have wJ : IntKind.i64.wrap (J : Int) = (J : Int) := by rw [IntKind.wrap_i64]; omega
        have hr := HIN.out J hJM
        have c2 := HE.out.cellOf (k1 J hJM)
        have cf2 := HE.out.cellOf (k2 _ hr)
        have cs2 := HE.out.cellOf (k3 _ hr)
        rw [HFA.out] at cf2
        rw [HSA.out] at cs2
        have TS : Hid (F (ord.getD i 0) = F (ord.getD J 0) ∧ S (ord.getD i 0) = S (ord.getD J 0) → clsT ord F S (i + 1) = t) := fun h => by
          rw [← HT.out, HJ.out]
          rw [HJ.out] at h
          exact clsT_same h
        have TO : Hid (¬ (F (ord.getD i 0) = F (ord.getD J 0) ∧ S (ord.getD i 0) = S (ord.getD J 0)) → clsT ord F S (i + 1) = t + 1) := fun h => by
          rw [← HT.out, HJ.out]
          rw [HJ.out] at h
          exact clsT_other h
        have hT1 : 1 ≤ t := by
          have h1 := HT.out
          rw [HJ.out] at h1
          have h2 : clsT ord F S (J + 1) = cls ord F S J + 1 := rfl
          omega
        obtain ⟨p, HPP⟩ : ∃ p, Hid (ord.getD i 0 = p) := ⟨_, rfl⟩
        obtain ⟨r, HRR⟩ : ∃ r, Hid (ord.getD J 0 = r) := ⟨_, rfl⟩
        rw [HPP.out] at c1 cf1 cs1 hp FIN TS TO
        rw [HRR.out] at c2 cf2 cs2 hr TS TO
        have hp' : (p : Int) < M := by omega
        have hr' : (r : Int) < M := by omega
        obtain ⟨fp, HFP⟩ : ∃ z, Hid (F p = z) := ⟨_, rfl⟩
        obtain ⟨fr, HFR⟩ : ∃ z, Hid (F r = z) := ⟨_, rfl⟩
        obtain ⟨sp, HSP⟩ : ∃ z, Hid (S p = z) := ⟨_, rfl⟩
        obtain ⟨sr, HSR⟩ : ∃ z, Hid (S r = z) := ⟨_, rfl⟩
        rw [HFP.out] at cf1 TS TO
        rw [HFR.out] at cf2 TS TO
        rw [HSP.out] at cs1 TS TO
        rw [HSR.out] at cs2 TS TO
        have hfz := HO.out.frozen (by rw [natL_len]; exact HL.out) p
        have hci := HO.out.intCell HL.out p hp
        have d0 : ((i : Int) == 0) = false := by simp; exact h0
        have e1 : (t : Int) + 1 - 1 = (t : Int) := by omega
        clear k1 k2 k3 h0
        by_cases hff : fp = fr
        · by_cases hss : sp = sr
          · have HT2 := hide' (TS.out ⟨hff, hss⟩)
            obtain ⟨q, hq⟩ : ∃ q, t = q + 1 := ⟨t - 1, by omega⟩
            have HB2 := FIN.out q (by rw [HT2.out]; exact hq)
            have e2 : (t : Int) - 1 = (q : Int) := by omega
            subst hff hss
            clear hq TS TO FIN e1
            go_wp2_with fail
            go_quiet (fail)
            clear c1 c2 cf1 cf2 cs1 cs2
            go_wp2
            go_roundw
            case rel => exact ⟨i + 1, t, _, by omega, by omega, rfl, by go_num, HT2, (show _ = _ by rw [List.length_set]; exact HL.out), HB2, (HO.out.ext (Ext.drewN wr _)).storeN HL.out p q, Ext.but (HE.out.trans (Ext.drewN wr _)) (Nat.le_refl _) (but_set _ _ _ _)⟩
            case measure => simp [intOf]; omega
          · have HT2 := hide' (TO.out (fun h => hss h.2))
            have HB2 := FIN.out t HT2.out
            have d2 : ((sp : Int) == (sr : Int)) = false := by simp; omega
            have d3 : ((sp : Int) != (sr : Int)) = true := by simp; omega
            subst hff
            clear hss TS TO FIN
            go_wp2_with fail
            go_quiet (fail)
            clear c1 c2 cf1 cf2 cs1 cs2
            go_wp2
            go_roundw
            case rel => exact ⟨i + 1, t + 1, _, by omega, by omega, by go_num, by go_num, HT2, (show _ = _ by rw [List.length_set]; exact HL.out), HB2, (HO.out.ext (Ext.drewN wr _)).storeN HL.out p t, Ext.but (HE.out.trans (Ext.drewN wr _)) (Nat.le_refl _) (but_set _ _ _ _)⟩
            case measure => simp [intOf]; omega
        · have HT2 := hide' (TO.out (fun h => hff h.1))
          have HB2 := FIN.out t HT2.out
          have d2 : ((fp : Int) == (fr : Int)) = false := by simp; omega
          have d3 : ((fp : Int) != (fr : Int)) = true := by simp; omega
          clear hff TS TO FIN
          go_wp2_with fail
          go_quiet (fail)
          clear c1 c2 cf1 cf2 cs1 cs2
          go_wp2
          go_roundw
          case rel => exact ⟨i + 1, t + 1, _, by omega, by omega, by go_num, by go_num, HT2, (show _ = _ by rw [List.length_set]; exact HL.out), HB2, (HO.out.ext (Ext.drewN wr _)).storeN HL.out p t, Ext.but (HE.out.trans (Ext.drewN wr _)) (Nat.le_refl _) (but_set _ _ _ _)⟩
          case measure => simp [intOf]; omega
    · have hlt' : decide ((i : Int) < M) = false := by simp; omega
      have hiM : i = M := by omega
      subst hiM
      go_wp2
      go_ret2
      exact ⟨_, bs, by rw [HT.out]; rfl, HL.out, HB.out, HO.out, HE.out⟩
end Go.Proofs.Ytifemkgkgghapaa
