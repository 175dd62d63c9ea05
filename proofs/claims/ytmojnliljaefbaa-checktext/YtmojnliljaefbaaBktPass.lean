/- Contract of bucket.Pass. -/
import Derived.Test.YtmojnliljaefbaaBktCounts
import Derived.Test.YtmojnliljaefbaaBktStarts
import Derived.Test.YtmojnliljaefbaaBktKeys
namespace Go.Proofs.Ytmojnliljaefbaa
set_option linter.unusedVariables false
set_option linter.unusedSimpArgs false
open Go.RowKit

/-- What stands ahead of each key of an order's places. -/
theorem starts_offs {ps : List Nat} {ks : List Int} {K : Nat} (h : passB (natL ps) ks (K : Int) = true) :
    (∀ q, q ≤ K → sumI (natL (cntsI (ownI (natL ps) ks) K)) q = (offs ps (keyN ks) q : Int)) ∧ startsI (natL (cntsI (ownI (natL ps) ks) K)) = natL ((List.range K).map (offs ps (keyN ks))) := by
  have h1 : ∀ q, q ≤ K → sumI (natL (cntsI (ownI (natL ps) ks) K)) q = (offs ps (keyN ks) q : Int) := by
    refine sum_offs fun q hq => ?_
    rw [cntsI_at _ hq, ownI_len, natL_len, cntI_pick (ps := ps) (key := keyN ks) (fun j hj => ?_) q _ (Nat.le_refl _), List.take_length]
    rw [ownI_key h (by rw [natL_len]; exact hj), toN_nat]
  refine ⟨h1, ?_⟩
  refine getD_ext (by rw [startsI_len, natL_len, natL_len, cntsI_len]; simp) fun q hq => ?_
  rw [startsI_len, natL_len, cntsI_len] at hq
  rw [startsI_at _ (by rw [natL_len, cntsI_len]; exact hq), h1 q (by omega), natL_at, mapI_at _ _ hq]

set_option maxHeartbeats 1000000 in
theorem pass_any (v u : Value) (os ks : List Int) (k : Int) (w : World) (hv : Sl .i64 w v os) (hu : Sl .i64 w u ks) (hlen : os.length ≤ 1000000) (hlen2 : ks.length ≤ 1000000) :
    Calls Try.prog 15 #[v, u, .int .i64 k] w fun e w' => ∃ s, e = .returned (.tuple #[s, .bool (passB os ks k)]) ∧ Own .i64 3 w.heap.size w' s (passI os ks k) ∧ Ext w w' := by
  have HV := hide' hv
  have HU := hide' hu
  by_cases hp : passB os ks k = true
  · obtain ⟨hf, hg⟩ := passB_iff.1 hp
    obtain ⟨h0, h1, _⟩ := fitB_iff.1 hf
    obtain ⟨K, rfl⟩ := Int.eq_ofNat_of_zero_le h0
    obtain ⟨ps, rfl⟩ : ∃ ps, os = natL ps := ⟨toN os, (natL_toN hg).symm⟩
    have HKM : Hid (∀ p ∈ ps, keyN ks p < K) := fun p hp2 => by
      have := passB_key hp p (by rw [toN_nat]; exact hp2)
      simpa using this
    have HPI : Hid (passI (natL ps) ks (K : Int) = natL (csort K ps (keyN ks))) := by
      show _ = _
      rw [passI_yes hp, toN_nat, Int.toNat_natCast]
    obtain ⟨hso1, hso2⟩ := starts_offs hp
    have HCY : Hid (countsI (ownI (natL ps) ks) (K : Int) = natL (cntsI (ownI (natL ps) ks) K)) := by
      show _ = _
      rw [countsI_yes (ownI_fit hp), Int.toNat_natCast]
    have HSB : Hid (∀ i, i ≤ (natL (cntsI (ownI (natL ps) ks) K)).length → -4611686018427387904 ≤ sumI (natL (cntsI (ownI (natL ps) ks) K)) i ∧ sumI (natL (cntsI (ownI (natL ps) ks) K)) i ≤ 4611686018427387904) := fun i hi => by
      rw [natL_len, cntsI_len] at hi
      rw [hso1 i hi]
      have h3 := offs_mono ps (keyN ks) hi
      rw [csort_len HKM.out] at h3
      rw [natL_len] at hlen
      omega
    have HOK : Hid (∀ j, j < ps.length → (ownI (natL ps) ks).getD j 0 = (keyN ks (ps.getD j 0) : Int)) := fun j hj => by
      rw [ownI_key hp (by rw [natL_len]; exact hj), toN_nat]
    have HOL : Hid ((ownI (natL ps) ks).length = ps.length) := by show _ = _; rw [ownI_len, natL_len]
    have HSO := hide' hso2
    have HOF := hide' (ownI_fit hp)
    have HP := hide' hp
    have HF := hide' hf
    have HG := hide' hg
    have HLK := hide' hlen2
    have HLO := hide' hlen
    rw [natL_len] at hlen
    obtain ⟨a, c, rfl, _⟩ := hv
    obtain ⟨a', c', rfl, _⟩ := hu
    obtain ⟨_, _, _, hcv⟩ := HV.out.nat
    have CV := hide' hcv
    obtain ⟨n, HN⟩ : ∃ n, Hid (ps.length = n) := ⟨_, rfl⟩
    obtain ⟨OW, HOW⟩ : ∃ l, Hid (ownI (natL ps) ks = l) := ⟨_, rfl⟩
    rw [HPI.out, HP.out]
    rw [HOW.out] at HCY HSB HOK HOL HSO HOF
    rw [natL_len, HN.out] at CV HV ⊢
    rw [HN.out] at hlen HOK HOL
    clear hcv hp hf hg hso1 hso2 h0 hlen2
    go_enter Try.func15, Try.ntmps15
    go_wp2_with fail
    refine (fit_any _ ks _ _ HU.out HLK.out).mono ?_
    rw [HF.out]
    rintro e _ ⟨rfl, hw⟩
    rw [hw]
    clear hw
    go_wp2_with fail
    refine (keysOf_any _ _ (natL ps) ks _ HV.out HU.out HLO.out HLK.out).mono ?_
    rw [HG.out]
    rintro e w2 ⟨s2, rfl, ho2, he2⟩
    have HO2 := hide' (ho2 rfl)
    have HE2 := hide' he2
    rw [HOW.out] at HO2
    clear ho2 he2
    go_wp2_with fail
    refine (counts_any _ OW _ _ HO2.out.sl (by rw [HOL.out]; exact hlen)).mono ?_
    rw [HOF.out, HCY.out]
    rintro e w3 ⟨s3, rfl, ho3, he3⟩
    have HO3 := hide' ho3
    have HE3 := hide' he3
    clear ho3 he3
    go_wp2_with fail
    refine (starts_any _ _ _ HO3.out.sl (by rw [natL_len, cntsI_len]; omega) HSB.out).mono ?_
    rw [HSO.out]
    rintro e w4 ⟨s4, rfl, ho4, he4⟩
    have HO4 := hide' ho4
    have HE4 := hide' (HE3.out.trans he4)
    have hB3 : w2.heap.size ≤ w3.heap.size := HE3.out.size
    have hG2 : w2.heap.size ≤ w4.heap.size := HE4.out.size
    clear ho4 he4 HO3 HE3
    obtain ⟨w5, hmk, ho, he⟩ := make_nats w4 n hlen
    have HO5 := hide' ho
    have HN4 := hide' (HO4.out.ext he)
    have HE5 := hide' (HE4.out.trans he)
    have HSH : Hid (0 < K → ∃ g cap, s4 = .slice (some ⟨g, 0, none⟩) K cap ∧ w3.heap.size ≤ g ∧ g < w4.heap.size) := fun hK => by
      have hl : (natL ((List.range K).map (offs ps (keyN ks)))).length = K := by rw [natL_len]; simp
      obtain ⟨g, cap, h3, h4, _⟩ := HO4.out.shape (fun e => by rw [e] at hl; simp at hl; omega)
      rw [hl] at h3
      exact ⟨g, cap, h3, h4, (World.ownsRow.lt HO4.out g (by rw [h3]; rfl)).2⟩
    have HF0 : Hid (Fill ps (keyN ks) K 0 ((List.range K).map (offs ps (keyN ks))) (List.replicate n 0)) := Fill.start fun q hq => mapI_at _ _ hq
    have HL0 : Hid (((List.range K).map (offs ps (keyN ks))).length = K) := by show _ = _; simp
    have HSL2 := hide' HO2.out.sl
    obtain ⟨a2, c2, rfl, _⟩ := HO2.out.sl
    obtain ⟨_, _, _, hc2⟩ := HSL2.out.int
    have C2 := hide' hc2
    rw [HOL.out] at C2 ⊢
    have HE02 := hide' HE2.out
    clear ho he HO4 HE4 hc2 HO2 HSL2
    go_wp2
    clear hmk
    generalize hG : w4.heap.size = G at *
    go_loopw [42] (fun vi wq => ∃ (t : Nat) (fr row : List Nat), t ≤ n ∧ vi = .int .i64 t ∧ Hid (fr.length = K) ∧ Hid (row.length = n) ∧ Hid (Fill ps (keyN ks) K t fr row) ∧
      Hid (Own .i64 3 w3.heap.size wq s4 (natL fr)) ∧ Hid (Own .i64 3 G wq (.slice (some ⟨G, 0, none⟩) n n) (natL row)) ∧ Hid (Ext w2 wq)) (fun vi _ => n - (intOf vi).toNat)
    case atStart => exact ⟨0, _, List.replicate n 0, Nat.zero_le _, rfl, HL0, List.length_replicate, HF0, HN4, HO5, HE5⟩
    case round =>
      clear HF0 HO5 HN4 HE5 HL0
      obtain ⟨t, fr, row, ht, rfl, HL1, HL2, HFI, HO1, HO2, HE⟩ := hrel
      by_cases hlt : t < n
      · have hlt' : (t : Int) < n := by omega
        obtain ⟨g1, o1, rfl, k1⟩ := CV.out (by omega)
        obtain ⟨g2, o2, rfl, k2⟩ := C2.out (by omega)
        have c1 := HE.out.cellOf (HE2.out.cellOf (k1 t hlt))
        have c2 := HE.out.cellOf (k2 t hlt)
        rw [HOK.out t hlt] at c2
        clear k1 k2
        have hfa := HFI.out.at HKM.out (by rw [HN.out]; exact hlt)
        have hkp := HKM.out _ (getN_mem (l := ps) (i := t) (by rw [HN.out]; exact hlt))
        have HF2 := hide' (HFI.out.next HKM.out (by rw [HN.out]; exact hlt) (by rw [HL2.out, HN.out]) (by rw [HL1.out]; omega))
        rw [HN.out] at hfa
        obtain ⟨p, HPP⟩ : ∃ p, Hid (ps.getD t 0 = p) := ⟨_, rfl⟩
        rw [HPP.out] at c1 c2 hkp hfa HF2
        obtain ⟨q, HQ⟩ : ∃ q, Hid (keyN ks p = q) := ⟨_, rfl⟩
        rw [HQ.out] at c2 hkp hfa HF2
        obtain ⟨g, cap, rfl, hg3, hgG⟩ := HSH.out (by omega)
        have hne : g ≠ G := by omega
        have c3 := HO1.out.intCell HL1.out q (by omega)
        obtain ⟨f, HFF⟩ : ∃ f, Hid (fr.getD q 0 = f) := ⟨_, rfl⟩
        rw [HFF.out] at c3 hfa HF2
        have z2 := HO2.out.frozen (by rw [natL_len]; exact HL2.out) f
        have c4 := HO2.out.intCell HL2.out f hfa
        have P2 := hide' (HO2.out.storeN HL2.out f p)
        have P1 := hide' (HO1.out.keep hne (but_set wr G f (.int .i64 (p : Int))))
        have z1 := P1.out.frozen (by rw [natL_len]; exact HL1.out) q
        have c5 := P1.out.intCell HL1.out q (by omega)
        rw [HFF.out] at c5
        have R1 := hide' (P1.out.storeN HL1.out q (f + 1))
        have R2 := hide' (P2.out.keep (Ne.symm hne) (but_set (wr.setCell ⟨G, f, none⟩ (.int .i64 (p : Int))) g q (.int .i64 ((f + 1 : Nat) : Int))))
        have b2 : (q : Int) < K := by omega
        have b4 : (f : Int) < n := by omega
        have XE : Hid (Ext w2 ((wr.setCell ⟨G, f, none⟩ (.int .i64 (p : Int))).setCell ⟨g, q, none⟩ (.int .i64 ((f + 1 : Nat) : Int)))) := by
          refine Ext.but (Ext.but HE.out hG2 (but_set wr G f (.int .i64 (p : Int)))) (by omega) (but_set _ g q _)
        go_wp2
        go_roundw
        case rel => exact ⟨t + 1, _, _, by omega, by go_num, (show _ = _ by rw [List.length_set]; exact HL1.out), (show _ = _ by rw [List.length_set]; exact HL2.out), HF2, R1, R2, XE⟩
        case measure => simp [intOf]; omega
      · have hlt' : decide ((t : Int) < n) = false := by simp; omega
        have hti : t = n := by omega
        subst hti
        have HQ : Hid (row = csort K ps (keyN ks)) := by
          have := HFI.out
          rw [← HN.out] at this
          exact this.done HKM.out (by rw [HL2.out, HN.out])
        have hB : w.heap.size ≤ G := by have := HE2.out.size; omega
        go_wp2
        go_ret2
        exact ⟨_, rfl, by rw [← HQ.out]; exact HO2.out.low hB, HE2.out.trans HE.out⟩
  · have hp' : passB os ks k = false := by simpa using hp
    have HP := hide' hp'
    have HPI : Hid (passI os ks k = []) := passI_no hp'
    have HLK := hide' hlen2
    have HLO := hide' hlen
    rw [HPI.out, HP.out]
    by_cases hf : fitB ks k = true
    · have HG : Hid (goodI (ks.length : Int) os = false) := by
        show _ = _
        rw [Bool.eq_false_iff]
        intro hg
        exact hp (passB_iff.2 ⟨hf, hg⟩)
      have HF := hide' hf
      obtain ⟨a, c, rfl, _⟩ := hv
      obtain ⟨a', c', rfl, _⟩ := hu
      clear hp hp' hf
      go_enter Try.func15, Try.ntmps15
      go_wp2_with fail
      refine (fit_any _ ks _ _ HU.out HLK.out).mono ?_
      rw [HF.out]
      rintro e _ ⟨rfl, hw⟩
      rw [hw]
      clear hw
      go_wp2_with fail
      refine (keysOf_any _ _ os ks _ HV.out HU.out HLO.out HLK.out).mono ?_
      rw [HG.out]
      rintro e w2 ⟨s2, rfl, _, he2⟩
      have HE2 := hide' he2
      clear he2
      go_wp2
      go_ret2
      exact ⟨_, rfl, Own.nil _ _ _ _, HE2.out⟩
    · have HF : Hid (fitB ks k = false) := by show _ = _; simpa using hf
      obtain ⟨a, c, rfl, _⟩ := hv
      obtain ⟨a', c', rfl, _⟩ := hu
      clear hp hp' hf
      go_enter Try.func15, Try.ntmps15
      go_wp2_with fail
      refine (fit_any _ ks _ _ HU.out HLK.out).mono ?_
      rw [HF.out]
      rintro e _ ⟨rfl, hw⟩
      rw [hw]
      clear hw
      go_wp2
      go_ret2
      exact ⟨_, rfl, Own.nil _ _ _ _, Ext.refl _⟩
end Go.Proofs.Ytmojnliljaefbaa
