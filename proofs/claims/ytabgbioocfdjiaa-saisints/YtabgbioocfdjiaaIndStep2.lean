/- Contract of induce.layLarge. -/
import Derived.Test.YtabgbioocfdjiaaIndPut
import Derived.Test.YtabgbioocfdjiaaIndAll
import Derived.Test.YtabgbioocfdjiaaBools
namespace Go.Proofs.Ytabgbioocfdjiaa
set_option linter.unusedVariables false
set_option linter.unusedSimpArgs false
open Go.RowKit

theorem stepB_no {s : List Int} {st : List Int × List Nat} {j : Int} (h : j ≤ 0) : stepB s st j = st := if_neg (by omega)
theorem stepB_small {s : List Int} {st : List Int × List Nat} {p : Nat} (h : smB s p = true) : stepB s st ((p + 1 : Nat) : Int) = st := by
  unfold stepB
  rw [show (((p + 1 : Nat) : Int) - 1).toNat = p by omega, h, if_neg (by simp)]
theorem stepB_yes {s : List Int} {st : List Int × List Nat} {p : Nat} (h : smB s p = false) : stepB s st ((p + 1 : Nat) : Int) = putB s st p := by
  unfold stepB
  rw [show (((p + 1 : Nat) : Int) - 1).toNat = p by omega, h, if_pos ⟨by omega, rfl⟩]
theorem stepE_no {s : List Int} {st : List Int × List Nat} {j : Int} (h : j ≤ 0) : stepE s st j = st := if_neg (by omega)
theorem stepE_large {s : List Int} {st : List Int × List Nat} {p : Nat} (h : smB s p = false) : stepE s st ((p + 1 : Nat) : Int) = st := by
  unfold stepE
  rw [show (((p + 1 : Nat) : Int) - 1).toNat = p by omega, h, if_neg (by simp)]
theorem stepE_yes {s : List Int} {st : List Int × List Nat} {p : Nat} (h : smB s p = true) : stepE s st ((p + 1 : Nat) : Int) = putE s st p := by
  unfold stepE
  rw [show (((p + 1 : Nat) : Int) - 1).toNat = p by omega, h, if_pos ⟨by omega, rfl⟩]
/-- What the second step reads, and where it lays. -/
theorem st2_ok {s : List Int} {K : Nat} {F : List Nat} (f : Fits s K) (hF : Firsts s F) {i : Nat} (hi : i < s.length) : (st2 s K F (i + 1)).1.length = s.length ∧ (st2 s K F (i + 1)).2.length = K ∧ -1 ≤ (st2 s K F (i + 1)).1.getD i 0 ∧ (st2 s K F (i + 1)).1.getD i 0 < s.length ∧
    ∀ p : Nat, (st2 s K F (i + 1)).1.getD i 0 = ((p + 1 : Nat) : Int) → smB s p = false → keyN s p < K ∧ (st2 s K F (i + 1)).2.getD (keyN s p) 0 < s.length := by
  obtain ⟨P, h⟩ := st2_all f hF (by omega) i (by omega)
  have b := based2 f hF
  obtain ⟨v1, v2⟩ := h.val b hi
  refine ⟨h.beg.rl, h.beg.pl, v1, v2, fun p hp hT => ?_⟩
  obtain ⟨_, g2, g3, _⟩ := h.ok f b hi hp hT
  exact ⟨g2, g3⟩
theorem st2_vals {s : List Int} {K : Nat} {F : List Nat} (f : Fits s K) (hF : Firsts s F) : (st2 s K F (s.length + 1)).1.length = s.length ∧ ∀ x, x < s.length → -1 ≤ (st2 s K F (s.length + 1)).1.getD x 0 ∧ (st2 s K F (s.length + 1)).1.getD x 0 < s.length := by
  by_cases hn : 0 < s.length
  · obtain ⟨P, h⟩ := st2_all f hF hn s.length (Nat.le_refl _)
    exact ⟨h.beg.rl, fun x hx => h.val (based2 f hF) hx⟩
  · refine ⟨?_, fun x hx => by omega⟩
    have h0 : s.length = 0 := by omega
    have hs : s = [] := List.length_eq_zero_iff.1 h0
    have hFe : F = [] := by
      have := hF.perm
      rw [hs] at this
      exact List.perm_nil.1 this
    subst hs
    subst hFe
    rfl

set_option maxHeartbeats 1000000 in
theorem layLarge_any (B1 B2 g K : Nat) (sv bv ev : Value) (s : List Int) (F : List Nat) (w0 w : World) (f : Fits s K) (hF : Firsts s F) (hs : Sl .i64 w0 sv s) (hb : SlB w0 bv (smallI s)) (he : Ext w0 w)
    (h1 : Own .i64 3 B1 w (.slice (some ⟨g, 0, none⟩) s.length s.length) (st2 s K F 0).1) (h2 : Own .i64 3 B2 w ev (natL (st2 s K F 0).2)) (hg0 : w0.heap.size ≤ g) (hgB : g < B2) (hn9 : s.length ≤ 1000000) :
    Calls Try.prog 29 #[.slice (some ⟨g, 0, none⟩) s.length s.length, sv, bv, ev] w fun e w' => e = .returned (.tuple #[]) ∧ Own .i64 3 B1 w' (.slice (some ⟨g, 0, none⟩) s.length s.length) (st2 s K F (s.length + 1)).1 ∧ Ext w0 w' := by
  have HV := hide' hs
  have HB := hide' hb
  have HE0 := hide' he
  have O1 := hide' h1
  have O2 := hide' h2
  obtain ⟨a0, c0, rfl, _⟩ := hs
  obtain ⟨a, c, rfl, _⟩ := hb
  obtain ⟨_, _, _, hcv⟩ := HB.out.truth
  have CV := hide' hcv
  by_cases hn0 : 0 < s.length
  rotate_left
  · have h0 : s.length = 0 := by omega
    have hs : s = [] := List.length_eq_zero_iff.1 h0
    have hFe : F = [] := by
      have := hF.perm
      rw [hs] at this
      exact List.perm_nil.1 this
    have HEQ : Hid ((st2 s K F (s.length + 1)).1 = (st2 s K F 0).1) := by
      subst hs
      subst hFe
      rfl
    rw [HEQ.out, h0]
    rw [h0] at O1
    clear hs hFe HEQ h1 h2 hn0 hcv he
    go_enter Try.func29, Try.ntmps29
    go_wp2
    first | go_end0 | (simp only [Exit.inBlock, Exit.then]; refine bodyPost_ret (results_none rfl _ _ _) rfl ?_) | refine bodyPost_ret (results_none rfl _ _ _) rfl ?_
    exact ⟨rfl, O1.out, HE0.out⟩
  · have HFT := hide' f
    have HOK : Hid (∀ i, i < s.length → (st2 s K F (i + 1)).1.length = s.length ∧ (st2 s K F (i + 1)).2.length = K ∧ -1 ≤ (st2 s K F (i + 1)).1.getD i 0 ∧ (st2 s K F (i + 1)).1.getD i 0 < s.length ∧
      ∀ p : Nat, (st2 s K F (i + 1)).1.getD i 0 = ((p + 1 : Nat) : Int) → smB s p = false → keyN s p < K ∧ (st2 s K F (i + 1)).2.getD (keyN s p) 0 < s.length) := fun i hi => st2_ok f hF hi
    have HST : Hid (∀ i, st2 s K F (i + 2) = stepB s (st2 s K F (i + 1)) ((st2 s K F (i + 1)).1.getD i 0)) := fun i => st2_next i
    have HS1 : Hid (st2 s K F 1 = putB s (st2 s K F 0) (s.length - 1)) := st2_one hn0
    obtain ⟨q1, q2, _⟩ := st2_first f hF hn0
    have qb := st2_begin f hF
    have HLB : Hid ((smallI s).length = s.length) := smallI_len s
    have HSM : Hid (∀ i, i < s.length → (smallI s).getD i false = smB s i) := fun i hi => smallI_at hi
    rw [HLB.out] at CV HB ⊢
    obtain ⟨n, HN⟩ : ∃ n, Hid (s.length = n) := ⟨_, rfl⟩
    have HQ1 := hide' qb.rl
    have HQ2 := hide' qb.pl
    rw [HN.out] at CV HB HOK HS1 q1 q2 HSM O1 hn9 hn0 HQ1 HV ⊢
    obtain ⟨m, HM⟩ : ∃ m, Hid (n - 1 = m) := ⟨_, rfl⟩
    rw [HM.out] at q1 q2 HS1
    have hmn : m < n := by have := HM.out; omega
    have hm1 : (n : Int) - 1 = (m : Int) := by have := HM.out; omega
    have hnz : ((n : Int) == 0) = false := by simp; omega
    obtain ⟨h, cap, hev, hh, hcap⟩ := O2.out.shape (fun e => by
      have : (natL (st2 s K F 0).2).length = 0 := by rw [e]; rfl
      rw [natL_len, HQ2.out] at this
      omega)
    rw [natL_len, HQ2.out] at hev
    subst hev
    have C := hide' (layNext_any B1 B2 g h n K cap m _ s (st2 s K F 0) w (HV.out.ext HE0.out) O1.out O2.out (by omega) HQ1.out HQ2.out HN.out hmn q1 (HFT.out.num m (by rw [HN.out]; exact hmn)) q2 hn9)
    rw [← HS1.out] at C
    clear hcv h1 h2 he hF f HLB qb q1 q2 O1 O2 hcap HS1 HQ1 HQ2
    go_enter Try.func29, Try.ntmps29
    go_wp2_with fail
    refine C.out.mono ?_
    rintro e w2 ⟨rfl, ho1, ho2, hex⟩
    have P1 := hide' ho1
    have P2 := hide' ho2
    have PE := hide' (hex w0 HE0.out hg0 (by omega))
    clear ho1 ho2 hex C HE0
    go_wp2
    go_loopw [22] (fun vi wr => ∃ (i : Nat), i ≤ n ∧ vi = .int .i64 i ∧ Hid (Own .i64 3 B1 wr (.slice (some ⟨g, 0, none⟩) n n) (st2 s K F (i + 1)).1) ∧
      Hid (Own .i64 3 B2 wr (.slice (some ⟨h, 0, none⟩) K cap) (natL (st2 s K F (i + 1)).2)) ∧ Hid (Ext w0 wr)) (fun vi _ => n - (intOf vi).toNat)
    case atStart => exact ⟨0, Nat.zero_le _, rfl, P1, P2, PE⟩
    case round =>
      clear P1 P2 PE
      obtain ⟨i, hi, rfl, O1, O2, HE⟩ := hrel
      by_cases hlt : i < n
      · have hlt' : (i : Int) < n := by omega
        obtain ⟨q1, q2, v1, v2, hok⟩ := HOK.out i hlt
        have HS1 := hide' (HST.out i)
        have HO := hide' hok
        have HQ1 := hide' q1
        have HQ2 := hide' q2
        have c1 := O1.out.cell q1 i hlt
        obtain ⟨j, HJ⟩ : ∃ j, Hid ((st2 s K F (i + 1)).1.getD i 0 = j) := ⟨_, rfl⟩
        rw [HJ.out] at c1 v1 v2 HS1 HO
        clear hok q1 q2
        by_cases h0 : j ≤ 0
        · have d1 : decide (0 < j) = false := by simp; omega
          rw [stepB_no h0] at HS1
          have R1 : Hid (Own .i64 3 B1 wr (.slice (some ⟨g, 0, none⟩) n n) (st2 s K F (i + 2)).1) := by rw [HS1.out]; exact O1.out
          have R2 : Hid (Own .i64 3 B2 wr (.slice (some ⟨h, 0, none⟩) K cap) (natL (st2 s K F (i + 2)).2)) := by rw [HS1.out]; exact O2.out
          clear h0 v1 v2
          go_wp2
          go_roundw
          case rel => exact ⟨i + 1, by omega, by go_num, R1, R2, HE⟩
          case measure => simp [intOf] <;> omega
        · obtain ⟨p, HP⟩ : ∃ p : Nat, Hid (j = ((p + 1 : Nat) : Int)) := ⟨(j - 1).toNat, by show _ = _; omega⟩
          have hj0 : 0 < j := by omega
          have hjp : j - 1 = (p : Int) := by have := HP.out; omega
          have hpn : p < n := by have := HP.out; omega
          have hpn' : (p : Int) < n := by omega
          obtain ⟨g1, o1, rfl, k1⟩ := CV.out (by omega)
          have c2 := HE.out.cellOf (k1 p hpn)
          rw [HSM.out p hpn] at c2
          clear k1 v1 v2 h0
          cases hsp : smB s p
          rotate_left
          · rw [hsp] at c2
            rw [HP.out, stepB_small hsp] at HS1
            have R1 : Hid (Own .i64 3 B1 wr (.slice (some ⟨g, 0, none⟩) n n) (st2 s K F (i + 2)).1) := by rw [HS1.out]; exact O1.out
            have R2 : Hid (Own .i64 3 B2 wr (.slice (some ⟨h, 0, none⟩) K cap) (natL (st2 s K F (i + 2)).2)) := by rw [HS1.out]; exact O2.out
            clear hsp
            go_wp2
            go_roundw
            case rel => exact ⟨i + 1, by omega, by go_num, R1, R2, HE⟩
            case measure => simp [intOf] <;> omega
          · rw [hsp] at c2
            rw [HP.out, stepB_yes hsp] at HS1
            obtain ⟨k1, k2⟩ := HO.out p HP.out hsp
            have C := hide' (layNext_any B1 B2 g h n K cap p _ s (st2 s K F (i + 1)) wr (HV.out.ext HE.out) O1.out O2.out (by omega) HQ1.out HQ2.out HN.out hpn k1 (HFT.out.num p (by rw [HN.out]; exact hpn)) k2 hn9)
            rw [← HS1.out] at C
            clear hsp k1 k2 O1 O2
            go_wp2_with fail
            refine C.out.mono ?_
            rintro e w3 ⟨rfl, ho1, ho2, hex⟩
            have R1 := hide' ho1
            have R2 := hide' ho2
            have RE := hide' (hex w0 HE.out hg0 (by omega))
            clear ho1 ho2 hex C
            go_wp2
            go_roundw
            case rel => exact ⟨i + 1, by omega, by go_num, R1, R2, RE⟩
            case measure => simp [intOf] <;> omega
      · have hlt' : decide ((i : Int) < n) = false := by simp; omega
        have hin : i = n := by omega
        subst hin
        go_wp2
        first | go_end0 | (simp only [Exit.inBlock, Exit.then]; refine bodyPost_ret (results_none rfl _ _ _) rfl ?_) | refine bodyPost_ret (results_none rfl _ _ _) rfl ?_
        exact ⟨rfl, O1.out, HE.out⟩
end Go.Proofs.Ytabgbioocfdjiaa
