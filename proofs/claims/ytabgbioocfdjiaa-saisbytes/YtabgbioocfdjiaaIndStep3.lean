/- Contract of induce.laySmall. -/
import Derived.Test.YtabgbioocfdjiaaIndStep2
namespace Go.Proofs.Ytabgbioocfdjiaa
set_option linter.unusedVariables false
set_option linter.unusedSimpArgs false
open Go.RowKit

theorem st3_ok {s : List Int} {K : Nat} {F : List Nat} (f : Fits s K) (hF : Firsts s F) {i : Nat} (hi : i < s.length) : (st3 s K F i).1.length = s.length ∧ (st3 s K F i).2.length = K ∧ -1 ≤ (st3 s K F i).1.getD (s.length - 1 - i) 0 ∧ (st3 s K F i).1.getD (s.length - 1 - i) 0 < s.length ∧
    ∀ p : Nat, (st3 s K F i).1.getD (s.length - 1 - i) 0 = ((p + 1 : Nat) : Int) → smB s p = true → keyN s p < K ∧ 1 ≤ (st3 s K F i).2.getD (keyN s p) 0 ∧ (st3 s K F i).2.getD (keyN s p) 0 ≤ s.length := by
  obtain ⟨P, h⟩ := st2_all f hF (by omega) s.length (Nat.le_refl _)
  obtain ⟨Q, h'⟩ := st3_all f hF h i (by omega)
  have b := based3 f h.scan.nodup h.scan.kind
  obtain ⟨v1, v2⟩ := h'.val b (x := s.length - 1 - i) (by omega)
  refine ⟨h'.fin.rl, h'.fin.pl, v1, v2, fun p hp hT => ?_⟩
  obtain ⟨_, g2, g3, g4, _⟩ := h'.ok f b hi hp hT
  exact ⟨g2, g3, g4⟩

set_option maxHeartbeats 1000000 in
theorem laySmall_any (B1 B2 g K : Nat) (sv bv ev : Value) (s : List Int) (F : List Nat) (w0 w : World) (f : Fits s K) (hF : Firsts s F) (hs : Sl .i64 w0 sv s) (hb : SlB w0 bv (smallI s)) (he : Ext w0 w)
    (h1 : Own .i64 3 B1 w (.slice (some ⟨g, 0, none⟩) s.length s.length) (st3 s K F 0).1) (h2 : Own .i64 3 B2 w ev (natL (st3 s K F 0).2)) (hg0 : w0.heap.size ≤ g) (hgB : g < B2) (hn9 : s.length ≤ 1000000) :
    Calls Try.prog 32 #[.slice (some ⟨g, 0, none⟩) s.length s.length, sv, bv, ev] w fun e w' => e = .returned (.tuple #[]) ∧ Own .i64 3 B1 w' (.slice (some ⟨g, 0, none⟩) s.length s.length) (indI s K F) ∧ Ext w0 w' := by
  have HV := hide' hs
  have HB := hide' hb
  have HE0 := hide' he
  have O1 := hide' h1
  have O2 := hide' h2
  obtain ⟨a0, c0, rfl, _⟩ := hs
  obtain ⟨a, c, rfl, _⟩ := hb
  obtain ⟨_, _, _, hcv⟩ := HB.out.truth
  have CV := hide' hcv
  have HFT := hide' f
  have HOK : Hid (∀ i, i < s.length → (st3 s K F i).1.length = s.length ∧ (st3 s K F i).2.length = K ∧ -1 ≤ (st3 s K F i).1.getD (s.length - 1 - i) 0 ∧ (st3 s K F i).1.getD (s.length - 1 - i) 0 < s.length ∧
    ∀ p : Nat, (st3 s K F i).1.getD (s.length - 1 - i) 0 = ((p + 1 : Nat) : Int) → smB s p = true → keyN s p < K ∧ 1 ≤ (st3 s K F i).2.getD (keyN s p) 0 ∧ (st3 s K F i).2.getD (keyN s p) 0 ≤ s.length) := fun i hi => st3_ok f hF hi
  have HST : Hid (∀ i, st3 s K F (i + 1) = stepE s (st3 s K F i) ((st3 s K F i).1.getD (s.length - 1 - i) 0)) := fun i => rfl
  have HLB : Hid ((smallI s).length = s.length) := smallI_len s
  have HSM : Hid (∀ i, i < s.length → (smallI s).getD i false = smB s i) := fun i hi => smallI_at hi
  have HIN : Hid (indI s K F = (st3 s K F s.length).1) := rfl
  rw [HLB.out] at CV HB ⊢
  obtain ⟨n, HN⟩ : ∃ n, Hid (s.length = n) := ⟨_, rfl⟩
  rw [HIN.out]
  rw [HN.out] at CV HB HOK HST HSM O1 hn9 HV ⊢
  clear hcv h1 h2 he hF f HLB HIN
  have hw1 : IntKind.i64.wrap ((n : Int) - 1) = (n : Int) - 1 := by rw [IntKind.wrap_i64]; omega
  go_enter Try.func32, Try.ntmps32
  go_wp2
  go_loopw [8] (fun vi wr => ∃ (m : Nat) (x : Int), m ≤ n ∧ vi = .int .i64 x ∧ Hid (x = (n : Int) - 1 - m) ∧ Hid (Own .i64 3 B1 wr (.slice (some ⟨g, 0, none⟩) n n) (st3 s K F m).1) ∧
    Hid (Own .i64 3 B2 wr ev (natL (st3 s K F m).2)) ∧ Hid (Ext w0 wr)) (fun vi _ => (intOf vi + 1).toNat)
  case atStart => exact ⟨0, (n : Int) - 1, Nat.zero_le _, by first | rfl | rw [hw1], (show _ = _ by simp), O1, O2, HE0⟩
  case round =>
    clear O1 O2 HE0
    obtain ⟨m, x, hm, rfl, HX, O1, O2, HE⟩ := hrel
    by_cases hlt : m < n
    · obtain ⟨i, HI⟩ : ∃ i, Hid (n - 1 - m = i) := ⟨_, rfl⟩
      have hxi : x = (i : Int) := by have := HX.out; have := HI.out; omega
      subst hxi
      have hiL : i < n := by have := HI.out; omega
      have hiL' : (i : Int) < n := by omega
      have hi0 : (0 : Int) ≤ i := by omega
      obtain ⟨q1, q2, v1, v2, hok⟩ := HOK.out m hlt
      have HS1 := hide' (HST.out m)
      have HO := hide' hok
      have HQ1 := hide' q1
      have HQ2 := hide' q2
      have c1 := O1.out.cell q1 i hiL
      rw [HI.out] at v1 v2 HO HS1
      clear hok q1 q2
      obtain ⟨j, HJ⟩ : ∃ j, Hid ((st3 s K F m).1.getD i 0 = j) := ⟨_, rfl⟩
      rw [HJ.out] at c1 v1 v2 HS1 HO
      have hi1 : IntKind.i64.wrap ((i : Int) - 1) = (i : Int) - 1 := by rw [IntKind.wrap_i64]; omega
      by_cases h0 : j ≤ 0
      · have d1 : decide (0 < j) = false := by simp; omega
        rw [stepE_no h0] at HS1
        have R1 : Hid (Own .i64 3 B1 wr (.slice (some ⟨g, 0, none⟩) n n) (st3 s K F (m + 1)).1) := by rw [HS1.out]; exact O1.out
        have R2 : Hid (Own .i64 3 B2 wr ev (natL (st3 s K F (m + 1)).2)) := by rw [HS1.out]; exact O2.out
        clear h0 v1 v2
        go_wp2
        go_roundw
        case rel => exact ⟨m + 1, (i : Int) - 1, by omega, by first | rfl | rw [hi1], (show _ = _ by have := HX.out; omega), R1, R2, HE⟩
        case measure => simp [intOf] <;> omega
      · obtain ⟨p, HP⟩ : ∃ p : Nat, Hid (j = ((p + 1 : Nat) : Int)) := ⟨(j - 1).toNat, by show _ = _; omega⟩
        have hj0 : 0 < j := by omega
        have hjp : j - 1 = (p : Int) := by have := HP.out; omega
        have hpn : p < n := by have := HP.out; omega
        have hpn' : (p : Int) < n := by omega
        obtain ⟨g1, o1, rfl, k1⟩ := CV.out (by omega)
        have c2 := HE.out.cellOf (k1 p hpn)
        rw [HSM.out p hpn] at c2
        clear k1 v1 v2 h0
        cases hsp : smB s p
        · rw [hsp] at c2
          rw [HP.out, stepE_large hsp] at HS1
          have R1 : Hid (Own .i64 3 B1 wr (.slice (some ⟨g, 0, none⟩) n n) (st3 s K F (m + 1)).1) := by rw [HS1.out]; exact O1.out
          have R2 : Hid (Own .i64 3 B2 wr ev (natL (st3 s K F (m + 1)).2)) := by rw [HS1.out]; exact O2.out
          clear hsp
          go_wp2
          go_roundw
          case rel => exact ⟨m + 1, (i : Int) - 1, by omega, by first | rfl | rw [hi1], (show _ = _ by have := HX.out; omega), R1, R2, HE⟩
          case measure => simp [intOf] <;> omega
        · rw [hsp] at c2
          rw [HP.out, stepE_yes hsp] at HS1
          obtain ⟨k1, k2, k3⟩ := HO.out p HP.out hsp
          obtain ⟨h, cap, hev, hh, hcap⟩ := O2.out.shape (fun e => by
            have : (natL (st3 s K F m).2).length = 0 := by rw [e]; rfl
            rw [natL_len, HQ2.out] at this
            omega)
          rw [natL_len, HQ2.out] at hev
          subst hev
          have C := hide' (layLast_any B1 B2 g h n K cap p _ s (st3 s K F m) wr (HV.out.ext HE.out) O1.out O2.out (by omega) HQ1.out HQ2.out HN.out hpn k1 (HFT.out.num p (by rw [HN.out]; exact hpn)) k2 k3 hn9)
          rw [← HS1.out] at C
          clear hsp k1 k2 k3 O1 O2 hcap
          go_wp2_with fail
          refine C.out.mono ?_
          rintro e w3 ⟨rfl, ho1, ho2, hex⟩
          have R1 := hide' ho1
          have R2 := hide' ho2
          have RE := hide' (hex w0 HE.out hg0 (by omega))
          clear ho1 ho2 hex C
          go_wp2
          go_roundw
          case rel => exact ⟨m + 1, (i : Int) - 1, by omega, by first | rfl | rw [hi1], (show _ = _ by have := HX.out; omega), R1, R2, RE⟩
          case measure => simp [intOf] <;> omega
    · have hm2 : m = n := by omega
      subst hm2
      have hx : x = -1 := by have := HX.out; omega
      subst hx
      go_wp2
      first | go_end0 | (simp only [Exit.inBlock, Exit.then]; refine bodyPost_ret (results_none rfl _ _ _) rfl ?_) | refine bodyPost_ret (results_none rfl _ _ _) rfl ?_
      exact ⟨rfl, O1.out, HE.out⟩
end Go.Proofs.Ytabgbioocfdjiaa
