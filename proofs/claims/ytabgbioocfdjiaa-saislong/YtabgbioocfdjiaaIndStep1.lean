/- Contracts of induce.layFirst and induce.takeOutSmall. -/
import Derived.Test.YtabgbioocfdjiaaIndPut
import Derived.Test.YtabgbioocfdjiaaIndAll
import Derived.Test.YtabgbioocfdjiaaBools
namespace Go.Proofs.Ytabgbioocfdjiaa
set_option linter.unusedVariables false
set_option linter.unusedSimpArgs false
open Go.RowKit

set_option maxHeartbeats 1000000 in
theorem layFirst_any (B1 B2 g K : Nat) (sv fv ev : Value) (s : List Int) (F : List Nat) (w0 w : World) (f : Fits s K) (hF : Firsts s F) (hs : Sl .i64 w0 sv s) (hf : Sl .i64 w0 fv (natL F)) (he : Ext w0 w)
    (h1 : Own .i64 3 B1 w (.slice (some ⟨g, 0, none⟩) s.length s.length) (st1 s K F 0).1) (h2 : Own .i64 3 B2 w ev (natL (st1 s K F 0).2)) (hg0 : w0.heap.size ≤ g) (hgB : g < B2) (hn9 : s.length ≤ 1000000) :
    Calls Try.prog 27 #[.slice (some ⟨g, 0, none⟩) s.length s.length, sv, fv, ev] w fun e w' => e = .returned (.tuple #[]) ∧ Own .i64 3 B1 w' (.slice (some ⟨g, 0, none⟩) s.length s.length) (st1 s K F F.length).1 ∧ Ext w0 w' := by
  have HV := hide' hs
  have HFV := hide' hf
  have HE0 := hide' he
  have O1 := hide' h1
  have O2 := hide' h2
  obtain ⟨a, c, rfl, _⟩ := hf
  obtain ⟨_, _, _, hcv⟩ := HFV.out.nat
  have CV := hide' hcv
  have HOK : Hid (∀ m, m < F.length → (st1 s K F m).1.length = s.length ∧ (st1 s K F m).2.length = K ∧ F.getD (F.length - 1 - m) 0 < s.length ∧ keyN s (F.getD (F.length - 1 - m) 0) < K ∧
    1 ≤ (st1 s K F m).2.getD (keyN s (F.getD (F.length - 1 - m) 0)) 0 ∧ (st1 s K F m).2.getD (keyN s (F.getD (F.length - 1 - m) 0)) 0 ≤ s.length) := fun m hm => st1_ok f hF hm
  have HST : Hid (∀ m, st1 s K F (m + 1) = putE s (st1 s K F m) (F.getD (F.length - 1 - m) 0)) := fun m => rfl
  have HFT := hide' f
  obtain ⟨L, HL⟩ : ∃ n, Hid (F.length = n) := ⟨_, rfl⟩
  have HLL : Hid ((natL F).length = L) := by show _ = _; rw [natL_len, HL.out]
  have hLn : L ≤ s.length := by
    have := hF.perm.length_eq
    rw [HL.out] at this
    rw [this]
    exact firN_len _ _
  rw [HLL.out] at CV HFV ⊢
  rw [HL.out] at HOK HST ⊢
  obtain ⟨n, HN⟩ : ∃ n, Hid (s.length = n) := ⟨_, rfl⟩
  rw [HN.out] at HOK O1 hn9 hLn ⊢
  clear hcv h1 h2 he hs hF f HLL
  have hw1 : IntKind.i64.wrap ((L : Int) - 1) = (L : Int) - 1 := by rw [IntKind.wrap_i64]; omega
  go_enter Try.func27, Try.ntmps27
  go_wp2
  go_loopw [8] (fun vi wr => ∃ (m : Nat) (x : Int), m ≤ L ∧ vi = .int .i64 x ∧ Hid (x = (L : Int) - 1 - m) ∧ Hid (Own .i64 3 B1 wr (.slice (some ⟨g, 0, none⟩) n n) (st1 s K F m).1) ∧
    Hid (Own .i64 3 B2 wr ev (natL (st1 s K F m).2)) ∧ Hid (Ext w0 wr)) (fun vi _ => (intOf vi + 1).toNat)
  case atStart => exact ⟨0, (L : Int) - 1, Nat.zero_le _, by first | rfl | rw [hw1], (show _ = _ by simp), O1, O2, HE0⟩
  case round =>
    clear O1 O2 HE0
    obtain ⟨m, x, hm, rfl, HX, O1, O2, HE⟩ := hrel
    by_cases hlt : m < L
    · obtain ⟨i, HI⟩ : ∃ i, Hid (L - 1 - m = i) := ⟨_, rfl⟩
      have hxi : x = (i : Int) := by have := HX.out; have := HI.out; omega
      subst hxi
      have hiL : i < L := by have := HI.out; omega
      have hiL' : (i : Int) < L := by omega
      have hi0 : (0 : Int) ≤ i := by omega
      obtain ⟨q1, q2, q3, q4, q5, q6⟩ := HOK.out m hlt
      have HS1 := hide' (HST.out m)
      rw [HI.out] at q3 q4 q5 q6 HS1
      obtain ⟨g1, o1, rfl, k1⟩ := CV.out (by omega)
      have c1 := HE.out.cellOf (k1 i hiL)
      clear k1
      obtain ⟨p, HP⟩ : ∃ p, Hid (F.getD i 0 = p) := ⟨_, rfl⟩
      rw [HP.out] at c1 q3 q4 q5 q6 HS1
      obtain ⟨h, cap, hev, hh, hcap⟩ := O2.out.shape (fun e => by
        have : (natL (st1 s K F m).2).length = 0 := by rw [e]; rfl
        rw [natL_len] at this
        omega)
      rw [natL_len, q2] at hev
      subst hev
      have C := hide' (layLast_any B1 B2 g h n K cap p sv s (st1 s K F m) wr (HV.out.ext HE.out) O1.out O2.out (by omega) q1 q2 HN.out q3 q4 (HFT.out.num p (by rw [HN.out]; exact q3)) q5 q6 hn9)
      rw [← HS1.out] at C
      clear q1 q2 q3 q4 q5 q6 hcap
      have hi1 : IntKind.i64.wrap ((i : Int) - 1) = (i : Int) - 1 := by rw [IntKind.wrap_i64]; omega
      go_wp2_with fail
      refine C.out.mono ?_
      rintro e w2 ⟨rfl, ho1, ho2, hex⟩
      have P1 := hide' ho1
      have P2 := hide' ho2
      have PE := hide' (hex w0 HE.out hg0 (by omega))
      clear ho1 ho2 hex C
      go_wp2
      go_roundw
      case rel => exact ⟨m + 1, (i : Int) - 1, by omega, by first | rfl | rw [hi1], (show _ = _ by have := HX.out; omega), P1, P2, PE⟩
      case measure => simp [intOf] <;> omega
    · have hm2 : m = L := by omega
      subst hm2
      have hx : x = -1 := by have := HX.out; omega
      subst hx
      go_wp2
      first | go_end0 | (simp only [Exit.inBlock, Exit.then]; refine bodyPost_ret (results_none rfl _ _ _) rfl ?_) | refine bodyPost_ret (results_none rfl _ _ _) rfl ?_
      exact ⟨rfl, O1.out, HE.out⟩

set_option maxHeartbeats 1000000 in
theorem takeOut_any (B1 g : Nat) (bv : Value) (s row : List Int) (w0 w : World) (hb : SlB w0 bv (smallI s)) (he : Ext w0 w) (hl : row.length = s.length) (hr : ∀ x, x < s.length → -1 ≤ row.getD x 0 ∧ row.getD x 0 < s.length)
    (h1 : Own .i64 3 B1 w (.slice (some ⟨g, 0, none⟩) s.length s.length) row) (hg0 : w0.heap.size ≤ g) (hn9 : s.length ≤ 1000000) :
    Calls Try.prog 31 #[.slice (some ⟨g, 0, none⟩) s.length s.length, bv] w fun e w' => e = .returned (.tuple #[]) ∧ Own .i64 3 B1 w' (.slice (some ⟨g, 0, none⟩) s.length s.length) (outI s row) ∧ Ext w0 w' := by
  have HB := hide' hb
  have HE0 := hide' he
  have O1 := hide' h1
  have HR := hide' hr
  have HLR := hide' hl
  obtain ⟨a, c, rfl, _⟩ := hb
  obtain ⟨_, _, _, hcv⟩ := HB.out.truth
  have CV := hide' hcv
  have HLB : Hid ((smallI s).length = s.length) := smallI_len s
  have HAT : Hid (∀ i, i < s.length → (outI s row).getD i 0 = if 0 ≤ row.getD i 0 ∧ smB s (row.getD i 0).toNat = true then -1 else row.getD i 0) := fun i hi => outI_at s row (by rw [hl]; exact hi)
  have HSM : Hid (∀ i, i < s.length → (smallI s).getD i false = smB s i) := fun i hi => smallI_at hi
  rw [HLB.out] at CV HB ⊢
  obtain ⟨n, HN⟩ : ∃ n, Hid (s.length = n) := ⟨_, rfl⟩
  rw [HN.out] at HR HLR CV O1 hn9 HAT HSM HB ⊢
  clear hcv h1 he hr hl HLB
  go_enter Try.func31, Try.ntmps31
  go_wp2
  go_loopw [8] (fun vi wr => ∃ (i : Nat) (bs : List Int), i ≤ n ∧ vi = .int .i64 i ∧ Hid (bs.length = n) ∧ Hid (∀ j, j < i → bs.getD j 0 = (outI s row).getD j 0) ∧ Hid (∀ j, i ≤ j → bs.getD j 0 = row.getD j 0) ∧
    Hid (Own .i64 3 B1 wr (.slice (some ⟨g, 0, none⟩) n n) bs) ∧ Hid (Ext w0 wr)) (fun vi _ => n - (intOf vi).toNat)
  case atStart => exact ⟨0, row, Nat.zero_le _, rfl, HLR, (fun j hj => by omega), (fun j _ => rfl), O1, HE0⟩
  case round =>
    clear O1 HE0
    obtain ⟨i, bs, hi, rfl, HL, HA, HC, O1, HE⟩ := hrel
    by_cases hlt : i < n
    · have hlt' : (i : Int) < n := by omega
      have hci := O1.out.cell HL.out i hlt
      rw [HC.out i (Nat.le_refl _)] at hci
      obtain ⟨hv1, hv2⟩ := HR.out i hlt
      have HX := hide' (HAT.out i hlt)
      obtain ⟨j, HJ⟩ : ∃ j, Hid (row.getD i 0 = j) := ⟨_, rfl⟩
      rw [HJ.out] at hci hv1 hv2 HX
      by_cases h0 : j = -1
      · subst h0
        have HX2 : Hid ((outI s row).getD i 0 = -1) := by show _ = _; rw [HX.out, if_neg (by omega)]
        clear hv1 hv2
        go_wp2
        go_roundw
        case rel =>
          refine ⟨i + 1, bs, by omega, by go_num, HL, fun j hj => ?_, fun j hj => HC.out j (by omega), O1, HE⟩
          by_cases hji : j = i
          · subst hji; rw [HC.out j (Nat.le_refl _), HJ.out, HX2.out]
          · exact HA.out j (by omega)
        case measure => simp [intOf]; omega
      · obtain ⟨p, rfl⟩ := Int.eq_ofNat_of_zero_le (show 0 ≤ j by omega)
        have d1 : ((p : Int) == -1) = false := by simp <;> omega
        have d2 : ((p : Int) != -1) = true := by simp <;> omega
        have hpn : p < n := by omega
        obtain ⟨g1, o1, rfl, k1⟩ := CV.out (by omega)
        have c1 := HE.out.cellOf (k1 p hpn)
        rw [HSM.out p hpn] at c1
        clear k1
        cases hs : smB s p
        · rw [hs] at c1
          have HX2 : Hid ((outI s row).getD i 0 = (p : Int)) := by show _ = _; rw [HX.out, if_neg (by rw [Int.toNat_natCast, hs]; simp)]
          clear hs h0
          go_wp2
          go_roundw
          case rel =>
            refine ⟨i + 1, bs, by omega, by go_num, HL, fun j hj => ?_, fun j hj => HC.out j (by omega), O1, HE⟩
            by_cases hji : j = i
            · subst hji; rw [HC.out j (Nat.le_refl _), HJ.out, HX2.out]
            · exact HA.out j (by omega)
          case measure => simp [intOf]; omega
        · rw [hs] at c1
          have HX2 : Hid ((outI s row).getD i 0 = -1) := by show _ = _; rw [HX.out, if_pos ⟨by omega, by rw [Int.toNat_natCast, hs]⟩]
          have hfz := O1.out.frozen HL.out i
          have P1 := hide' (O1.out.store HL.out i (-1))
          clear hs h0
          go_wp2
          go_roundw
          case rel =>
            refine ⟨i + 1, bs.set i (-1), by omega, by go_num, (show _ = _ by rw [List.length_set]; exact HL.out), fun j hj => ?_, fun j hj => ?_, P1, Ext.but HE.out hg0 (but_set _ _ _ _)⟩
            · by_cases hji : j = i
              · subst hji; rw [setI_same (by rw [HL.out]; exact hlt), HX2.out]
              · rw [setI_other (by omega)]; exact HA.out j (by omega)
            · rw [setI_other (by omega)]; exact HC.out j (by omega)
          case measure => simp [intOf]; omega
    · have hlt' : decide ((i : Int) < n) = false := by simp; omega
      have hin : i = n := by omega
      subst hin
      have HQ : Hid (bs = outI s row) := getD_ext (by rw [HL.out, outI_len, HLR.out]) fun j hj => by
        rw [HL.out] at hj
        exact HA.out j hj
      go_wp2
      first | go_end0 | (simp only [Exit.inBlock, Exit.then]; refine bodyPost_ret (results_none rfl _ _ _) rfl ?_) | refine bodyPost_ret (results_none rfl _ _ _) rfl ?_
      exact ⟨rfl, by rw [← HQ.out]; exact O1.out, HE.out⟩
end Go.Proofs.Ytabgbioocfdjiaa
