/- Contract of induce.Sort. -/
import Derived.Test.YtabgbioocfdjiaaIndIs
import Derived.Test.YtabgbioocfdjiaaIndEnds
import Derived.Test.YtabgbioocfdjiaaIndStep1
import Derived.Test.YtabgbioocfdjiaaIndStep3
import Derived.Test.YtabgbioocfdjiaaKinSmall
namespace Go.Proofs.Ytabgbioocfdjiaa
set_option linter.unusedVariables false
set_option linter.unusedSimpArgs false
open Go.RowKit

/-- May they be sorted? What they become. -/
def sortB (s : List Int) (k : Int) (fs : List Int) : Bool := fitB s k && firB s fs
def sortI (s : List Int) (k : Int) (fs : List Int) : List Int := if sortB s k fs = true then indI s k.toNat (toN fs) else []
theorem sortB_iff {s : List Int} {k : Int} {fs : List Int} : sortB s k fs = true ↔ fitB s k = true ∧ firB s fs = true := by simp [sortB]
theorem sortI_yes {s : List Int} {k : Int} {fs : List Int} (h : sortB s k fs = true) : sortI s k fs = indI s k.toNat (toN fs) := if_pos h
theorem sortI_no {s : List Int} {k : Int} {fs : List Int} (h : sortB s k fs = false) : sortI s k fs = [] := by unfold sortI; rw [h]; rfl
theorem firB_nat {s fs : List Int} (h : firB s fs = true) : natL (toN fs) = fs ∧ Firsts s (toN fs) := by
  have hp := firB_iff.1 h
  have hg : goodI (s.length : Int) fs = true := by
    rw [goodI_iff]
    intro z hz
    obtain ⟨p, h1, h2⟩ := natL_mem.1 (hp.mem_iff.1 hz)
    have := (firN_mem.1 h1).1
    omega
  have h1 := natL_toN hg
  refine ⟨h1, ⟨?_⟩⟩
  have h2 : (toN fs).Perm (toN (natL (firstN s))) := hp.map _
  rw [toN_nat] at h2
  exact h2

set_option maxHeartbeats 1000000 in
theorem sort_any (sv fv : Value) (s fs : List Int) (k : Int) (w : World) (hs : Sl .i64 w sv s) (hf : Sl .i64 w fv fs) (hlen : s.length ≤ 1000000) :
    Calls Try.prog 21 #[sv, .int .i64 k, fv] w fun e w' => ∃ u, e = .returned (.tuple #[u, .bool (sortB s k fs)]) ∧ Own .i64 3 w.heap.size w' u (sortI s k fs) ∧ Ext w w' := by
  have HV := hide' hs
  have HFV := hide' hf
  have HLEN := hide' hlen
  obtain ⟨a, c, rfl, _⟩ := hs
  obtain ⟨a', c', rfl, _⟩ := hf
  by_cases hfit : fitB s k = true
  rotate_left
  · have HB : Hid (sortB s k fs = false) := by
      show _ = _
      unfold sortB
      rw [Bool.eq_false_iff.2 hfit]
      rfl
    have HI := hide' (sortI_no HB.out)
    have HF : Hid (fitB s k = false) := Bool.eq_false_iff.2 hfit
    rw [HI.out, HB.out]
    clear hfit
    go_enter Try.func21, Try.ntmps21
    go_wp2_with fail
    refine (counts_any _ s k w HV.out HLEN.out).mono ?_
    rw [HF.out]
    rintro e w1 ⟨s1, rfl, _, he⟩
    have X1 := hide' he
    clear he
    go_wp2
    go_ret2
    exact ⟨_, rfl, Own.nil _ _ _ _, X1.out⟩
  · have HF := hide' hfit
    by_cases hfir : firB s fs = true
    rotate_left
    · have HR : Hid (firB s fs = false) := Bool.eq_false_iff.2 hfir
      have HB : Hid (sortB s k fs = false) := by
        show _ = _
        unfold sortB
        rw [HR.out]
        simp
      have HI := hide' (sortI_no HB.out)
      rw [HI.out, HB.out]
      clear hfit hfir
      go_enter Try.func21, Try.ntmps21
      go_wp2_with fail
      refine (counts_any _ s k w HV.out HLEN.out).mono ?_
      rw [HF.out]
      rintro e w1 ⟨s1, rfl, _, he⟩
      have X1 := hide' he
      clear he
      go_wp2_with fail
      refine (isFirst_any _ _ fs s w1 (HFV.out.ext X1.out) (HV.out.ext X1.out) HLEN.out).mono ?_
      rw [HR.out]
      rintro e w2 ⟨rfl, he⟩
      have X2 := hide' (X1.out.trans he)
      clear he
      go_wp2
      go_ret2
      exact ⟨_, rfl, Own.nil _ _ _ _, X2.out⟩
    · have HR := hide' hfir
      have HB : Hid (sortB s k fs = true) := sortB_iff.2 ⟨hfit, hfir⟩
      obtain ⟨hnat, hfst⟩ := firB_nat hfir
      have HFF := hide' hfst
      have HNT := hide' hnat
      obtain ⟨h0, h1, _⟩ := fitB_iff.1 hfit
      obtain ⟨K, rfl⟩ := Int.eq_ofNat_of_zero_le h0
      have HCC : Hid (countsI s (K : Int) = natL (cntsI s K)) := countsI_yes hfit
      have HFT : Hid (Fits s K) := Fits.of hfit
      have HI : Hid (sortI s (K : Int) fs = indI s K (toN fs)) := by show _ = _; rw [sortI_yes HB.out, Int.toNat_natCast]
      have hK9 : K ≤ 1048576 := by omega
      have HK9 := hide' hK9
      have HBG := hide' (starts_beg HFT.out)
      have HSB := hide' (sum_bound HFT.out hlen)
      have HCL : Hid ((natL (cntsI s K)).length ≤ 4000000) := by show _ ≤ _; rw [natL_len, cntsI_len]; omega
      have HV2 := hide' (st2_vals HFT.out HFF.out)
      have e10 : Hid ((st1 s K (toN fs) 0).1 = List.replicate s.length (-1)) := rfl
      have e11 : Hid ((st1 s K (toN fs) 0).2 = endN s K) := rfl
      have e20 : Hid ((st2 s K (toN fs) 0).1 = (st1 s K (toN fs) (toN fs).length).1) := rfl
      have e21 : Hid ((st2 s K (toN fs) 0).2 = begN s K) := rfl
      have e30 : Hid ((st3 s K (toN fs) 0).1 = outI s (st2 s K (toN fs) (s.length + 1)).1) := rfl
      have e31 : Hid ((st3 s K (toN fs) 0).2 = endN s K) := rfl
      rw [HI.out, HB.out]
      clear hfit hfir hfst hnat h0 h1 hK9
      go_enter Try.func21, Try.ntmps21
      go_wp2_with fail
      refine (counts_any _ s (K : Int) w HV.out HLEN.out).mono ?_
      rw [HF.out, HCC.out]
      rintro e w1 ⟨s1, rfl, ho, he⟩
      have S1 := hide' ho.sl
      have X1 := hide' he
      clear ho he
      go_wp2_with fail
      refine (isFirst_any _ _ fs s w1 (HFV.out.ext X1.out) (HV.out.ext X1.out) HLEN.out).mono ?_
      rw [HR.out]
      rintro e w2 ⟨rfl, he⟩
      have S2 := hide' (S1.out.ext he)
      have X2 := hide' (X1.out.trans he)
      clear he S1 X1
      go_wp2_with fail
      refine (small_any _ s w2 (HV.out.ext X2.out) (by have := HLEN.out; omega)).mono ?_
      rintro e w0 ⟨s2, rfl, ho, he⟩
      have SB := hide' ho.sl
      have S3 := hide' (S2.out.ext he)
      have X3 := hide' (X2.out.trans he)
      have VS := hide' (HV.out.ext X3.out)
      have VF := hide' (HFV.out.ext X3.out)
      rw [← HNT.out] at VF
      have hsz : w.heap.size ≤ w0.heap.size := X3.out.size
      have hnl : Hid ((natL (toN fs)).length = fs.length) := by show _ = _; rw [HNT.out]
      rw [hnl.out] at VF
      clear ho he S2 X2
      go_wp2_with fail
      refine (emptyRow_any s.length w0 HLEN.out).mono ?_
      rintro e w4 ⟨rfl, ho, he⟩
      have OR := hide' ho
      have X4 := hide' he
      have hg4 : w0.heap.size < w4.heap.size := (World.ownsRow.lt ho w0.heap.size rfl).2
      clear ho he
      obtain ⟨g, HG⟩ : ∃ g, Hid (w0.heap.size = g) := ⟨_, rfl⟩
      have hg0 : w0.heap.size ≤ g := by rw [HG.out]; exact Nat.le_refl _
      rw [HG.out] at OR hg4
      have hgw : w.heap.size ≤ g := by rw [HG.out] at hsz; exact hsz
      rw [HG.out]
      go_wp2_with fail
      refine (ends_any _ s K w4 HFT.out (S3.out.ext X4.out) HK9.out HLEN.out).mono ?_
      rintro e w5 ⟨s3, rfl, ho, he⟩
      have OE := hide' ho
      have OR5 := hide' (OR.out.ext he)
      have X5 := hide' (X4.out.trans he)
      have hz5 : w4.heap.size ≤ w5.heap.size := he.size
      rw [← e10.out] at OR5
      rw [← e11.out] at OE
      clear ho he OR X4
      go_wp2_with fail
      refine (layFirst_any g w4.heap.size g K _ _ _ s (toN fs) w0 w5 HFT.out HFF.out VS.out VF.out X5.out OR5.out OE.out hg0 hg4 HLEN.out).mono ?_
      rintro e w6 ⟨rfl, ho, he⟩
      have OR6 := hide' ho
      have X6 := hide' he
      rw [← e20.out] at OR6
      have hg6 : g < w6.heap.size := (World.ownsRow.lt ho g rfl).2
      clear ho he OR5 OE X5
      go_wp2_with fail
      refine (starts_any _ _ w6 (S3.out.ext X6.out) HCL.out HSB.out).mono ?_
      rw [HBG.out]
      rintro e w7 ⟨s4, rfl, ho, he⟩
      have OE := hide' ho
      have OR7 := hide' (OR6.out.ext he)
      have X7 := hide' (X6.out.trans he)
      rw [← e21.out] at OE
      clear ho he OR6 X6
      go_wp2_with fail
      refine (layLarge_any g w6.heap.size g K _ _ _ s (toN fs) w0 w7 HFT.out HFF.out VS.out SB.out X7.out OR7.out OE.out hg0 hg6 HLEN.out).mono ?_
      rintro e w8 ⟨rfl, ho, he⟩
      have OR8 := hide' ho
      have X8 := hide' he
      clear ho he OR7 OE X7
      go_wp2_with fail
      refine (takeOut_any g g _ s _ w0 w8 SB.out X8.out HV2.out.1 HV2.out.2 OR8.out hg0 HLEN.out).mono ?_
      rintro e w9 ⟨rfl, ho, he⟩
      have OR9 := hide' ho
      have X9 := hide' he
      rw [← e30.out] at OR9
      have hg9 : g < w9.heap.size := (World.ownsRow.lt ho g rfl).2
      clear ho he OR8 X8
      go_wp2_with fail
      refine (ends_any _ s K w9 HFT.out (S3.out.ext X9.out) HK9.out HLEN.out).mono ?_
      rintro e w10 ⟨s5, rfl, ho, he⟩
      have OE := hide' ho
      have OR10 := hide' (OR9.out.ext he)
      have X10 := hide' (X9.out.trans he)
      rw [← e31.out] at OE
      clear ho he OR9 X9
      go_wp2_with fail
      refine (laySmall_any g w9.heap.size g K _ _ _ s (toN fs) w0 w10 HFT.out HFF.out VS.out SB.out X10.out OR10.out OE.out hg0 hg9 HLEN.out).mono ?_
      rintro e w11 ⟨rfl, ho, he⟩
      have OR11 := hide' ho
      have X11 := hide' (X3.out.trans he)
      clear ho he OR10 OE X10
      go_wp2
      go_ret2
      exact ⟨_, rfl, OR11.out.low hgw, X11.out⟩
end Go.Proofs.Ytabgbioocfdjiaa
