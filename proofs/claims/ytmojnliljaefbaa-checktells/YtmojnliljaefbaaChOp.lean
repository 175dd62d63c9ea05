/- Contracts of check.SA and check.LCP, of texts of at most 500 bytes. -/
import Derived.Test.YtmojnliljaefbaaChRef
import Derived.Test.YtmojnliljaefbaaChAhead
import Derived.Test.YtmojnliljaefbaaBktPass
import Derived.Test.YtmojnliljaefbaaRkIs
import Derived.Test.YtmojnliljaefbaaEqInt
import Derived.Test.YtmojnliljaefbaaKasOp
namespace Go.Proofs.Ytmojnliljaefbaa
set_option linter.unusedVariables false
set_option linter.unusedSimpArgs false
open Go.RowKit

theorem good_bytes {s : List Int} (h8 : Bytes8 s) : fitB s 256 = true := by
  refine fitB_iff.2 ⟨by omega, by omega, ?_⟩
  refine goodI_iff.2 fun z hz => ?_
  have := h8 z hz
  omega
theorem pass_again {s : List Int} (h8 : Bytes8 s) {R : List Nat} (hp : R.Perm (List.range s.length)) : passB (natL (bhL R)) s 256 = true ∧ passI (natL (bhL R)) s 256 = natL (againL s R) := by
  have h1 : passB (natL (bhL R)) s 256 = true := passB_iff.2 ⟨good_bytes h8, good_nat fun x hx => List.mem_range.1 ((bhL_perm hp).mem_iff.1 hx)⟩
  refine ⟨h1, ?_⟩
  rw [passI_yes h1, toN_nat]
  rfl

set_option maxHeartbeats 1000000 in
theorem chSA_any (v u : Value) (s a : List Int) (w : World) (hv : Sl .u8 w v s) (h8 : Bytes8 s) (hu : Sl .i64 w u a) (hs : s.length ≤ 500) (ha : a.length ≤ 1000000) :
    Calls Try.prog 7 #[v, u] w fun e w' => e = .returned (.bool (saB s a)) ∧ Ext w w' := by
  have HV := hide' hv
  have HU := hide' hu
  have H8 := hide' h8
  obtain ⟨va, vc, rfl, _⟩ := hv
  obtain ⟨ua, uc, rfl, _⟩ := hu
  by_cases hl : a.length = s.length
  rotate_left
  · have HN : Hid (saB s a = false) := saB_len hl
    have d1 : ((a.length : Int) != (s.length : Int)) = true := by simp; omega
    clear hl h8
    rw [HN.out]
    go_enter Try.func7, Try.ntmps7
    go_wp2
    go_ret
    exact ⟨rfl, Ext.refl _⟩
  have d1 : ((a.length : Int) != (s.length : Int)) = false := by simp; omega
  have C := hide' (rkIs_any _ a w HU.out ha)
  cases ho : ordB a
  · have HN : Hid (saB s a = false) := saB_noperm ho
    rw [ho] at C
    clear ho hl h8
    rw [HN.out]
    go_enter Try.func7, Try.ntmps7
    go_wp2_with fail
    refine C.out.mono ?_
    rintro e w1 ⟨rfl, he⟩
    have X1 := hide' he
    clear he
    go_wp2
    go_ret
    exact ⟨rfl, X1.out⟩
  · rw [ho] at C
    obtain ⟨hA, hP⟩ := ordB_cast ho
    obtain ⟨R, HR⟩ : ∃ R, Hid (toN a = R) := ⟨_, rfl⟩
    rw [HR.out] at hA hP
    have hP2 : R.Perm (List.range s.length) := by rw [← hl]; exact hP
    have HSA := hide' (saB_again h8 hP2)
    obtain ⟨p1, p2⟩ := pass_again h8 hP2
    have P1 := hide' p1
    have P2 := hide' p2
    have HRL : Hid (R.length ≤ 1000000) := by show _ ≤ _; rw [hP.length_eq, List.length_range]; exact ha
    have HRM : Hid (∀ i, i < R.length → R.getD i 0 ≤ 1000000) := fun i hi => by
      have := List.mem_range.1 (hP.mem_iff.1 (getN_mem hi))
      omega
    have HAL : Hid (a.length ≤ 1000000) := ha
    have HGL : Hid ((natL (againL s R)).length ≤ 1000000) := by show _ ≤ _; rw [natL_len, (again_perm h8 hP2).length_eq, List.length_range]; omega
    have HBL : Hid ((natL (bhL R)).length ≤ 1000000) := by show _ ≤ _; rw [natL_len, (bhL_perm hP2).length_eq, List.length_range]; omega
    have HSL : Hid (s.length ≤ 1000000) := by show _ ≤ _; omega
    have HAR := hide' hA
    rw [← hA] at HU
    rw [← hA]
    rw [HSA.out]
    obtain ⟨G, HG⟩ : ∃ G, Hid (natL (againL s R) = G) := ⟨_, rfl⟩
    rw [HG.out] at P2 HGL ⊢
    obtain ⟨B, HB⟩ : ∃ B, Hid (natL (bhL R) = B) := ⟨_, rfl⟩
    rw [HB.out] at P1 P2 HBL
    have CA := hide' fun (w' : World) (h : Ext w w') => chAhead_any _ R w' (HU.out.ext h) HRL.out HRM.out
    rw [HB.out] at CA
    obtain ⟨Z, HZ⟩ : ∃ Z, Hid (natL R = Z) := ⟨_, rfl⟩
    rw [HZ.out] at HU CA HAR
    rw [HZ.out]
    have HZA : Hid (Z.length ≤ 1000000) := by show _ ≤ _; rw [HAR.out]; exact ha
    rw [← HAR.out] at C d1
    clear ho hl h8 hA hP hP2 p1 p2 hs ha
    go_enter Try.func7, Try.ntmps7
    go_wp2_with fail
    refine C.out.mono ?_
    rintro e w1 ⟨rfl, he⟩
    have X1 := hide' he
    clear he C
    go_wp2_with fail
    refine (CA.out w1 X1.out).mono ?_
    rintro e w2 ⟨u1, rfl, ho2, he2⟩
    have O2 := hide' ho2.sl
    have X2 := hide' (X1.out.trans he2)
    clear ho2 he2 CA
    go_wp2_with fail
    refine (chNumbers_any _ s w2 (HV.out.ext X2.out) H8.out HSL.out).mono ?_
    rintro e w3 ⟨u2, rfl, ho3, he3⟩
    have O3 := hide' ho3.sl
    have O4 := hide' (O2.out.ext he3)
    have X3 := hide' (X2.out.trans he3)
    clear ho3 he3 O2
    go_wp2_with fail
    refine (pass_any _ _ B s 256 w3 O4.out O3.out HBL.out HSL.out).mono ?_
    rw [P1.out, P2.out]
    rintro e w4 ⟨u3, rfl, ho4, he4⟩
    have O5 := hide' ho4.sl
    have X4 := hide' (X3.out.trans he4)
    clear ho4 he4
    obtain ⟨u3a, u3c, rfl, _⟩ := id O5.out
    go_wp2_with fail
    refine (equalI_any _ _ G Z w4 O5.out (HU.out.ext X4.out) HGL.out HZA.out).mono ?_
    rintro e w5 ⟨rfl, m, he⟩
    have X5 := hide' (X4.out.trans (show Ext w4 w5 by rw [he]; exact Ext.drewN _ _))
    clear he
    go_wp2
    go_ret
    exact ⟨rfl, X5.out⟩

set_option maxHeartbeats 1000000 in
theorem chLcp_any (v u t : Value) (s a h : List Int) (w : World) (hv : Sl .u8 w v s) (h8 : Bytes8 s) (hu : Sl .i64 w u a) (ht : Sl .i64 w t h) (hs : s.length ≤ 500) (ha : a.length ≤ 1000000) (hh : h.length ≤ 1000000) :
    Calls Try.prog 9 #[v, u, t] w fun e w' => e = .returned (.bool (chkB s a h)) ∧ Ext w w' := by
  have HV := hide' hv
  have HU := hide' hu
  have HT := hide' ht
  have HS := hide' hs
  have HA := hide' ha
  have HH := hide' hh
  have C := hide' (chSA_any v u s a w hv h8 hu hs ha)
  have HLL : Hid ((lcpL s a).length ≤ 1000000) := Nat.le_trans (lcpL_le s a) ha
  obtain ⟨va, vc, rfl, _⟩ := hv
  obtain ⟨ua, uc, rfl, _⟩ := hu
  obtain ⟨ta, tc, rfl, _⟩ := ht
  clear h8 hs ha hh
  go_enter Try.func9, Try.ntmps9
  go_wp2_with fail
  refine C.out.mono ?_
  cases hsa : saB s a
  · have HC : Hid (chkB s a h = false) := chkB_not hsa
    clear hsa C
    rintro e w1 ⟨rfl, he⟩
    have X1 := hide' he
    clear he
    go_wp2
    go_ret
    exact ⟨by rw [HC.out]; rfl, X1.out⟩
  · have HC : Hid (chkB s a h = decide (lcpL s a = h)) := by show _ = _; unfold chkB; rw [hsa, Bool.true_and]
    have HOK := hide' (saB_ok hsa)
    clear hsa C
    rintro e w1 ⟨rfl, he⟩
    have X1 := hide' he
    clear he
    go_wp2_with fail
    refine (klcp_any _ _ s a w1 (HV.out.ext X1.out) (HU.out.ext X1.out) HS.out HA.out).mono ?_
    rw [HOK.out]
    rintro e w2 ⟨u2, rfl, ho, he⟩
    have O2 := hide' ho.sl
    have X2 := hide' (X1.out.trans he)
    clear ho he
    obtain ⟨L, HL⟩ : ∃ L, Hid (lcpL s a = L) := ⟨_, rfl⟩
    rw [HL.out] at O2 HLL HC
    obtain ⟨u2a, u2c, rfl, _⟩ := id O2.out
    go_wp2_with fail
    refine (equalI_any _ _ L h w2 O2.out (HT.out.ext X2.out) HLL.out HH.out).mono ?_
    rintro e w3 ⟨rfl, m, he⟩
    have X3 := hide' (X2.out.trans (show Ext w2 w3 by rw [he]; exact Ext.drewN _ _))
    clear he
    go_wp2
    go_ret
    exact ⟨by rw [HC.out]; rfl, X3.out⟩
end Go.Proofs.Ytmojnliljaefbaa
