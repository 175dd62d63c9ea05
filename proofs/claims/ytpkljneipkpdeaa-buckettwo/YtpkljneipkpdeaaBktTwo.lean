/- BucketTwo: the walk. -/
import Derived.Test.YtpkljneipkpdeaaBktKnown
namespace Go.Proofs.Ytpkljneipkpdeaa
set_option linter.unusedVariables false
set_option linter.unusedSimpArgs false
open Go.RowKit

theorem natL_range (i : Nat) : natL (List.range i) ++ [(i : Int)] = natL (List.range (i + 1)) := by simp [natL, List.range_succ]
theorem pass_nat {ps : List Nat} {ks : List Int} {K : Nat} (hK : K ≤ 1048576) (hg : goodI (K : Int) ks = true) (hp : ∀ p ∈ ps, p < ks.length) : passB (natL ps) ks (K : Int) = true ∧ passI (natL ps) ks (K : Int) = natL (csort K ps (keyN ks)) := by
  have h1 : passB (natL ps) ks (K : Int) = true := passB_iff.2 ⟨fitB_iff.2 ⟨by omega, by omega, hg⟩, good_nat hp⟩
  exact ⟨h1, by rw [passI_yes h1, toN_nat, Int.toNat_natCast]⟩
theorem keyN_good {K : Nat} {ks : List Int} (hg : goodI (K : Int) ks = true) {p : Nat} (hp : p < ks.length) : keyN ks p < K ∧ (keyN ks p : Int) = ks.getD p 0 := by
  have := goodI_at hg hp
  unfold keyN
  omega

set_option maxHeartbeats 2000000 in
set_option maxRecDepth 100000 in
theorem lawTwo (v u : Value) (hs ls : List Int) (w : World) (hv : Sl .i64 w v hs) (hu : Sl .i64 w u ls) :
    Calls Try.prog 5 #[v, u] w fun e w' => e = .returned (.bool true) ∧ Ext w w' := by
  have HV := hide' hv
  have HU := hide' hu
  obtain ⟨a, c, rfl, _⟩ := hv
  obtain ⟨a', c', rfl, _⟩ := hu
  by_cases h1 : (100 : Int) < (hs.length : Int)
  · go_enter Try.func5, Try.ntmps5
    go_wp2
    go_ret
    exact ⟨rfl, Ext.refl _⟩
  have d1 : decide ((100 : Int) < (hs.length : Int)) = false := by simpa using h1
  by_cases h2 : ls.length = hs.length
  rotate_left
  · have d2 : ((ls.length : Int) != (hs.length : Int)) = true := by simp; omega
    have d3 : ((ls.length : Int) == (hs.length : Int)) = false := by simp; omega
    clear h1 h2
    go_enter Try.func5, Try.ntmps5
    go_wp2
    go_ret
    exact ⟨rfl, Ext.refl _⟩
  obtain ⟨_, _, _, hcv⟩ := HV.out.int
  obtain ⟨_, _, _, hcu⟩ := HU.out.int
  have CV := hide' hcv
  have CU := hide' hcu
  obtain ⟨n, HN⟩ : ∃ n, Hid (hs.length = n) := ⟨_, rfl⟩
  have HM : Hid (ls.length = n) := h2.trans HN.out
  rw [HN.out] at CV HV d1 ⊢
  rw [HM.out] at CU HU ⊢
  have hn : n ≤ 100 := by have := HN.out; omega
  clear hcv hcu h1 h2
  go_enter Try.func5, Try.ntmps5
  go_wp2
  go_loopw [6, 7] (fun sv vi wr => ∃ (i : Nat), i ≤ n ∧ vi = .int .i64 i ∧ Hid (∀ j, j < i → (0 ≤ hs.getD j 0 ∧ hs.getD j 0 < 100) ∧ (0 ≤ ls.getD j 0 ∧ ls.getD j 0 < 100)) ∧
    Hid (Own .i64 3 w.heap.size wr sv (natL (List.range i))) ∧ Hid (Ext w wr)) (fun _ vi _ => n - (intOf vi).toNat)
  case atStart => exact ⟨0, Nat.zero_le _, rfl, (fun j hj => by omega), Own.nil _ _ _ _, Ext.refl _⟩
  case round =>
    obtain ⟨i, hi, rfl, HG, HO, HE⟩ := hrel
    by_cases hlt : i < n
    · have hlt' : (i : Int) < n := by omega
      obtain ⟨g1, o1, rfl, k1⟩ := CV.out (by omega)
      obtain ⟨g2, o2, rfl, k2⟩ := CU.out (by omega)
      have c1 := HE.out.cellOf (k1 i hlt)
      have c2 := HE.out.cellOf (k2 i hlt)
      clear k1 k2
      obtain ⟨z, HZ⟩ : ∃ z, Hid (hs.getD i 0 = z) := ⟨_, rfl⟩
      obtain ⟨y, HY⟩ : ∃ z, Hid (ls.getD i 0 = z) := ⟨_, rfl⟩
      rw [HZ.out] at c1
      rw [HY.out] at c2
      by_cases e1 : z < 0
      · go_wp2
        go_ret
        exact ⟨rfl, HE.out⟩
      have f1 : decide (z < 0) = false := by simp; omega
      by_cases e2 : 99 < z
      · go_wp2
        go_ret
        exact ⟨rfl, HE.out⟩
      have f2 : decide (99 < z) = false := by simp; omega
      by_cases e3 : y < 0
      · go_wp2
        go_ret
        exact ⟨rfl, HE.out⟩
      have f3 : decide (y < 0) = false := by simp; omega
      by_cases e4 : 99 < y
      · go_wp2
        go_ret
        exact ⟨rfl, HE.out⟩
      have f4 : decide (99 < y) = false := by simp; omega
      have hsz := HE.out.size
      have HLR : Hid ((natL (List.range i)).length = i) := by show _ = _; rw [natL_len, List.length_range]
      go_wp2_with (at_builtin; refine wpList_snoc _ rfl _ _ 22 rfl 3 .i64 8 Try.underlying22 infoI64 w.heap.size _ (natL (List.range i)) (i : Int) ⟨wr.heap.size, 0, none⟩ rfl rfl ?c4 (HO.out.alloc _) ?c3 ?c5 ?_)
      case c3 => rw [HLR.out]; unfold maxLen; omega
      case c5 => omega
      intro v1 w1 ho1 hb1
      have HO1 : Hid (Own .i64 3 w.heap.size w1 v1 (natL (List.range (i + 1)))) := by rw [← natL_range]; exact ho1
      have HE1 : Hid (Ext w w1) := Below.trans (HE.out.trans (ext_alloc _ _)) hb1
      clear ho1 hb1
      go_wp2
      go_roundw
      case rel =>
        refine ⟨i + 1, by omega, by go_num, (fun j hj => ?_), HO1, HE1⟩
        by_cases e : j = i
        · subst e; rw [HZ.out, HY.out]; omega
        · exact HG.out j (by omega)
      case measure => simp [intOf]; omega
    · have hlt' : decide ((i : Int) < n) = false := by simp; omega
      have hin : i = n := by omega
      subst hin
      have GH : Hid (goodI ((100 : Nat) : Int) hs = true) := goodI_of fun j hj => (HG.out j (by rw [HN.out] at hj; exact hj)).1
      have GL : Hid (goodI ((100 : Nat) : Int) ls = true) := goodI_of fun j hj => (HG.out j (by rw [HM.out] at hj; exact hj)).2
      have KH : Hid (∀ p, p < i → keyN hs p < 100 ∧ (keyN hs p : Int) = hs.getD p 0) := fun p hp => keyN_good GH.out (by rw [HN.out]; exact hp)
      have KL : Hid (∀ p, p < i → keyN ls p < 100 ∧ (keyN ls p : Int) = ls.getD p 0) := fun p hp => keyN_good GL.out (by rw [HM.out]; exact hp)
      obtain ⟨pb1, pi1⟩ := pass_nat (ps := List.range i) (K := 100) (by omega) GL.out (fun p hp => by rw [HM.out]; exact List.mem_range.1 hp)
      have PB1 : Hid (passB (natL (List.range i)) ls 100 = true) := pb1
      have PI1 : Hid (passI (natL (List.range i)) ls 100 = natL (csort 100 (List.range i) (keyN ls))) := pi1
      have hperm : (csort 100 (List.range i) (keyN ls)).Perm (List.range i) := csort_perm fun p hp => (KL.out p (List.mem_range.1 hp)).1
      obtain ⟨pb2, pi2⟩ := pass_nat (ps := csort 100 (List.range i) (keyN ls)) (K := 100) (by omega) GH.out (fun p hp => by rw [HN.out]; exact List.mem_range.1 (hperm.mem_iff.1 hp))
      have PB2 : Hid (passB (natL (csort 100 (List.range i) (keyN ls))) hs 100 = true) := pb2
      have PI2 : Hid (passI (natL (csort 100 (List.range i) (keyN ls))) hs 100 = natL (csort 100 (csort 100 (List.range i) (keyN ls)) (keyN hs))) := pi2
      have LA : Hid ((natL (csort 100 (List.range i) (keyN ls))).length ≤ 1000000) := by show _ ≤ _; rw [natL_len, hperm.length_eq, List.length_range]; omega
      have LR : Hid ((natL (List.range i)).length ≤ 1000000) := by show _ ≤ _; rw [natL_len, List.length_range]; omega
      have HTW := hide' (two_at (K := 100) (n := i) (H := keyN hs) (L := keyN ls) (fun p hp => (KH.out p hp).1) (fun p hp => (KL.out p hp).1) rfl)
      have LH : Hid (hs.length ≤ 1000000) := by show _ ≤ _; rw [HN.out]; omega
      have LL : Hid (ls.length ≤ 1000000) := by show _ ≤ _; rw [HM.out]; omega
      obtain ⟨A, HA⟩ : ∃ A, Hid (csort 100 (List.range i) (keyN ls) = A) := ⟨_, rfl⟩
      rw [HA.out] at PI1 PB2 PI2 LA HTW
      obtain ⟨b, HB⟩ : ∃ b, Hid (csort 100 A (keyN hs) = b) := ⟨_, rfl⟩
      rw [HB.out] at PI2 HTW
      clear pb1 pi1 pb2 pi2 hperm
      go_wp2_with fail
      refine (pass_any _ _ (natL (List.range i)) ls 100 _ HO.out.sl (HU.out.ext HE.out) LR.out LL.out).mono ?_
      rw [PB1.out, PI1.out]
      rintro e w2 ⟨s2, rfl, ho, he⟩
      have O2 := hide' ho.sl
      have X2 := hide' (HE.out.trans he)
      clear ho he HO HE
      go_wp2_with fail
      refine (pass_any _ _ (natL A) hs 100 _ O2.out (HV.out.ext X2.out) LA.out LH.out).mono ?_
      rw [PB2.out, PI2.out]
      rintro e w3 ⟨s3, rfl, ho, he⟩
      have X3 := hide' (X2.out.trans he)
      have O3 := hide' ho.sl
      clear ho he O2 X2
      obtain ⟨tb1, tb2, tb3⟩ := HTW.out
      have TB2 := hide' tb2
      have TB3 := hide' tb3
      have TB1 := hide' tb1
      clear tb1 tb2 tb3 HTW
      obtain ⟨a3, c3, rfl, _⟩ := id O3.out
      rw [natL_len, TB1.out] at O3 ⊢
      have HC3 := hide' O3.out.nat.2.2.2
      go_wp2
      go_loopw [12] (fun vi wr => ∃ (t : Nat), t ≤ i ∧ vi = .int .i64 ((t : Int) + 1) ∧ Hid (Ext w3 wr)) (fun vi _ => i - (intOf vi).toNat)
      case atStart => exact ⟨0, Nat.zero_le _, rfl, Ext.refl _⟩
      case round =>
        obtain ⟨t, ht, rfl, HE⟩ := hrel
        by_cases hlt2 : t + 1 < i
        · have q1 : (t : Int) + 1 < i := by omega
          have q2 : (t : Int) + 1 - 1 = (t : Int) := by omega
          have q3 : (t : Int) < i := by omega
          have q4 : t < i := by omega
          obtain ⟨g1, o1, rfl, k1⟩ := CV.out (by omega)
          obtain ⟨g2, o2, rfl, k2⟩ := CU.out (by omega)
          obtain ⟨g3, o3, rfl, k3⟩ := HC3.out (by omega)
          have hx := TB2.out t q4
          have hy := TB2.out (t + 1) hlt2
          have hxy := TB3.out t hlt2
          have b1 := HE.out.cellOf (k3 t q4)
          have b2 := HE.out.cellOf (k3 (t + 1) hlt2)
          obtain ⟨x, HX⟩ : ∃ x, Hid (b.getD t 0 = x) := ⟨_, rfl⟩
          obtain ⟨y, HY⟩ : ∃ y, Hid (b.getD (t + 1) 0 = y) := ⟨_, rfl⟩
          rw [HX.out] at b1 hx hxy
          rw [HY.out] at b2 hy hxy
          have hx1 := (KH.out x hx).2
          have hy1 := (KH.out y hy).2
          have hx2 := (KL.out x hx).2
          have hy2 := (KL.out y hy).2
          have m1 := (X3.out.trans HE.out).cellOf (k1 x hx)
          have m2 := (X3.out.trans HE.out).cellOf (k1 y hy)
          have m3 := (X3.out.trans HE.out).cellOf (k2 x hx)
          have m4 := (X3.out.trans HE.out).cellOf (k2 y hy)
          obtain ⟨hxv, HV1⟩ : ∃ z, Hid (hs.getD x 0 = z) := ⟨_, rfl⟩
          obtain ⟨hyv, HV2⟩ : ∃ z, Hid (hs.getD y 0 = z) := ⟨_, rfl⟩
          obtain ⟨lxv, HV3⟩ : ∃ z, Hid (ls.getD x 0 = z) := ⟨_, rfl⟩
          obtain ⟨lyv, HV4⟩ : ∃ z, Hid (ls.getD y 0 = z) := ⟨_, rfl⟩
          rw [HV1.out] at m1 hx1
          rw [HV2.out] at m2 hy1
          rw [HV3.out] at m3 hx2
          rw [HV4.out] at m4 hy2
          have hcase : hxv < hyv ∨ (hxv = hyv ∧ (lxv < lyv ∨ (lxv = lyv ∧ x < y))) := by omega
          clear k1 k2 k3 hx1 hy1 hx2 hy2 hxy
          have x0 : decide ((x : Int) < 0) = false := by rw [decide_eq_false_iff_not]; omega
          have y0 : decide ((y : Int) < 0) = false := by rw [decide_eq_false_iff_not]; omega
          have x1 : decide ((i : Int) ≤ x) = false := by simp; omega
          have y1 : decide ((i : Int) ≤ y) = false := by simp; omega
          have x2 : decide (i ≤ x) = false := by rw [decide_eq_false_iff_not]; omega
          have y2 : decide (i ≤ y) = false := by rw [decide_eq_false_iff_not]; omega
          have x3 : (x : Int) < i := by omega
          have y3 : (y : Int) < i := by omega
          rcases hcase with hc | ⟨hc, hc2 | ⟨hc2, hc3⟩⟩
          · have r1 : decide (hyv < hxv) = false := by simp; omega
            have r2 : (hxv == hyv) = false := by simp; omega
            clear hc
            go_wp2_with fail
            go_big_quiet (fail)
            go_wp2_with fail
            simp only [List.append]
            go_big_quiet (fail)
            go_wp2
            go_roundw
            case rel => exact ⟨t + 1, by omega, by go_num, HE.out.trans (Ext.drewN _ _)⟩
            case measure => simp [intOf]; omega
          · have r1 : decide (hyv < hxv) = false := by simp; omega
            have r2 : (hxv == hyv) = true := by simp; omega
            have r3 : decide (lyv < lxv) = false := by simp; omega
            have r4 : (lxv == lyv) = false := by simp; omega
            clear hc hc2
            go_wp2_with fail
            go_big_quiet (fail)
            go_wp2_with fail
            simp only [List.append]
            go_big_quiet (fail)
            go_wp2
            go_roundw
            case rel => exact ⟨t + 1, by omega, by go_num, HE.out.trans (Ext.drewN _ _)⟩
            case measure => simp [intOf]; omega
          · have r1 : decide (hyv < hxv) = false := by simp; omega
            have r2 : (hxv == hyv) = true := by simp; omega
            have r3 : decide (lyv < lxv) = false := by simp; omega
            have r4 : (lxv == lyv) = true := by simp; omega
            have r5 : decide ((y : Int) ≤ x) = false := by simp; omega
            have r6 : decide (y ≤ x) = false := by simp; omega
            clear hc hc2 hc3
            go_wp2_with fail
            go_big_quiet (fail)
            go_wp2_with fail
            simp only [List.append]
            go_big_quiet (fail)
            go_wp2
            go_roundw
            case rel => exact ⟨t + 1, by omega, by go_num, HE.out.trans (Ext.drewN _ _)⟩
            case measure => simp [intOf]; omega
        · have hlt2' : decide ((t : Int) + 1 < i) = false := by simp; omega
          go_wp2_with fail
          refine (known_any wr).mono ?_
          rintro e w7 ⟨rfl, he⟩
          have X7 := hide' ((X3.out.trans HE.out).trans he)
          clear he
          go_wp2
          go_ret
          exact ⟨rfl, X7.out⟩
end Go.Proofs.Ytpkljneipkpdeaa
