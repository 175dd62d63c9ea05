/- BucketAll: the walk. -/
import Derived.Test.YtpkljneipkpdeaaBktKnown
import Derived.Test.YtpkljneipkpdeaaBktOnce
namespace Go.Proofs.Ytpkljneipkpdeaa
set_option linter.unusedVariables false
set_option linter.unusedSimpArgs false
open Go.RowKit

theorem natL_up (i : Nat) : natL (List.range i) ++ [(i : Int)] = natL (List.range (i + 1)) := by simp [natL, List.range_succ]
theorem pass_all {n : Nat} {ks : List Int} {K : Nat} (hK : K ≤ 1048576) (hg : goodI (K : Int) ks = true) (hn : ks.length = n) : passB (natL (List.range n)) ks (K : Int) = true ∧ passI (natL (List.range n)) ks (K : Int) = natL (csort K (List.range n) (keyN ks)) := by
  have h1 : passB (natL (List.range n)) ks (K : Int) = true := passB_iff.2 ⟨fitB_iff.2 ⟨by omega, by omega, hg⟩, good_nat fun p hp => by rw [hn]; exact List.mem_range.1 hp⟩
  exact ⟨h1, by rw [passI_yes h1, toN_nat, Int.toNat_natCast]⟩
theorem keyN_of {K : Nat} {ks : List Int} (hg : goodI (K : Int) ks = true) {p : Nat} (hp : p < ks.length) : keyN ks p < K ∧ (keyN ks p : Int) = ks.getD p 0 := by
  have := goodI_at hg hp
  unfold keyN
  omega

set_option maxHeartbeats 2000000 in
set_option maxRecDepth 100000 in
theorem lawAll (v : Value) (ks : List Int) (k : Int) (w : World) (hv : Sl .i64 w v ks) :
    Calls Try.prog 6 #[v, .int .i64 k] w fun e w' => e = .returned (.bool true) ∧ Ext w w' := by
  have HV := hide' hv
  obtain ⟨a, c, rfl, _⟩ := hv
  by_cases h1 : (150 : Int) < (ks.length : Int)
  · go_enter Try.func6, Try.ntmps6
    go_wp2
    go_ret
    exact ⟨rfl, Ext.refl _⟩
  have d1 : decide ((150 : Int) < (ks.length : Int)) = false := by simpa using h1
  by_cases h2 : k < 1
  · go_enter Try.func6, Try.ntmps6
    go_wp2
    go_ret
    exact ⟨rfl, Ext.refl _⟩
  have d2 : decide (k < 1) = false := by rw [decide_eq_false_iff_not]; omega
  by_cases h3 : 300 < k
  · go_enter Try.func6, Try.ntmps6
    go_wp2
    go_ret
    exact ⟨rfl, Ext.refl _⟩
  have d3 : decide (300 < k) = false := by rw [decide_eq_false_iff_not]; omega
  obtain ⟨_, _, _, hcv⟩ := HV.out.int
  have CV := hide' hcv
  obtain ⟨n, HN⟩ : ∃ n, Hid (ks.length = n) := ⟨_, rfl⟩
  rw [HN.out] at CV HV d1 h1 ⊢
  have hn : n ≤ 150 := by omega
  have hK : ((k.toNat : Nat) : Int) = k := by omega
  obtain ⟨K, HK⟩ : ∃ K : Nat, Hid ((K : Int) = k) := ⟨k.toNat, hK⟩
  have hKb : K ≤ 300 := by have := HK.out; omega
  clear hcv h1 h2 h3 hK
  go_enter Try.func6, Try.ntmps6
  go_wp2
  go_loopw [5, 6] (fun sv vi wr => ∃ (i : Nat), i ≤ n ∧ vi = .int .i64 i ∧ Hid (∀ j, j < i → 0 ≤ ks.getD j 0 ∧ ks.getD j 0 < k) ∧
    Hid (Own .i64 3 w.heap.size wr sv (natL (List.range i))) ∧ Hid (Ext w wr)) (fun _ vi _ => n - (intOf vi).toNat)
  case atStart => exact ⟨0, Nat.zero_le _, rfl, (fun j hj => by omega), Own.nil _ _ _ _, Ext.refl _⟩
  case round =>
    obtain ⟨i, hi, rfl, HG, HO, HE⟩ := hrel
    by_cases hlt : i < n
    · have hlt' : (i : Int) < n := by omega
      obtain ⟨g1, o1, rfl, k1⟩ := CV.out (by omega)
      have c1 := HE.out.cellOf (k1 i hlt)
      clear k1
      obtain ⟨z, HZ⟩ : ∃ z, Hid (ks.getD i 0 = z) := ⟨_, rfl⟩
      rw [HZ.out] at c1
      by_cases e1 : z < 0
      · go_wp2
        go_ret
        exact ⟨rfl, HE.out⟩
      have f1 : decide (z < 0) = false := by rw [decide_eq_false_iff_not]; omega
      by_cases e2 : k ≤ z
      · go_wp2
        go_ret
        exact ⟨rfl, HE.out⟩
      have f2 : decide (k ≤ z) = false := by rw [decide_eq_false_iff_not]; omega
      have hsz := HE.out.size
      have HLR : Hid ((natL (List.range i)).length = i) := by show _ = _; rw [natL_len, List.length_range]
      go_wp2_with (at_builtin; refine wpList_snoc _ rfl _ _ 22 rfl 3 .i64 8 Try.underlying22 infoI64 w.heap.size _ (natL (List.range i)) (i : Int) ⟨wr.heap.size, 0, none⟩ rfl rfl ?c4 (HO.out.alloc _) ?c3 ?c5 ?_)
      case c3 => rw [HLR.out]; unfold maxLen; omega
      case c5 => omega
      intro v1 w1 ho1 hb1
      have HO1 : Hid (Own .i64 3 w.heap.size w1 v1 (natL (List.range (i + 1)))) := by rw [← natL_up]; exact ho1
      have HE1 : Hid (Ext w w1) := Below.trans (HE.out.trans (ext_alloc _ _)) hb1
      clear ho1 hb1
      go_wp2
      go_roundw
      case rel =>
        refine ⟨i + 1, by omega, by go_num, (fun j hj => ?_), HO1, HE1⟩
        by_cases e : j = i
        · subst e; rw [HZ.out]; omega
        · exact HG.out j (by omega)
      case measure => simp [intOf]; omega
    · have hlt' : decide ((i : Int) < n) = false := by simp; omega
      have hin : i = n := by omega
      subst hin
      have GK : Hid (goodI ((K : Nat) : Int) ks = true) := goodI_of fun j hj => by rw [HK.out]; exact HG.out j (by rw [HN.out] at hj; exact hj)
      have KK : Hid (∀ p, p < i → keyN ks p < K ∧ (keyN ks p : Int) = ks.getD p 0) := fun p hp => keyN_of GK.out (by rw [HN.out]; exact hp)
      obtain ⟨pb1, pi1⟩ := pass_all (n := i) (K := K) (by omega) GK.out HN.out
      rw [HK.out] at pb1 pi1
      have PB1 := hide' pb1
      have PI1 := hide' pi1
      have LR : Hid ((natL (List.range i)).length ≤ 1000000) := by show _ ≤ _; rw [natL_len, List.length_range]; omega
      have LL : Hid (ks.length ≤ 1000000) := by show _ ≤ _; rw [HN.out]; omega
      obtain ⟨al1, al2, al3, al4⟩ := all_at (K := K) (n := i) (key := keyN ks) (fun p hp => (KK.out p hp).1)
      have AL1 := hide' al1
      have AL2 := hide' al2
      have AL3 := hide' al3
      have AL4 := hide' al4
      obtain ⟨b, HB⟩ : ∃ b, Hid (csort K (List.range i) (keyN ks) = b) := ⟨_, rfl⟩
      rw [HB.out] at PI1 AL1 AL2 AL3 AL4
      clear pb1 pi1 al1 al2 al3 al4
      go_wp2_with fail
      refine (pass_any _ _ (natL (List.range i)) ks k _ HO.out.sl (HV.out.ext HE.out) LR.out LL.out).mono ?_
      rw [PB1.out, PI1.out]
      rintro e w2 ⟨s2, rfl, ho, he⟩
      have O2 := hide' ho.sl
      have X2 := hide' (HE.out.trans he)
      clear ho he HO HE
      obtain ⟨a3, c3, rfl, _⟩ := id O2.out
      rw [natL_len, AL1.out] at O2 ⊢
      have HC3 := hide' O2.out.nat.2.2.2
      go_wp2_with fail
      refine (once_any _ b w2 O2.out (by rw [AL1.out]; omega) AL3.out (by rw [AL1.out]; exact AL2.out)).mono ?_
      rintro e w3 ⟨rfl, he⟩
      have X23 := hide' he
      have X3 := hide' (X2.out.trans he)
      clear he
      go_wp2
      go_loopw [9] (fun vi wr => ∃ (t : Nat), t ≤ i ∧ vi = .int .i64 ((t : Int) + 1) ∧ Hid (Ext w3 wr)) (fun vi _ => i - (intOf vi).toNat)
      case atStart => exact ⟨0, Nat.zero_le _, rfl, Ext.refl _⟩
      case round =>
        obtain ⟨t, ht, rfl, HE⟩ := hrel
        by_cases hlt2 : t + 1 < i
        · have q1 : (t : Int) + 1 < i := by omega
          have q2 : (t : Int) + 1 - 1 = (t : Int) := by omega
          have q3 : (t : Int) < i := by omega
          have q4 : t < i := by omega
          obtain ⟨g1, o1, rfl, k1⟩ := CV.out (by omega)
          obtain ⟨g3, o3, rfl, k3⟩ := HC3.out (by omega)
          have hx := AL2.out t q4
          have hy := AL2.out (t + 1) hlt2
          have hxy := AL4.out t hlt2
          have b1 := (X23.out.trans HE.out).cellOf (k3 t q4)
          have b2 := (X23.out.trans HE.out).cellOf (k3 (t + 1) hlt2)
          obtain ⟨x, HX⟩ : ∃ x, Hid (b.getD t 0 = x) := ⟨_, rfl⟩
          obtain ⟨y, HY⟩ : ∃ y, Hid (b.getD (t + 1) 0 = y) := ⟨_, rfl⟩
          rw [HX.out] at b1 hx hxy
          rw [HY.out] at b2 hy hxy
          have hx1 := (KK.out x hx).2
          have hy1 := (KK.out y hy).2
          have m1 := (X3.out.trans HE.out).cellOf (k1 x hx)
          have m2 := (X3.out.trans HE.out).cellOf (k1 y hy)
          obtain ⟨hxv, HV1⟩ : ∃ z, Hid (ks.getD x 0 = z) := ⟨_, rfl⟩
          obtain ⟨hyv, HV2⟩ : ∃ z, Hid (ks.getD y 0 = z) := ⟨_, rfl⟩
          rw [HV1.out] at m1 hx1
          rw [HV2.out] at m2 hy1
          have hcase : hxv < hyv ∨ (hxv = hyv ∧ x < y) := by omega
          clear k1 k3 hx1 hy1 hxy
          have x3 : (x : Int) < i := by omega
          have y3 : (y : Int) < i := by omega
          rcases hcase with hc | ⟨hc, hc2⟩
          · have r1 : decide (hyv < hxv) = false := by rw [decide_eq_false_iff_not]; omega
            have r2 : (hxv == hyv) = false := by simp; omega
            clear hc
            go_wp2_with fail
            go_big_quiet (fail)
            go_wp2
            go_roundw
            case rel => exact ⟨t + 1, by omega, by go_num, HE.out.trans (Ext.drewN _ _)⟩
            case measure => simp [intOf]; omega
          · have r1 : decide (hyv < hxv) = false := by rw [decide_eq_false_iff_not]; omega
            have r2 : (hxv == hyv) = true := by simp; omega
            have r3 : decide ((y : Int) < x) = false := by rw [decide_eq_false_iff_not]; omega
            have r4 : decide (y < x) = false := by rw [decide_eq_false_iff_not]; omega
            clear hc hc2
            go_wp2_with fail
            go_big_quiet (fail)
            go_wp2
            go_roundw
            case rel => exact ⟨t + 1, by omega, by go_num, HE.out.trans (Ext.drewN _ _)⟩
            case measure => simp [intOf]; omega
        · have hlt2' : decide ((t : Int) + 1 < i) = false := by simp; omega
          go_wp2_with fail
          refine (known_any wr).mono ?_
          rintro e w7 ⟨rfl, he⟩
          have X7 := hide' ((X3.out.trans HE.out).trans he)
          clear he
          go_wp2
          go_ret
          exact ⟨rfl, X7.out⟩
end Go.Proofs.Ytpkljneipkpdeaa
