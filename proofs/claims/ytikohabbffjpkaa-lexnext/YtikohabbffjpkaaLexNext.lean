/- LexNext: the walk. -/
import Derived.Test.YtikohabbffjpkaaLexKnown
import Derived.Lib.MinMax
namespace Go.Proofs.Ytikohabbffjpkaa
set_option linter.unusedVariables false
set_option linter.unusedSimpArgs false
open Go.RowKit

theorem endL_next {s : List Int} {i j : Nat} (hi : i ≤ s.length) (hj : j ≤ s.length) (hij : i ≠ j) : ∃ c : Nat, comL s i j = (c : Int) ∧ i + c ≤ s.length ∧ j + c ≤ s.length ∧
    (i + c = s.length → endL s i j = -1) ∧ (i + c < s.length → j + c = s.length → endL s i j = 1) ∧
    (i + c < s.length → j + c < s.length → endL s i j = if s.getD (i + c) 0 < s.getD (j + c) 0 then -1 else 1) := by
  have hl := comI_le (s.drop i) (s.drop j)
  have hk := cmpI_comI (s.drop i) (s.drop j)
  simp only [List.length_drop] at hl hk
  refine ⟨comI (s.drop i) (s.drop j), comL_in hi hj, by omega, by omega, fun h => ?_, fun h h' => ?_, fun h h' => ?_⟩
  · rw [endL_in hi hj, hk, if_pos (by omega), if_neg (by omega)]
  · rw [endL_in hi hj, hk, if_neg (by omega), if_pos (by omega)]
  · rw [endL_in hi hj, hk, if_neg (by omega), if_neg (by omega)]
    have e1 : (s.drop i).getD (comI (s.drop i) (s.drop j)) 0 = s.getD (i + comI (s.drop i) (s.drop j)) 0 := by simp [List.getD]
    have e2 : (s.drop j).getD (comI (s.drop i) (s.drop j)) 0 = s.getD (j + comI (s.drop i) (s.drop j)) 0 := by simp [List.getD]
    rw [e1, e2]

set_option maxHeartbeats 1000000 in
set_option maxRecDepth 100000 in
theorem lawNext (v : Value) (zs : List Int) (i j : Int) (w : World) (hs : Sl .u8 w v zs) (hb : Bytes8 zs) :
    Calls Try.prog 5 #[v, .int .i64 i, .int .i64 j] w fun e w' => e = .returned (.bool true) ∧ Ext w w' := by
  have HS := hide' hs
  have HB := hide' hb
  clear hb
  obtain ⟨a, cap, rfl, hm2, hm3, _⟩ := hs
  unfold maxLen at hm3
  by_cases h0 : (200 : Int) < (zs.length : Int)
  · go_enter Try.func5, Try.ntmps5
    go_wp2
    go_ret
    exact ⟨rfl, Ext.refl _⟩
  have dh0 : decide ((200 : Int) < (zs.length : Int)) = false := by simpa using h0
  by_cases h1 : i < 0
  · go_enter Try.func5, Try.ntmps5
    go_wp2
    go_ret
    exact ⟨rfl, Ext.refl _⟩
  have dh1 : decide (i < 0) = false := by simpa using h1
  by_cases h2 : (zs.length : Int) < i
  · go_enter Try.func5, Try.ntmps5
    go_wp2
    go_ret
    exact ⟨rfl, Ext.refl _⟩
  have dh2 : decide ((zs.length : Int) < i) = false := by simpa using h2
  by_cases h3 : j < 0
  · go_enter Try.func5, Try.ntmps5
    go_wp2
    go_ret
    exact ⟨rfl, Ext.refl _⟩
  have dh3 : decide (j < 0) = false := by simpa using h3
  by_cases h4 : (zs.length : Int) < j
  · go_enter Try.func5, Try.ntmps5
    go_wp2
    go_ret
    exact ⟨rfl, Ext.refl _⟩
  have dh4 : decide ((zs.length : Int) < j) = false := by simpa using h4
  obtain ⟨i, rfl⟩ := Int.eq_ofNat_of_zero_le (show 0 ≤ i by omega)
  obtain ⟨j, rfl⟩ := Int.eq_ofNat_of_zero_le (show 0 ≤ j by omega)
  by_cases hij : i = j
  · subst hij
    go_enter Try.func5, Try.ntmps5
    go_wp2
    go_ret
    exact ⟨rfl, Ext.refl _⟩
  have dij : ((i : Int) == (j : Int)) = false := by simp; omega
  have gi : i ≤ zs.length := by omega
  have gj : j ≤ zs.length := by omega
  have h500 : zs.length ≤ 500 := by omega
  have hlen : zs.length ≤ 1000000 := by omega
  have hl2 : (zs.length : Int) ≤ 200 := by omega
  obtain ⟨c, HC, hic, hjc, k1, k2, k3⟩ := endL_next gi gj hij
  have K1 := hide' k1
  have K2 := hide' k2
  have K3 := hide' k3
  clear h0 h1 h2 h3 h4 hij k1 k2 k3
  have C1 : Hid (∀ W, Sl .u8 W (.slice a zs.length cap) zs → Calls Try.prog 17 #[.slice a zs.length cap, .int .i64 (i : Int), .int .i64 (j : Int)] W fun e w' => e = .returned (.int .i64 (c : Int)) ∧ Ext W w') := fun W h => by
    have := toExt (common_any _ zs i j W h h500)
    rwa [HC] at this
  have C2 : Hid (∀ W, Sl .u8 W (.slice a zs.length cap) zs → Calls Try.prog 13 #[.slice a zs.length cap, .int .i64 (i : Int), .int .i64 (j : Int)] W fun e w' => e = .returned (.int .i64 (endL zs i j)) ∧ Ext W w') := fun W h => toExt (endings_any _ zs i j W h HB.out)
  clear HC HB
  obtain ⟨t, ht⟩ : ∃ t, t = max i j := ⟨_, rfl⟩
  have hmax : max (i : Int) (j : Int) = (t : Int) := by omega
  have ht0 : t ≤ 200 := by omega
  have dc0 : decide ((c : Int) < 0) = false := by simp
  have dc1 : decide ((zs.length : Int) - t < c) = false := by simp; omega
  clear ht
  by_cases g1 : i + c = zs.length
  · have e1 : ((i : Int) + c == (zs.length : Int)) = true := by simp; omega
    rw [K1.out g1] at C2
    go_enter Try.func5, Try.ntmps5
    go_wp2_with fail
    refine (C1.out _ HS.out).mono ?_
    rintro e w1 ⟨rfl, he⟩
    have X1 := hide' he
    clear he
    go_wp2_with fail
    go_quiet (fail)
    go_wp2_with fail
    refine (C2.out _ ((HS.out.ext X1.out).drewN _)).mono ?_
    rintro e w2 ⟨rfl, he⟩
    have X2 := hide' ((X1.out.trans (Ext.drewN _ _)).trans he)
    clear he
    go_wp2_with fail
    refine (known_any _).mono ?_
    rintro e w3 ⟨rfl, he⟩
    have X3 := hide' (X2.out.trans he)
    clear he
    go_wp2
    go_ret
    exact ⟨rfl, X3.out⟩
  have e1 : ((i : Int) + c == (zs.length : Int)) = false := by simp; omega
  have g1' : i + c < zs.length := by omega
  by_cases g2 : j + c = zs.length
  · have e2 : decide ((j : Int) + c < (zs.length : Int)) = false := by simp; omega
    rw [K2.out g1' g2] at C2
    go_enter Try.func5, Try.ntmps5
    go_wp2_with fail
    refine (C1.out _ HS.out).mono ?_
    rintro e w1 ⟨rfl, he⟩
    have X1 := hide' he
    clear he
    go_wp2_with fail
    go_quiet (fail)
    go_wp2_with fail
    refine (C2.out _ ((HS.out.ext X1.out).drewN _)).mono ?_
    rintro e w2 ⟨rfl, he⟩
    have X2 := hide' ((X1.out.trans (Ext.drewN _ _)).trans he)
    clear he
    go_wp2_with fail
    refine (known_any _).mono ?_
    rintro e w3 ⟨rfl, he⟩
    have X3 := hide' (X2.out.trans he)
    clear he
    go_wp2
    go_ret
    exact ⟨rfl, X3.out⟩
  have e2 : (j : Int) + c < (zs.length : Int) := by omega
  have e1' : (i : Int) + c < (zs.length : Int) := by omega
  have g2' : j + c < zs.length := by omega
  have hne : zs ≠ [] := fun h => by rw [h] at g1'; simp at g1'
  obtain ⟨_, b, off, hab, hc⟩ := HS.out.at hne
  subst hab
  have q1 := hc (i + c) g1'
  have q2 := hc (j + c) g2'
  have K4 := hide' (K3.out g1' g2')
  obtain ⟨p, hp⟩ : ∃ p, zs.getD (i + c) 0 = p := ⟨_, rfl⟩
  obtain ⟨q, hq⟩ : ∃ q, zs.getD (j + c) 0 = q := ⟨_, rfl⟩
  rw [hp] at q1 K4
  rw [hq] at q2 K4
  have Q1 := hide' q1
  have Q2 := hide' q2
  clear hp hq hc hne q1 q2
  by_cases hpq : p < q
  · rw [if_pos hpq] at K4
    rw [K4.out] at C2
    go_enter Try.func5, Try.ntmps5
    go_wp2_with fail
    refine (C1.out _ HS.out).mono ?_
    rintro e w1 ⟨rfl, he⟩
    have X1 := hide' he
    clear he
    have q1 := X1.out.cellOf Q1.out
    have q2 := X1.out.cellOf Q2.out
    go_wp2_with fail
    go_quiet (fail)
    clear q1 q2
    go_wp2_with fail
    refine (C2.out _ ((HS.out.ext X1.out).drewN _)).mono ?_
    rintro e w2 ⟨rfl, he⟩
    have X2 := hide' ((X1.out.trans (Ext.drewN _ _)).trans he)
    clear he
    go_wp2_with fail
    refine (known_any _).mono ?_
    rintro e w3 ⟨rfl, he⟩
    have X3 := hide' (X2.out.trans he)
    clear he
    go_wp2
    go_ret
    exact ⟨rfl, X3.out⟩
  · rw [if_neg hpq] at K4
    have hpq' : decide (p < q) = false := by simpa using hpq
    clear hpq
    rw [K4.out] at C2
    go_enter Try.func5, Try.ntmps5
    go_wp2_with fail
    refine (C1.out _ HS.out).mono ?_
    rintro e w1 ⟨rfl, he⟩
    have X1 := hide' he
    clear he
    have q1 := X1.out.cellOf Q1.out
    have q2 := X1.out.cellOf Q2.out
    go_wp2_with fail
    go_quiet (fail)
    clear q1 q2
    go_wp2_with fail
    refine (C2.out _ ((HS.out.ext X1.out).drewN _)).mono ?_
    rintro e w2 ⟨rfl, he⟩
    have X2 := hide' ((X1.out.trans (Ext.drewN _ _)).trans he)
    clear he
    go_wp2_with fail
    refine (known_any _).mono ?_
    rintro e w3 ⟨rfl, he⟩
    have X3 := hide' (X2.out.trans he)
    clear he
    go_wp2
    go_ret
    exact ⟨rfl, X3.out⟩
end Go.Proofs.Ytikohabbffjpkaa
