/- LexOrder: the walk. -/
import Derived.Test.YtikohabbffjpkaaLexKnown
namespace Go.Proofs.Ytikohabbffjpkaa
set_option linter.unusedVariables false
set_option linter.unusedSimpArgs false
open Go.RowKit

theorem endL_swap {s : List Int} {i j : Nat} (hi : i ≤ s.length) (hj : j ≤ s.length) : endL s j i = - endL s i j := by
  rw [endL_in hj hi, endL_in hi hj, cmpI_swap]
theorem endL_zero {s : List Int} {i j : Nat} (hi : i ≤ s.length) (hj : j ≤ s.length) : endL s i j = 0 ↔ i = j := by
  rw [endL_in hi hj]
  constructor
  · intro h
    have := congrArg List.length (cmpI_zero h)
    simp only [List.length_drop] at this
    omega
  · rintro rfl; exact cmpI_self _
theorem endL_three (s : List Int) (i j : Int) : endL s i j = -1 ∨ endL s i j = 0 ∨ endL s i j = 1 := by
  unfold endL
  split
  · exact cmpI_three _ _
  · exact .inr (.inl rfl)
theorem endL_trans {s : List Int} {i j k : Nat} (hi : i ≤ s.length) (hj : j ≤ s.length) (hk : k ≤ s.length) (h1 : endL s i j ≤ 0) (h2 : endL s j k ≤ 0) : endL s i k ≤ 0 := by
  rw [endL_in hi hj] at h1
  rw [endL_in hj hk] at h2
  rw [endL_in hi hk]
  exact cmpI_trans _ _ _ h1 h2
theorem comL_swap {s : List Int} {i j : Nat} (hi : i ≤ s.length) (hj : j ≤ s.length) : comL s j i = comL s i j := by
  rw [comL_in hj hi, comL_in hi hj, comI_swap]
theorem comL_self {s : List Int} {i : Nat} (hi : i ≤ s.length) : comL s i i = (s.length : Int) - i := by
  rw [comL_in hi hi, comI_self, List.length_drop]; omega

set_option maxHeartbeats 1000000 in
set_option maxRecDepth 100000 in
theorem lawOrder (v : Value) (zs : List Int) (i j k : Int) (w : World) (hs : Sl .u8 w v zs) (hb : Bytes8 zs) :
    Calls Try.prog 4 #[v, .int .i64 i, .int .i64 j, .int .i64 k] w fun e w' => e = .returned (.bool true) ∧ Ext w w' := by
  have HS := hide' hs
  have HB := hide' hb
  clear hb
  obtain ⟨a, cap, rfl, hm2, hm3, _⟩ := hs
  unfold maxLen at hm3
  by_cases h0 : (200 : Int) < (zs.length : Int)
  · go_enter Try.func4, Try.ntmps4
    go_wp2
    go_ret
    exact ⟨rfl, Ext.refl _⟩
  have dh0 : decide ((200 : Int) < (zs.length : Int)) = false := by simpa using h0
  by_cases h1 : i < 0
  · go_enter Try.func4, Try.ntmps4
    go_wp2
    go_ret
    exact ⟨rfl, Ext.refl _⟩
  have dh1 : decide (i < 0) = false := by simpa using h1
  by_cases h2 : (zs.length : Int) < i
  · go_enter Try.func4, Try.ntmps4
    go_wp2
    go_ret
    exact ⟨rfl, Ext.refl _⟩
  have dh2 : decide ((zs.length : Int) < i) = false := by simpa using h2
  by_cases h3 : j < 0
  · go_enter Try.func4, Try.ntmps4
    go_wp2
    go_ret
    exact ⟨rfl, Ext.refl _⟩
  have dh3 : decide (j < 0) = false := by simpa using h3
  by_cases h4 : (zs.length : Int) < j
  · go_enter Try.func4, Try.ntmps4
    go_wp2
    go_ret
    exact ⟨rfl, Ext.refl _⟩
  have dh4 : decide ((zs.length : Int) < j) = false := by simpa using h4
  by_cases h5 : k < 0
  · go_enter Try.func4, Try.ntmps4
    go_wp2
    go_ret
    exact ⟨rfl, Ext.refl _⟩
  have dh5 : decide (k < 0) = false := by simpa using h5
  by_cases h6 : (zs.length : Int) < k
  · go_enter Try.func4, Try.ntmps4
    go_wp2
    go_ret
    exact ⟨rfl, Ext.refl _⟩
  have dh6 : decide ((zs.length : Int) < k) = false := by simpa using h6
  obtain ⟨i, rfl⟩ := Int.eq_ofNat_of_zero_le (show 0 ≤ i by omega)
  obtain ⟨j, rfl⟩ := Int.eq_ofNat_of_zero_le (show 0 ≤ j by omega)
  obtain ⟨k, rfl⟩ := Int.eq_ofNat_of_zero_le (show 0 ≤ k by omega)
  have gi : i ≤ zs.length := by omega
  have gj : j ≤ zs.length := by omega
  have gk : k ≤ zs.length := by omega
  have h500 : zs.length ≤ 500 := by omega
  have hlen : zs.length ≤ 1000000 := by omega
  have hl2 : (zs.length : Int) ≤ 200 := by omega
  clear h0 h1 h2 h3 h4 h5 h6
  have HZ := hide' (endL_zero gi gj)
  have HT := hide' (endL_trans gi gj gk)
  have H3 := hide' (endL_three zs i j)
  have C1 : Hid (∀ W, Sl .u8 W (.slice a zs.length cap) zs → Calls Try.prog 13 #[.slice a zs.length cap, .int .i64 (i : Int), .int .i64 (j : Int)] W fun e w' => e = .returned (.int .i64 (endL zs i j)) ∧ Ext W w') := fun W h => toExt (endings_any _ zs i j W h HB.out)
  have C2 : Hid (∀ W, Sl .u8 W (.slice a zs.length cap) zs → Calls Try.prog 13 #[.slice a zs.length cap, .int .i64 (j : Int), .int .i64 (k : Int)] W fun e w' => e = .returned (.int .i64 (endL zs j k)) ∧ Ext W w') := fun W h => toExt (endings_any _ zs j k W h HB.out)
  have C3 : Hid (∀ W, Sl .u8 W (.slice a zs.length cap) zs → Calls Try.prog 13 #[.slice a zs.length cap, .int .i64 (i : Int), .int .i64 (k : Int)] W fun e w' => e = .returned (.int .i64 (endL zs i k)) ∧ Ext W w') := fun W h => toExt (endings_any _ zs i k W h HB.out)
  have C4 : Hid (∀ W, Sl .u8 W (.slice a zs.length cap) zs → Calls Try.prog 13 #[.slice a zs.length cap, .int .i64 (j : Int), .int .i64 (i : Int)] W fun e w' => e = .returned (.int .i64 (- endL zs i j)) ∧ Ext W w') := fun W h => by
    have := toExt (endings_any _ zs j i W h HB.out)
    rwa [endL_swap gi gj] at this
  have C5 : Hid (∀ W, Sl .u8 W (.slice a zs.length cap) zs → Calls Try.prog 17 #[.slice a zs.length cap, .int .i64 (i : Int), .int .i64 (j : Int)] W fun e w' => e = .returned (.int .i64 (comL zs i j)) ∧ Ext W w') := fun W h => toExt (common_any _ zs i j W h h500)
  have C6 : Hid (∀ W, Sl .u8 W (.slice a zs.length cap) zs → Calls Try.prog 17 #[.slice a zs.length cap, .int .i64 (j : Int), .int .i64 (i : Int)] W fun e w' => e = .returned (.int .i64 (comL zs i j)) ∧ Ext W w') := fun W h => by
    have := toExt (common_any _ zs j i W h h500)
    rwa [comL_swap gi gj] at this
  have C7 : Hid (∀ W, Sl .u8 W (.slice a zs.length cap) zs → Calls Try.prog 17 #[.slice a zs.length cap, .int .i64 (i : Int), .int .i64 (i : Int)] W fun e w' => e = .returned (.int .i64 ((zs.length : Int) - i)) ∧ Ext W w') := fun W h => by
    have := toExt (common_any _ zs i i W h h500)
    rwa [comL_self gi] at this
  generalize endL zs i j = A at *
  generalize endL zs j k = B at *
  generalize endL zs i k = C at *
  generalize comL zs i j = D at *
  clear HB
  rcases H3.out with hA | hA | hA
  · subst hA
    have hij : ((i : Int) == (j : Int)) = false := by
      have : i ≠ j := fun h => by have := HZ.out.2 h; omega
      simp; omega
    by_cases hB : B ≤ 0
    · have hC : decide (0 < C) = false := by
        have := HT.out (by omega) hB
        simpa using this
      clear HT HZ H3
      have X0 := hide' (Ext.refl w)
      go_enter Try.func4, Try.ntmps4
      go_wp2_with fail
      refine (C1.out _ (HS.out.ext X0.out)).mono ?_
      rintro e w1 ⟨rfl, he⟩
      have X1 := hide' (X0.out.trans he)
      clear he
      go_wp2_with fail
      refine (C2.out _ (HS.out.ext X1.out)).mono ?_
      rintro e w2 ⟨rfl, he⟩
      have X2 := hide' (X1.out.trans he)
      clear he
      go_wp2_with fail
      refine (C3.out _ (HS.out.ext X2.out)).mono ?_
      rintro e w3 ⟨rfl, he⟩
      have X3 := hide' (X2.out.trans he)
      clear he
      go_wp2_with fail
      refine (C4.out _ (HS.out.ext X3.out)).mono ?_
      rintro e w4 ⟨rfl, he⟩
      have X4 := hide' (X3.out.trans he)
      clear he
      go_wp2_with fail
      refine (C5.out _ (HS.out.ext X4.out)).mono ?_
      rintro e w5 ⟨rfl, he⟩
      have X5 := hide' (X4.out.trans he)
      clear he
      go_wp2_with fail
      refine (C6.out _ (HS.out.ext X5.out)).mono ?_
      rintro e w6 ⟨rfl, he⟩
      have X6 := hide' (X5.out.trans he)
      clear he
      go_wp2_with fail
      refine (C7.out _ (HS.out.ext X6.out)).mono ?_
      rintro e w7 ⟨rfl, he⟩
      have X7 := hide' (X6.out.trans he)
      clear he
      go_wp2_with fail
      refine (known_any _).mono ?_
      rintro e w8 ⟨rfl, he⟩
      have X8 := hide' (X7.out.trans he)
      clear he
      go_wp2
      go_ret
      exact ⟨rfl, X8.out⟩
    · have hB' : decide (B ≤ 0) = false := by simpa using hB
      clear hB HT HZ H3
      have X0 := hide' (Ext.refl w)
      go_enter Try.func4, Try.ntmps4
      go_wp2_with fail
      refine (C1.out _ (HS.out.ext X0.out)).mono ?_
      rintro e w1 ⟨rfl, he⟩
      have X1 := hide' (X0.out.trans he)
      clear he
      go_wp2_with fail
      refine (C2.out _ (HS.out.ext X1.out)).mono ?_
      rintro e w2 ⟨rfl, he⟩
      have X2 := hide' (X1.out.trans he)
      clear he
      go_wp2_with fail
      refine (C3.out _ (HS.out.ext X2.out)).mono ?_
      rintro e w3 ⟨rfl, he⟩
      have X3 := hide' (X2.out.trans he)
      clear he
      go_wp2_with fail
      refine (C4.out _ (HS.out.ext X3.out)).mono ?_
      rintro e w4 ⟨rfl, he⟩
      have X4 := hide' (X3.out.trans he)
      clear he
      go_wp2_with fail
      refine (C5.out _ (HS.out.ext X4.out)).mono ?_
      rintro e w5 ⟨rfl, he⟩
      have X5 := hide' (X4.out.trans he)
      clear he
      go_wp2_with fail
      refine (C6.out _ (HS.out.ext X5.out)).mono ?_
      rintro e w6 ⟨rfl, he⟩
      have X6 := hide' (X5.out.trans he)
      clear he
      go_wp2_with fail
      refine (C7.out _ (HS.out.ext X6.out)).mono ?_
      rintro e w7 ⟨rfl, he⟩
      have X7 := hide' (X6.out.trans he)
      clear he
      go_wp2_with fail
      refine (known_any _).mono ?_
      rintro e w8 ⟨rfl, he⟩
      have X8 := hide' (X7.out.trans he)
      clear he
      go_wp2
      go_ret
      exact ⟨rfl, X8.out⟩
  · subst hA
    have hij : i = j := HZ.out.1 rfl
    subst hij
    by_cases hB : B ≤ 0
    · have hC : decide (0 < C) = false := by
        have := HT.out (by omega) hB
        simpa using this
      clear HT HZ H3
      have X0 := hide' (Ext.refl w)
      go_enter Try.func4, Try.ntmps4
      go_wp2_with fail
      refine (C1.out _ (HS.out.ext X0.out)).mono ?_
      rintro e w1 ⟨rfl, he⟩
      have X1 := hide' (X0.out.trans he)
      clear he
      go_wp2_with fail
      refine (C2.out _ (HS.out.ext X1.out)).mono ?_
      rintro e w2 ⟨rfl, he⟩
      have X2 := hide' (X1.out.trans he)
      clear he
      go_wp2_with fail
      refine (C3.out _ (HS.out.ext X2.out)).mono ?_
      rintro e w3 ⟨rfl, he⟩
      have X3 := hide' (X2.out.trans he)
      clear he
      go_wp2_with fail
      refine (C4.out _ (HS.out.ext X3.out)).mono ?_
      rintro e w4 ⟨rfl, he⟩
      have X4 := hide' (X3.out.trans he)
      clear he
      go_wp2_with fail
      refine (C5.out _ (HS.out.ext X4.out)).mono ?_
      rintro e w5 ⟨rfl, he⟩
      have X5 := hide' (X4.out.trans he)
      clear he
      go_wp2_with fail
      refine (C6.out _ (HS.out.ext X5.out)).mono ?_
      rintro e w6 ⟨rfl, he⟩
      have X6 := hide' (X5.out.trans he)
      clear he
      go_wp2_with fail
      refine (C7.out _ (HS.out.ext X6.out)).mono ?_
      rintro e w7 ⟨rfl, he⟩
      have X7 := hide' (X6.out.trans he)
      clear he
      go_wp2_with fail
      refine (known_any _).mono ?_
      rintro e w8 ⟨rfl, he⟩
      have X8 := hide' (X7.out.trans he)
      clear he
      go_wp2
      go_ret
      exact ⟨rfl, X8.out⟩
    · have hB' : decide (B ≤ 0) = false := by simpa using hB
      clear hB HT HZ H3
      have X0 := hide' (Ext.refl w)
      go_enter Try.func4, Try.ntmps4
      go_wp2_with fail
      refine (C1.out _ (HS.out.ext X0.out)).mono ?_
      rintro e w1 ⟨rfl, he⟩
      have X1 := hide' (X0.out.trans he)
      clear he
      go_wp2_with fail
      refine (C2.out _ (HS.out.ext X1.out)).mono ?_
      rintro e w2 ⟨rfl, he⟩
      have X2 := hide' (X1.out.trans he)
      clear he
      go_wp2_with fail
      refine (C3.out _ (HS.out.ext X2.out)).mono ?_
      rintro e w3 ⟨rfl, he⟩
      have X3 := hide' (X2.out.trans he)
      clear he
      go_wp2_with fail
      refine (C4.out _ (HS.out.ext X3.out)).mono ?_
      rintro e w4 ⟨rfl, he⟩
      have X4 := hide' (X3.out.trans he)
      clear he
      go_wp2_with fail
      refine (C5.out _ (HS.out.ext X4.out)).mono ?_
      rintro e w5 ⟨rfl, he⟩
      have X5 := hide' (X4.out.trans he)
      clear he
      go_wp2_with fail
      refine (C6.out _ (HS.out.ext X5.out)).mono ?_
      rintro e w6 ⟨rfl, he⟩
      have X6 := hide' (X5.out.trans he)
      clear he
      go_wp2_with fail
      refine (C7.out _ (HS.out.ext X6.out)).mono ?_
      rintro e w7 ⟨rfl, he⟩
      have X7 := hide' (X6.out.trans he)
      clear he
      go_wp2_with fail
      refine (known_any _).mono ?_
      rintro e w8 ⟨rfl, he⟩
      have X8 := hide' (X7.out.trans he)
      clear he
      go_wp2
      go_ret
      exact ⟨rfl, X8.out⟩
  · subst hA
    have hij : ((i : Int) == (j : Int)) = false := by
      have : i ≠ j := fun h => by have := HZ.out.2 h; omega
      simp; omega
    clear HT HZ H3
    have X0 := hide' (Ext.refl w)
    go_enter Try.func4, Try.ntmps4
    go_wp2_with fail
    refine (C1.out _ (HS.out.ext X0.out)).mono ?_
    rintro e w1 ⟨rfl, he⟩
    have X1 := hide' (X0.out.trans he)
    clear he
    go_wp2_with fail
    refine (C2.out _ (HS.out.ext X1.out)).mono ?_
    rintro e w2 ⟨rfl, he⟩
    have X2 := hide' (X1.out.trans he)
    clear he
    go_wp2_with fail
    refine (C3.out _ (HS.out.ext X2.out)).mono ?_
    rintro e w3 ⟨rfl, he⟩
    have X3 := hide' (X2.out.trans he)
    clear he
    go_wp2_with fail
    refine (C4.out _ (HS.out.ext X3.out)).mono ?_
    rintro e w4 ⟨rfl, he⟩
    have X4 := hide' (X3.out.trans he)
    clear he
    go_wp2_with fail
    refine (C5.out _ (HS.out.ext X4.out)).mono ?_
    rintro e w5 ⟨rfl, he⟩
    have X5 := hide' (X4.out.trans he)
    clear he
    go_wp2_with fail
    refine (C6.out _ (HS.out.ext X5.out)).mono ?_
    rintro e w6 ⟨rfl, he⟩
    have X6 := hide' (X5.out.trans he)
    clear he
    go_wp2_with fail
    refine (C7.out _ (HS.out.ext X6.out)).mono ?_
    rintro e w7 ⟨rfl, he⟩
    have X7 := hide' (X6.out.trans he)
    clear he
    go_wp2_with fail
    refine (known_any _).mono ?_
    rintro e w8 ⟨rfl, he⟩
    have X8 := hide' (X7.out.trans he)
    clear he
    go_wp2
    go_ret
    exact ⟨rfl, X8.out⟩
end Go.Proofs.Ytikohabbffjpkaa
