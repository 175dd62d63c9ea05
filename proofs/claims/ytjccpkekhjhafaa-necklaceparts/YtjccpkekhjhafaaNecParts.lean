/- The walk of the law NecklaceParts. -/
import Derived.Test.YtjccpkekhjhafaaNecKnown
import Derived.Test.YtjccpkekhjhafaaNecLong
import Derived.Test.YtjccpkekhjhafaaNecSameOp
namespace Go.Proofs.Ytjccpkekhjhafaa
set_option linter.unusedVariables false
set_option linter.unusedSimpArgs false
open Go.RowKit

theorem Words8.app {a b : List (List Int)} (h : Words8 a) (k : Words8 b) (hl : a.length + b.length ≤ 100000) : Words8 (a ++ b) := by
  refine ⟨by rw [List.length_append]; exact hl, fun i => ?_⟩
  by_cases hi : i < a.length
  · rw [getD_app_left hi]; exact h.2 i
  · rw [getD_app_right (by omega)]; exact k.2 _

set_option maxHeartbeats 2000000 in
theorem lawParts (u v : Value) (us vs : List Value) (x y : List (List Int)) (w : World) (hu : SlV w u us) (hru : Read8 w us x) (hv : SlV w v vs) (hrv : Read8 w vs y) (bx : ∀ zs ∈ x, ∀ z ∈ zs, 0 ≤ z ∧ z ≤ 255) (lx : ∀ zs ∈ x, zs.length ≤ 140737488351232) (by' : ∀ zs ∈ y, ∀ z ∈ zs, 0 ≤ z ∧ z ≤ 255) (ly : ∀ zs ∈ y, zs.length ≤ 140737488351232) :
    Calls Try.prog 6 #[u, v] w fun e w' => e = .returned (.bool true) ∧ Below w.heap.size w w' := by
  have HU := hide' hu
  have HV := hide' hv
  have RU := hide' hru
  have RV := hide' hrv
  have CL := hide' (long_any u x w (hu.sls hru) lx)
  have CM := hide' (long_any v y w (hv.sls hrv) ly)
  have HLX := hide' (fun h => longB_words (zss := x) h bx)
  have HLY := hide' (fun h => longB_words (zss := y) h by')
  clear hu hv hru hrv bx lx by' ly
  obtain ⟨D, HD⟩ : ∃ D, Hid (longB x = D) := ⟨_, rfl⟩
  obtain ⟨D', HD'⟩ : ∃ D, Hid (longB y = D) := ⟨_, rfl⟩
  rw [HD.out] at CL HLX
  rw [HD'.out] at CM HLY
  cases D with
  | true =>
    go_enter Try.func6, Try.ntmps6
    go_wp2_with fail
    refine CL.out.mono ?_
    rintro e w1 ⟨rfl, rfl⟩
    go_wp2
    go_ret
    exact ⟨rfl, Below.refl _ _⟩
  | false =>
    cases D' with
    | true =>
      go_enter Try.func6, Try.ntmps6
      go_wp2_with fail
      refine CL.out.mono ?_
      rintro e w1 ⟨rfl, rfl⟩
      go_wp2_with fail
      refine CM.out.mono ?_
      rintro e w1 ⟨rfl, rfl⟩
      go_wp2
      go_ret
      exact ⟨rfl, Below.refl _ _⟩
    | false =>
      have HX := hide' (HLX.out rfl)
      have HY := hide' (HLY.out rfl)
      have LU : Hid (us.length ≤ 30) := by show _ ≤ _; rw [RU.out.1]; exact HX.out.2
      have LV : Hid (vs.length ≤ 30) := by show _ ≤ _; rw [RV.out.1]; exact HY.out.2
      have LLU : Hid (([] : List Value).length + us.length ≤ 1000000) := by have := LU.out; show _ ≤ _; simp; omega
      have LLV : Hid (us.length + vs.length ≤ 1000000) := by have := LU.out; have := LV.out; show _ ≤ _; omega
      have WXY : Hid (Words8 (x ++ y)) := HX.out.1.app HY.out.1 (by have := HX.out.2; have := HY.out.2; omega)
      have CX := hide' (fun W h => canon_any u x W h HX.out.1)
      have CY := hide' (fun W h => canon_any v y W h HY.out.1)
      have WX := hide' (canonL_words' HX.out.1)
      have WY := hide' (canonL_words' HY.out.1)
      have LCX : Hid ((canonL x).length ≤ 30) := by
        have h1 := baseL_len_take x x.length
        rw [List.take_of_length_le (Nat.le_refl _), ← canonL_len] at h1
        have := HX.out.2
        show _ ≤ _
        omega
      have LCY : Hid ((canonL y).length ≤ 30) := by
        have h1 := baseL_len_take y y.length
        rw [List.take_of_length_le (Nat.le_refl _), ← canonL_len] at h1
        have := HY.out.2
        show _ ≤ _
        omega
      have WP : Hid (Words8 (canonL x ++ canonL y)) := WX.out.app WY.out (by have := LCX.out; have := LCY.out; omega)
      have CA := hide' (fun s W h => canon_any s (x ++ y) W h WXY.out)
      have CP := hide' (fun s W h => canon_any s (canonL x ++ canonL y) W h WP.out)
      have WC := hide' (canonL_words' WXY.out)
      have EQ := hide' (canonL_parts x y)
      rw [← EQ.out] at CP
      have CS : Hid (∀ s t W, Sls W s (x ++ y) → Sls W t (canonL x ++ canonL y) → Calls Try.prog 16 #[s, t] W fun e w' => e = .returned (.bool true) ∧ Ext W w') := fun s t W h1 h2 => by
        have := same_any s t (x ++ y) (canonL x ++ canonL y) W h1 h2 WXY.out WP.out
        rw [decide_eq_true EQ.out] at this
        exact this
      generalize canonL (x ++ y) = l at *
      generalize canonL x = X at *
      generalize canonL y = Y at *
      go_enter Try.func6, Try.ntmps6
      go_wp2_with fail
      refine CL.out.mono ?_
      rintro e w1 ⟨rfl, rfl⟩
      go_wp2_with fail
      refine CM.out.mono ?_
      rintro e w1 ⟨rfl, rfl⟩
      have O0 := hide' (OwnV.lit w1.heap.size w1 (Nat.le_refl _) _ rfl)
      have E0 := hide' (ext_alloc w1 (.cells #[] 31))
      go_wp2_with (at_builtin; refine wpList_joinV _ rfl _ _ rfl w1.heap.size _ _ [] us rfl rfl (HU.out.ext E0.out) RU.out.one O0.out LLU.out E0.out.size ?_)
      intro v1 w2 ho1 hg1
      have O1 : Hid (OwnV w1.heap.size w2 v1 us) := by show OwnV _ _ _ _; simpa using ho1
      have E1 : Hid (Ext w1 w2) := Below.trans E0.out (owns_grown O0.out E0.out.size hg1)
      clear ho1 hg1
      go_wp2_with (at_builtin; refine wpList_joinV _ rfl _ _ rfl w1.heap.size _ _ us vs rfl rfl (HV.out.ext E1.out) RV.out.one O1.out LLV.out E1.out.size ?_)
      intro v2 w3 ho2 hg2
      have E2 : Hid (Ext w1 w3) := Below.trans E1.out (owns_grown O1.out E1.out.size hg2)
      have SA : Hid (Sls w3 v2 (x ++ y)) := ho2.sl.sls ((RU.out.ext E2.out).app (RV.out.ext E2.out))
      clear ho2 hg2 O0 O1 E0 E1
      have L0 := hide' (OwnV.lit w3.heap.size w3 (Nat.le_refl _) _ rfl)
      have E3 := hide' (ext_alloc w3 (.cells #[] 31))
      go_wp2_with fail
      refine (CX.out _ ((HU.out.sls RU.out).ext (E2.out.trans E3.out))).mono ?_
      rintro e w5 ⟨s1, vs1, rfl, h1, h2, he⟩
      have K1 := hide' h1.sl
      have R1 := hide' (h2.low (E3.out.size))
      have L1 := hide' (L0.out.ext he)
      have E5 := hide' (E3.out.trans he)
      have LL1 : Hid (([] : List Value).length + vs1.length ≤ 1000000) := by have := LCX.out; have := h2.1; show _ ≤ _; simp; omega
      have LE1 : Hid (vs1.length ≤ 30) := by have := LCX.out; have := h2.1; show _ ≤ _; omega
      clear h1 h2 he L0 E3
      go_wp2_with (at_builtin; refine wpList_joinV _ rfl _ _ rfl w3.heap.size _ _ [] vs1 rfl rfl K1.out R1.out.read.one L1.out LL1.out E5.out.size ?_)
      intro v3 w6 ho3 hg3
      have P1 : Hid (OwnV w3.heap.size w6 v3 vs1) := by show OwnV _ _ _ _; simpa using ho3
      have R2 := hide' (R1.out.other L1.out hg3)
      have E6 : Hid (Ext w3 w6) := Below.trans E5.out (owns_grown L1.out E5.out.size hg3)
      clear ho3 hg3 L1 R1 E5 K1
      go_wp2_with fail
      refine (CY.out _ ((HV.out.sls RV.out).ext (E2.out.trans E6.out))).mono ?_
      rintro e w7 ⟨s2, vs2, rfl, h1, h2, he⟩
      have K2 := hide' h1.sl
      have R3 := hide' (h2.low (E6.out.size))
      have P2 := hide' (P1.out.ext he)
      have R4 := hide' (R2.out.ext he)
      have E7 := hide' (E6.out.trans he)
      have LL2 : Hid (vs1.length + vs2.length ≤ 1000000) := by have := LCY.out; have := h2.1; have := LE1.out; show _ ≤ _; omega
      clear h1 h2 he P1 R2 E6
      go_wp2_with (at_builtin; refine wpList_joinV _ rfl _ _ rfl w3.heap.size _ _ vs1 vs2 rfl rfl K2.out R3.out.read.one P2.out LL2.out E7.out.size ?_)
      intro v4 w8 ho4 hg4
      have R5 := hide' (R3.out.other P2.out hg4)
      have R6 := hide' (R4.out.other P2.out hg4)
      have E8 : Hid (Ext w3 w8) := Below.trans E7.out (owns_grown P2.out E7.out.size hg4)
      have SP : Hid (Sls w8 v4 (X ++ Y)) := by
        have := ho4.sl
        exact this.sls (R6.out.read.app R5.out.read)
      clear ho4 hg4 P2 R3 R4 R5 R6 E7 K2
      go_wp2_with fail
      refine (CA.out _ _ (SA.out.ext E8.out)).mono ?_
      rintro e w9 ⟨s3, vs3, rfl, h1, h2, he⟩
      have S3 := hide' (h1.sl.sls h2.read)
      have E9 := hide' he
      clear h1 h2 he
      go_wp2_with fail
      refine (CP.out _ _ (SP.out.ext E9.out)).mono ?_
      rintro e w10 ⟨s4, vs4, rfl, h1, h2, he⟩
      have S4 := hide' (h1.sl.sls h2.read)
      have S3' := hide' (S3.out.ext he)
      have E10 := hide' (E9.out.trans he)
      clear h1 h2 he S3 E9
      go_wp2_with fail
      refine (rrows_any _ _ l l _ S3'.out S4.out (fun k => (WC.out.2 k).1) (fun k => (WC.out.2 k).1) (Nat.le_trans WC.out.1 (by omega)) (Nat.le_trans WC.out.1 (by omega))).mono ?_
      rw [decide_eq_true rfl]
      rintro e w11 ⟨rfl, he⟩
      have E11 := hide' (E10.out.trans he)
      clear he E10
      go_wp2_with fail
      refine (CS.out _ _ _ (SA.out.ext (E8.out.trans E11.out)) (SP.out.ext E11.out)).mono ?_
      rintro e w12 ⟨rfl, he⟩
      have E12 := hide' (E11.out.trans he)
      clear he E11
      go_wp2_with fail
      refine (known_any _).mono ?_
      rintro e w13 ⟨rfl, he⟩
      have E13 := hide' ((E2.out.trans E8.out).trans (E12.out.trans he))
      clear he E12
      go_wp2
      go_ret
      exact ⟨rfl, E13.out⟩
end Go.Proofs.Ytjccpkekhjhafaa
