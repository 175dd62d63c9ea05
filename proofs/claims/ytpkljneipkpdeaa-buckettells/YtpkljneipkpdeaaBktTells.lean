/- BucketTells: the walk. -/
import Derived.Test.YtpkljneipkpdeaaBktKnown
import Derived.Test.YtpkljneipkpdeaaBktRPass
namespace Go.Proofs.Ytpkljneipkpdeaa
set_option linter.unusedVariables false
set_option linter.unusedSimpArgs false
open Go.RowKit

theorem countsI_len {zs : List Int} {k : Int} : (countsI zs k).length ≤ 1048576 := by
  unfold countsI
  split
  · rename_i h
    have := fitB_iff.1 h
    rw [natL_len, cntsI_len]
    omega
  · simp
theorem countsI_len2 {zs : List Int} {k : Int} (h : k ≤ 5000 ∨ 1048576 < k) : (countsI zs k).length ≤ 1000000 := by
  unfold countsI
  split
  · rename_i h
    have := fitB_iff.1 h
    rw [natL_len, cntsI_len]
    omega
  · simp
theorem passI_len {os ks : List Int} {k : Int} : (passI os ks k).length ≤ os.length := by
  unfold passI
  split
  · rename_i h
    have := csort_len (passB_key h)
    unfold offs at this
    rw [natL_len, this, toN_len]
    omega
  · simp

set_option maxHeartbeats 1000000 in
theorem lawTells (v u : Value) (os ks : List Int) (k : Int) (w : World) (hv : Sl .i64 w v os) (hu : Sl .i64 w u ks) :
    Calls Try.prog 3 #[v, u, .int .i64 k] w fun e w' => e = .returned (.bool true) ∧ Ext w w' := by
  have HV := hide' hv
  have HU := hide' hu
  obtain ⟨a, c, rfl, _⟩ := hv
  obtain ⟨a', c', rfl, _⟩ := hu
  by_cases h1 : (200 : Int) < (os.length : Int)
  · go_enter Try.func3, Try.ntmps3
    go_wp2
    go_ret
    exact ⟨rfl, Ext.refl _⟩
  have d1 : decide ((200 : Int) < (os.length : Int)) = false := by simpa using h1
  have hl1 : os.length ≤ 100000 := by omega
  clear h1
  by_cases h2 : (200 : Int) < (ks.length : Int)
  · go_enter Try.func3, Try.ntmps3
    go_wp2
    go_ret
    exact ⟨rfl, Ext.refl _⟩
  have d2 : decide ((200 : Int) < (ks.length : Int)) = false := by simpa using h2
  have hl2 : ks.length ≤ 1000000 := by omega
  clear h2
  by_cases h34 : 5000 < k ∧ k ≤ 1048576
  · obtain ⟨h3, h4⟩ := h34
    go_enter Try.func3, Try.ntmps3
    go_wp2
    go_ret
    exact ⟨rfl, Ext.refl _⟩
  have h5 : decide (5000 < k) = false ∨ (5000 < k ∧ decide (k ≤ 1048576) = false) := by
    by_cases h3 : 5000 < k
    · exact .inr ⟨h3, by simp; omega⟩
    · exact .inl (by simp; omega)
  have HC1 : Hid ((countsI ks k).length ≤ 1000000) := countsI_len2 (by omega)
  have HC2 : Hid ((passI os ks k).length ≤ 1000000) := by have := passI_len (os := os) (ks := ks) (k := k); show _ ≤ _; omega
  have HL1 := hide' hl1
  have HL2 := hide' hl2
  have HL3 : Hid (os.length ≤ 1000000) := by show _ ≤ _; omega
  obtain ⟨C, HC⟩ : ∃ C, Hid (countsI ks k = C) := ⟨_, rfl⟩
  obtain ⟨D, HD⟩ : ∃ D, Hid (passI os ks k = D) := ⟨_, rfl⟩
  obtain ⟨b1, HB1⟩ : ∃ b, Hid (fitB ks k = b) := ⟨_, rfl⟩
  obtain ⟨b2, HB2⟩ : ∃ b, Hid (passB os ks k = b) := ⟨_, rfl⟩
  rw [HC.out] at HC1
  rw [HD.out] at HC2
  clear h34
  rcases h5 with h5 | ⟨h5, h6⟩
  all_goals
    go_enter Try.func3, Try.ntmps3
    go_wp2_with fail
    refine (counts_any _ ks k w HU.out HL2.out).mono ?_
    rw [HC.out, HB1.out]
    rintro e w1 ⟨s1, rfl, ho, he⟩
    have O1 := hide' ho.sl
    have X1 := hide' he
    clear ho he
    go_wp2_with fail
    refine (rcounts_any _ ks k w1 (HU.out.ext X1.out) HL2.out).mono ?_
    rw [HC.out, HB1.out]
    rintro e w2 ⟨s2, rfl, ho, he⟩
    have O2 := hide' ho.sl
    have O12 := hide' (O1.out.ext he)
    have X2 := hide' (X1.out.trans he)
    clear ho he O1 X1
    go_wp2_with fail
    refine (pass_any _ _ os ks k w2 (HV.out.ext X2.out) (HU.out.ext X2.out) HL3.out HL2.out).mono ?_
    rw [HD.out, HB2.out]
    rintro e w3 ⟨s3, rfl, ho, he⟩
    have O3 := hide' ho.sl
    have O13 := hide' (O12.out.ext he)
    have O23 := hide' (O2.out.ext he)
    have X3 := hide' (X2.out.trans he)
    clear ho he O12 O2 X2
    go_wp2_with fail
    refine (rpass_any _ _ os ks k w3 (HV.out.ext X3.out) (HU.out.ext X3.out) HL1.out HL2.out).mono ?_
    rw [HD.out, HB2.out]
    rintro e w4 ⟨s4, rfl, ho, he⟩
    have O4 := hide' ho.sl
    have O34 := hide' (O3.out.ext he)
    have O14 := hide' (O13.out.ext he)
    have O24 := hide' (O23.out.ext he)
    have X4 := hide' (X3.out.trans he)
    clear ho he O13 O23 O3 X3
    go_wp2_with fail
    refine (ints_same _ _ C w4 O14.out O24.out HC1.out).mono ?_
    rintro e w5 ⟨rfl, he⟩
    have O35 := hide' (O34.out.ext he)
    have O45 := hide' (O4.out.ext he)
    have X5 := hide' (X4.out.trans he)
    clear he O34 O4 X4
    go_wp2_with fail
    refine (ints_same _ _ D w5 O35.out O45.out HC2.out).mono ?_
    rintro e w6 ⟨rfl, he⟩
    have X6 := hide' (X5.out.trans he)
    clear he X5
    go_wp2_with fail
    refine (known_any w6).mono ?_
    rintro e w7 ⟨rfl, he⟩
    have X7 := hide' (X6.out.trans he)
    clear he X6
    go_wp2
    go_ret
    exact ⟨rfl, X7.out⟩
end Go.Proofs.Ytpkljneipkpdeaa
