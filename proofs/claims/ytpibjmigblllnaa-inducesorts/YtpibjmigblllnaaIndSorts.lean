/- InduceSorts: the walk. -/
import Derived.Test.YtpibjmigblllnaaIndKnown
import Derived.Test.YtpibjmigblllnaaIndRSort
namespace Go.Proofs.Ytpibjmigblllnaa
set_option linter.unusedVariables false
set_option linter.unusedSimpArgs false
open Go.RowKit

theorem sortI_len {s fs : List Int} {k : Int} : (sortI s k fs).length ≤ s.length := by
  unfold sortI
  split
  · rename_i h
    obtain ⟨h1, h2⟩ := sortB_iff.1 h
    obtain ⟨R, e1, e2, _⟩ := indI_all (Fits.of h1) (firB_nat h2).2
    rw [e1, natL_len, e2.length_eq, List.length_range]
    exact Nat.le_refl _
  · simp

set_option maxHeartbeats 1000000 in
theorem lawSorts (v u : Value) (s fs : List Int) (k : Int) (w : World) (hv : Sl .i64 w v s) (hu : Sl .i64 w u fs) :
    Calls Try.prog 3 #[v, .int .i64 k, u] w fun e w' => e = .returned (.bool true) ∧ Ext w w' := by
  have HV := hide' hv
  have HU := hide' hu
  obtain ⟨a, c, rfl, _⟩ := hv
  obtain ⟨a', c', rfl, _⟩ := hu
  by_cases h1 : (120 : Int) < (s.length : Int)
  · go_enter Try.func3, Try.ntmps3
    go_wp2
    go_ret
    exact ⟨rfl, Ext.refl _⟩
  have d1 : decide ((120 : Int) < (s.length : Int)) = false := by simpa using h1
  have hl1 : s.length ≤ 100000 := by omega
  clear h1
  by_cases h2 : (120 : Int) < (fs.length : Int)
  · go_enter Try.func3, Try.ntmps3
    go_wp2
    go_ret
    exact ⟨rfl, Ext.refl _⟩
  have d2 : decide ((120 : Int) < (fs.length : Int)) = false := by simpa using h2
  have hl2 : fs.length ≤ 100000 := by omega
  clear h2
  by_cases h34 : 5000 < k ∧ k ≤ 1048576
  · obtain ⟨h3, h4⟩ := h34
    go_enter Try.func3, Try.ntmps3
    go_wp2
    go_ret
    exact ⟨rfl, Ext.refl _⟩
  have h5 : decide (5000 < k) = false ∨ (5000 < k ∧ decide (k ≤ 1048576) = false) := by
    by_cases h3 : 5000 < k
    · exact .inr ⟨h3, by simp; omega⟩
    · exact .inl (by simp; omega)
  have HKK : Hid (k ≤ 1000000 ∨ 1048576 < k) := by show _ ∨ _; omega
  have HD2 : Hid ((sortI s k fs).length ≤ 1000000) := by have := sortI_len (s := s) (fs := fs) (k := k); show _ ≤ _; omega
  have HL1 := hide' hl1
  have HL2 := hide' hl2
  have HL3 : Hid (s.length ≤ 1000000) := by show _ ≤ _; omega
  obtain ⟨D, HD⟩ : ∃ D, Hid (sortI s k fs = D) := ⟨_, rfl⟩
  obtain ⟨b, HB⟩ : ∃ b, Hid (sortB s k fs = b) := ⟨_, rfl⟩
  rw [HD.out] at HD2
  clear h34
  rcases h5 with h5 | ⟨h5, h6⟩
  all_goals
    go_enter Try.func3, Try.ntmps3
    go_wp2_with fail
    refine (sort_any _ _ s fs k w HV.out HU.out HL3.out).mono ?_
    rw [HD.out, HB.out]
    rintro e w1 ⟨s1, rfl, ho, he⟩
    have O1 := hide' ho.sl
    have X1 := hide' he
    clear ho he
    go_wp2_with fail
    refine (rsort_any _ _ s fs k w1 (HV.out.ext X1.out) (HU.out.ext X1.out) HL1.out HL2.out HKK.out).mono ?_
    rw [HD.out, HB.out]
    rintro e w2 ⟨s2, rfl, ho, he⟩
    have O2 := hide' ho.sl
    have O12 := hide' (O1.out.ext he)
    have X2 := hide' (X1.out.trans he)
    clear ho he O1 X1
    go_wp2_with fail
    refine (ints_same _ _ D w2 O12.out O2.out HD2.out).mono ?_
    rintro e w5 ⟨rfl, he⟩
    have X5 := hide' (X2.out.trans he)
    clear he
    go_wp2_with fail
    refine (known_any w5).mono ?_
    rintro e w7 ⟨rfl, he⟩
    have X7 := hide' (X5.out.trans he)
    clear he X5
    go_wp2
    go_ret
    exact ⟨rfl, X7.out⟩
end Go.Proofs.Ytpibjmigblllnaa
