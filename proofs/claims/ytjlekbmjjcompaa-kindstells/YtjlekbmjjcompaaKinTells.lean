/- KindsTells: the walk. -/
import Derived.Test.YtjlekbmjjcompaaKinKnown
import Derived.Test.YtjlekbmjjcompaaKinRFirst
namespace Go.Proofs.Ytjlekbmjjcompaa
set_option linter.unusedVariables false
set_option linter.unusedSimpArgs false
open Go.RowKit

set_option maxHeartbeats 1000000 in
theorem lawTells (v : Value) (zs : List Int) (w : World) (hv : Sl .i64 w v zs) :
    Calls Try.prog 3 #[v] w fun e w' => e = .returned (.bool true) ∧ Ext w w' := by
  have HV := hide' hv
  obtain ⟨a, c, rfl, _⟩ := hv
  by_cases h1 : (150 : Int) < (zs.length : Int)
  · go_enter Try.func3, Try.ntmps3
    go_wp2
    go_ret
    exact ⟨rfl, Ext.refl _⟩
  have d1 : decide ((150 : Int) < (zs.length : Int)) = false := by simpa using h1
  have HL1 : Hid (zs.length ≤ 1000000) := by show _ ≤ _; omega
  have HL4 : Hid (zs.length ≤ 4000000) := by show _ ≤ _; omega
  have HF : Hid ((natL (firstN zs)).length ≤ 1000000) := by show _ ≤ _; rw [natL_len]; exact Nat.le_trans (firN_len _ _) (by omega)
  obtain ⟨F, HFF⟩ : ∃ F, Hid (natL (firstN zs) = F) := ⟨_, rfl⟩
  rw [HFF.out] at HF
  obtain ⟨B, HBB⟩ : ∃ F, Hid (smallI zs = F) := ⟨_, rfl⟩
  obtain ⟨n, HN⟩ : ∃ n, Hid (B.length = n) := ⟨_, rfl⟩
  have hn : n ≤ 1000000 := by rw [← HN.out, ← HBB.out, smallI_len]; exact HL1.out
  clear h1
  go_enter Try.func3, Try.ntmps3
  go_wp2_with fail
  refine (small_any _ zs w HV.out HL4.out).mono ?_
  rw [HBB.out]
  rintro e w1 ⟨s1, rfl, ho, he⟩
  have O1 := hide' ho.sl
  have X1 := hide' he
  clear ho he
  go_wp2_with fail
  refine (rsmall_any _ zs w1 (HV.out.ext X1.out) HL1.out).mono ?_
  rw [HBB.out]
  rintro e w2 ⟨s2, rfl, ho, he⟩
  have O2 := hide' ho.sl
  have O12 := hide' (O1.out.ext he)
  have X2 := hide' (X1.out.trans he)
  clear ho he O1 X1
  obtain ⟨a1, c1, rfl, _⟩ := O12.out
  obtain ⟨a2, c2, rfl, _⟩ := O2.out
  rw [HN.out] at O12 O2 ⊢
  obtain ⟨_, _, _, hc1⟩ := O12.out.truth
  obtain ⟨_, _, _, hc2⟩ := O2.out.truth
  have C1 := hide' hc1
  have C2 := hide' hc2
  clear hc1 hc2
  go_wp2
  go_loopw [5] (fun vi wr => ∃ (i : Nat), i ≤ n ∧ vi = .int .i64 i ∧ ∃ m, wr = w2.drewN m) (fun vi _ => n - (intOf vi).toNat)
  case atStart => exact ⟨0, Nat.zero_le _, rfl, 0, rfl⟩
  case round =>
    obtain ⟨i, hi, rfl, m, rfl⟩ := hrel
    by_cases hlt : i < n
    · have hlt' : (i : Int) < n := by omega
      obtain ⟨g1, o1, rfl, k1⟩ := C1.out (by omega)
      obtain ⟨g2, o2, rfl, k2⟩ := C2.out (by omega)
      have q1 := k1 i hlt
      have q2 := k2 i hlt
      clear k1 k2
      obtain ⟨p, HP⟩ : ∃ p, Hid (B.getD i false = p) := ⟨_, rfl⟩
      rw [HP.out] at q1 q2
      cases p
      all_goals
        go_wp2_with fail
        go_quiet (fail)
        go_wp2
        go_roundw
        case rel => exact ⟨i + 1, by omega, by go_num, _, by first | rfl | exact World.drewN_drewN _ _ _⟩
        case measure => simp [intOf]; omega
    · have hlt' : decide ((i : Int) < n) = false := by simp; omega
      have X3 : Hid (Ext w (w2.drewN m)) := X2.out.trans (Ext.drewN _ _)
      generalize w2.drewN m = W at *
      go_wp2_with fail
      refine (first_any _ zs W (HV.out.ext X3.out) HL1.out).mono ?_
      rw [HFF.out]
      rintro e w4 ⟨s3, rfl, ho, he⟩
      have O3 := hide' ho.sl
      have X4 := hide' (X3.out.trans he)
      clear ho he
      go_wp2_with fail
      refine (rfirst_any _ zs w4 (HV.out.ext X4.out) HL1.out).mono ?_
      rw [HFF.out]
      rintro e w5 ⟨s4, rfl, ho, he⟩
      have O4 := hide' ho.sl
      have O34 := hide' (O3.out.ext he)
      have X5 := hide' (X4.out.trans he)
      clear ho he
      go_wp2_with fail
      refine (ints_same _ _ F w5 O34.out O4.out HF.out).mono ?_
      rintro e w6 ⟨rfl, he⟩
      have X6 := hide' (X5.out.trans he)
      clear he
      go_wp2_with fail
      refine (known_any w6).mono ?_
      rintro e w7 ⟨rfl, he⟩
      have X7 := hide' (X6.out.trans he)
      clear he
      go_wp2
      go_ret
      exact ⟨rfl, X7.out⟩
end Go.Proofs.Ytjlekbmjjcompaa
