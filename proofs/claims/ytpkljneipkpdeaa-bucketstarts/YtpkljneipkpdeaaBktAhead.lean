/- BucketStarts: the walk. -/
import Derived.Test.YtpkljneipkpdeaaBktKnown
import Derived.Test.YtpkljneipkpdeaaBktRStarts
namespace Go.Proofs.Ytpkljneipkpdeaa
set_option linter.unusedVariables false
set_option linter.unusedSimpArgs false
open Go.RowKit

set_option maxHeartbeats 1000000 in
theorem lawStarts (v : Value) (cs : List Int) (w : World) (hv : Sl .i64 w v cs) :
    Calls Try.prog 4 #[v] w fun e w' => e = .returned (.bool true) ∧ Ext w w' := by
  have HV := hide' hv
  obtain ⟨a, c, rfl, _⟩ := hv
  obtain ⟨_, _, _, hcv⟩ := HV.out.int
  have CV := hide' hcv
  obtain ⟨n, HN⟩ : ∃ n, Hid (cs.length = n) := ⟨_, rfl⟩
  rw [HN.out] at CV HV ⊢
  clear hcv
  by_cases h1 : (200 : Int) < (n : Int)
  · go_enter Try.func4, Try.ntmps4
    go_wp2
    go_ret
    exact ⟨rfl, Ext.refl _⟩
  have d1 : decide ((200 : Int) < (n : Int)) = false := by simpa using h1
  have d1' : decide (200 < n) = false := by simp; omega
  have hn : n ≤ 200 := by omega
  clear h1
  go_enter Try.func4, Try.ntmps4
  go_wp2
  go_loopw [3] (fun vi wr => ∃ (i : Nat), i ≤ n ∧ vi = .int .i64 i ∧ Hid (∀ j, j < i → -1099511627776 ≤ cs.getD j 0 ∧ cs.getD j 0 ≤ 1099511627776) ∧ wr = w) (fun vi _ => n - (intOf vi).toNat)
  case atStart => exact ⟨0, Nat.zero_le _, rfl, (fun j hj => by omega), rfl⟩
  case round =>
    obtain ⟨i, hi, rfl, HG, rfl⟩ := hrel
    by_cases hlt : i < n
    · have hlt' : (i : Int) < n := by omega
      obtain ⟨g1, o1, rfl, k1⟩ := CV.out (by omega)
      have c1 := k1 i hlt
      clear k1
      obtain ⟨z, HZ⟩ : ∃ z, Hid (cs.getD i 0 = z) := ⟨_, rfl⟩
      rw [HZ.out] at c1
      by_cases h2 : z < -1099511627776
      · go_wp2
        go_ret
        exact ⟨rfl, Ext.refl _⟩
      have d2 : decide (z < -1099511627776) = false := by simp; omega
      by_cases h3 : 1099511627776 < z
      · go_wp2
        go_ret
        exact ⟨rfl, Ext.refl _⟩
      have d3 : decide (1099511627776 < z) = false := by simp; omega
      go_wp2
      go_roundw
      case rel =>
        refine ⟨i + 1, by omega, by go_num, (fun j hj => ?_), by first | trivial | rfl⟩
        by_cases e : j = i
        · subst e; rw [HZ.out]; omega
        · exact HG.out j (by omega)
      case measure => simp [intOf]; omega
    · have hlt' : decide ((i : Int) < n) = false := by simp; omega
      have hin : i = n := by omega
      subst hin
      have HBD : Hid (∀ j, j ≤ cs.length → -4611686018427387904 ≤ sumI cs j ∧ sumI cs j ≤ 4611686018427387904) := fun j hj => by
        have h4 := sumI_le (cs := cs) (b := 1099511627776) (fun q hq => HG.out q (by rw [HN.out] at hq; exact hq)) j hj
        rw [HN.out] at hj
        omega
      have HSL : Hid ((startsI cs).length ≤ 1000000) := by show _ ≤ _; rw [startsI_len, HN.out]; omega
      have HCL : Hid (cs.length ≤ 1000000) := by show _ ≤ _; rw [HN.out]; omega
      have HCL4 : Hid (cs.length ≤ 4000000) := by show _ ≤ _; rw [HN.out]; omega
      obtain ⟨A, HA⟩ : ∃ A, Hid (startsI cs = A) := ⟨_, rfl⟩
      rw [HA.out] at HSL
      go_wp2_with fail
      refine (starts_any _ cs _ HV.out HCL4.out HBD.out).mono ?_
      rw [HA.out]
      rintro e w1 ⟨s1, rfl, ho, he⟩
      have O1 := hide' ho.sl
      have X1 := hide' he
      clear ho he
      go_wp2_with fail
      refine (rstarts_any _ cs _ (HV.out.ext X1.out) HCL.out HBD.out).mono ?_
      rw [HA.out]
      rintro e w2 ⟨s2, rfl, ho, he⟩
      have O2 := hide' ho.sl
      have O12 := hide' (O1.out.ext he)
      have X2 := hide' (X1.out.trans he)
      clear ho he O1 X1
      go_wp2_with fail
      refine (ints_same _ _ A w2 O12.out O2.out HSL.out).mono ?_
      rintro e w5 ⟨rfl, he⟩
      have X5 := hide' (X2.out.trans he)
      clear he X2
      go_wp2_with fail
      refine (known_any w5).mono ?_
      rintro e w7 ⟨rfl, he⟩
      have X7 := hide' (X5.out.trans he)
      clear he X5
      go_wp2
      go_ret
      exact ⟨rfl, X7.out⟩
end Go.Proofs.Ytpkljneipkpdeaa
