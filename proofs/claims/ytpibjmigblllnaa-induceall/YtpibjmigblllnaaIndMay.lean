/- whorllaw12's test of numbers that may be. -/
import Derived.Test.YtpibjmigblllnaaBktMath
import Derived.Test.YtpibjmigblllnaaNatRow
namespace Go.Proofs.Ytpibjmigblllnaa
set_option linter.unusedVariables false
set_option linter.unusedSimpArgs false
open Go.RowKit

def mayB (s : List Int) (k : Int) : Bool := decide (s.length ≤ 120) && (decide (0 ≤ k) && decide (k ≤ 2000)) && goodI k s
theorem mayB_iff {s : List Int} {k : Int} : mayB s k = true ↔ s.length ≤ 120 ∧ (0 ≤ k ∧ k ≤ 2000) ∧ goodI k s = true := by simp [mayB, and_assoc]
theorem mayB_fit {s : List Int} {k : Int} (h : mayB s k = true) : fitB s k = true := by
  obtain ⟨_, h1, h2⟩ := mayB_iff.1 h
  exact fitB_iff.2 ⟨h1.1, by omega, h2⟩

set_option maxHeartbeats 400000 in
theorem may_any (v : Value) (s : List Int) (k : Int) (w : World) (hv : Sl .i64 w v s) :
    Calls Try.prog 11 #[v, .int .i64 k] w fun e w' => e = .returned (.bool (mayB s k)) ∧ w' = w := by
  have HV := hide' hv
  obtain ⟨a, c, rfl, _⟩ := hv
  obtain ⟨_, _, _, hcv⟩ := HV.out.int
  have CV := hide' hcv
  obtain ⟨n, HN⟩ : ∃ n, Hid (s.length = n) := ⟨_, rfl⟩
  have HNO : Hid (¬ (n ≤ 120 ∧ (0 ≤ k ∧ k ≤ 2000) ∧ goodI k s = true) → mayB s k = false) := fun h => by
    rw [Bool.eq_false_iff]
    intro e
    rw [mayB_iff, HN.out] at e
    exact h e
  have HYES : Hid (n ≤ 120 → 0 ≤ k → k ≤ 2000 → goodI k s = true → mayB s k = true) := fun h1 h2 h3 h4 => mayB_iff.2 ⟨by rw [HN.out]; exact h1, ⟨h2, h3⟩, h4⟩
  rw [HN.out] at CV ⊢
  clear hcv HV
  by_cases h1 : (120 : Int) < (n : Int)
  · have HB : Hid (mayB s k = false) := HNO.out (by omega)
    rw [HB.out]
    go_enter Try.func11, Try.ntmps11
    go_wp2
    go_ret
    exact ⟨rfl, rfl⟩
  have d1 : decide ((120 : Int) < (n : Int)) = false := by simpa using h1
  have d1' : decide (120 < n) = false := by simp; omega
  by_cases h2 : k < 0
  · have HB : Hid (mayB s k = false) := HNO.out (by omega)
    rw [HB.out]
    clear h1
    go_enter Try.func11, Try.ntmps11
    go_wp2
    go_ret
    exact ⟨rfl, rfl⟩
  have d2 : decide (k < 0) = false := by simpa using h2
  by_cases h3 : 2000 < k
  · have HB : Hid (mayB s k = false) := HNO.out (by omega)
    rw [HB.out]
    clear h1 h2
    go_enter Try.func11, Try.ntmps11
    go_wp2
    go_ret
    exact ⟨rfl, rfl⟩
  have d3 : decide (2000 < k) = false := by simpa using h3
  have HY : Hid (goodI k s = true → mayB s k = true) := HYES.out (by omega) (by omega) (by omega)
  have HX : Hid (goodI k s = false → mayB s k = false) := fun h => HNO.out (fun e => by rw [h] at e; cases e.2.2)
  have hn120 : n ≤ 120 := by omega
  clear h1 h2 h3 HNO HYES
  go_enter Try.func11, Try.ntmps11
  go_wp2
  go_loopw [5] (fun vi wr => ∃ (i : Nat), i ≤ n ∧ vi = .int .i64 i ∧ Hid (∀ j, j < i → 0 ≤ s.getD j 0 ∧ s.getD j 0 < k) ∧ Hid (wr = w)) (fun vi _ => n - (intOf vi).toNat)
  case atStart => exact ⟨0, Nat.zero_le _, rfl, (fun j hj => by omega), rfl⟩
  case round =>
    obtain ⟨i, hi, rfl, HG, HW⟩ := hrel
    have hw := HW.out
    subst hw
    by_cases hlt : i < n
    · have hlt' : (i : Int) < n := by omega
      obtain ⟨g1, o1, rfl, k1⟩ := CV.out (by omega)
      have c1 := k1 i hlt
      clear k1
      obtain ⟨z, HZ⟩ : ∃ z, Hid (s.getD i 0 = z) := ⟨_, rfl⟩
      rw [HZ.out] at c1
      by_cases hz : z < 0
      · have HB := hide' (HX.out (goodI_bad (j := i) (by rw [HN.out]; exact hlt) (by rw [HZ.out]; exact .inl hz)))
        go_wp2
        go_ret
        exact ⟨by rw [HB.out]; rfl, rfl⟩
      · have e0 : decide (z < 0) = false := by simp; omega
        by_cases hzk : k ≤ z
        · have HB := hide' (HX.out (goodI_bad (j := i) (by rw [HN.out]; exact hlt) (by rw [HZ.out]; exact .inr hzk)))
          go_wp2
          go_ret
          exact ⟨by rw [HB.out]; rfl, rfl⟩
        · have e1 : decide (k ≤ z) = false := by simp; omega
          go_wp2
          go_roundw
          case rel =>
            refine ⟨i + 1, by omega, by go_num, fun j hj => ?_, by first | exact trivial | rfl⟩
            by_cases e : j = i
            · subst e; rw [HZ.out]; omega
            · exact HG.out j (by omega)
          case measure => simp [intOf] <;> omega
    · have hlt' : decide ((i : Int) < n) = false := by simp; omega
      have hin : n = i := by omega
      have HB : Hid (mayB s k = true) := HY.out (goodI_of fun j hj => HG.out j (by rw [HN.out] at hj; omega))
      go_wp2
      go_ret
      exact ⟨by rw [HB.out]; rfl, rfl⟩
end Go.Proofs.Ytpibjmigblllnaa
