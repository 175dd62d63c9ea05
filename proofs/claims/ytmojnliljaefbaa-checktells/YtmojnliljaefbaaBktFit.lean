/- Contract of bucket.fit. -/
import Derived.Test.YtmojnliljaefbaaBktMath
import Derived.Test.YtmojnliljaefbaaNatRow
namespace Go.Proofs.Ytmojnliljaefbaa
set_option linter.unusedVariables false
set_option linter.unusedSimpArgs false
open Go.RowKit

set_option maxHeartbeats 400000 in
theorem fit_any (v : Value) (zs : List Int) (k : Int) (w : World) (hv : Sl .i64 w v zs) (hlen : zs.length ≤ 1000000) :
    Calls Try.prog 26 #[v, .int .i64 k] w fun e w' => e = .returned (.bool (fitB zs k)) ∧ w' = w := by
  have HV := hide' hv
  obtain ⟨a, c, rfl, _⟩ := hv
  obtain ⟨_, _, _, hcv⟩ := HV.out.int
  have CV := hide' hcv
  obtain ⟨n, HN⟩ : ∃ n, Hid (zs.length = n) := ⟨_, rfl⟩
  rw [HN.out] at CV hlen ⊢
  clear hcv HV
  by_cases h0 : k < 0
  · have HF : Hid (fitB zs k = false) := fitB_neg h0
    go_enter Try.func26, Try.ntmps26
    go_wp2
    go_ret
    rw [HF.out]
    exact ⟨rfl, rfl⟩
  · by_cases h1 : 1048576 < k
    · have HF : Hid (fitB zs k = false) := fitB_big h1
      have d0 : decide (k < 0) = false := by simp; omega
      go_enter Try.func26, Try.ntmps26
      go_wp2
      go_ret
      rw [HF.out]
      exact ⟨rfl, rfl⟩
    · have HF : Hid (fitB zs k = goodI k zs) := fitB_eq (by omega) (by omega)
      have d0 : decide (k < 0) = false := by simp; omega
      have d1 : decide (1048576 < k) = false := by simp; omega
      rw [HF.out]
      go_enter Try.func26, Try.ntmps26
      go_wp2
      go_loopw [15] (fun vi wr => ∃ (i : Nat), i ≤ n ∧ vi = .int .i64 i ∧ Hid (∀ j, j < i → 0 ≤ zs.getD j 0 ∧ zs.getD j 0 < k) ∧ wr = w) (fun vi _ => n - (intOf vi).toNat)
      case atStart => exact ⟨0, Nat.zero_le _, rfl, (fun j hj => by omega), rfl⟩
      case round =>
        obtain ⟨i, hi, rfl, HG, rfl⟩ := hrel
        by_cases hlt : i < n
        · have hlt' : (i : Int) < n := by omega
          obtain ⟨g1, o1, rfl, k1⟩ := CV.out (by omega)
          have c1 := k1 i hlt
          clear k1
          obtain ⟨z, HZ⟩ : ∃ z, Hid (zs.getD i 0 = z) := ⟨_, rfl⟩
          rw [HZ.out] at c1
          by_cases hz : z < 0
          · have HB : Hid (goodI k zs = false) := goodI_bad (j := i) (by rw [HN.out]; exact hlt) (by rw [HZ.out]; exact .inl hz)
            go_wp2
            go_ret
            rw [HB.out]
            exact ⟨rfl, rfl⟩
          · have dz : decide (z < 0) = false := by simp; omega
            by_cases hzk : k ≤ z
            · have HB : Hid (goodI k zs = false) := goodI_bad (j := i) (by rw [HN.out]; exact hlt) (by rw [HZ.out]; exact .inr hzk)
              go_wp2
              go_ret
              rw [HB.out]
              exact ⟨rfl, rfl⟩
            · have dk : decide (k ≤ z) = false := by simp; omega
              go_wp2
              go_roundw
              case rel =>
                refine ⟨i + 1, by omega, by go_num, (fun j hj => ?_), by first | trivial | rfl⟩
                by_cases e : j = i
                · subst e; rw [HZ.out]; omega
                · exact HG.out j (by omega)
              case measure => simp [intOf]; omega
        · have hlt' : decide ((i : Int) < n) = false := by simp; omega
          have HB : Hid (goodI k zs = true) := goodI_of fun j hj => HG.out j (by rw [HN.out] at hj; omega)
          go_wp2
          go_ret
          rw [HB.out]
          exact ⟨rfl, rfl⟩
end Go.Proofs.Ytmojnliljaefbaa
