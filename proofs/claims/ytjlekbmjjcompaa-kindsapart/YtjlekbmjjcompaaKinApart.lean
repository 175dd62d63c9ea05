/- KindsApart: the walk. -/
import Derived.Test.YtjlekbmjjcompaaKinKnown
namespace Go.Proofs.Ytjlekbmjjcompaa
set_option linter.unusedVariables false
set_option linter.unusedSimpArgs false
open Go.RowKit

set_option maxHeartbeats 2000000 in
theorem lawApart (v : Value) (zs : List Int) (w : World) (hv : Sl .i64 w v zs) :
    Calls Try.prog 5 #[v] w fun e w' => e = .returned (.bool true) ∧ Ext w w' := by
  have HV := hide' hv
  obtain ⟨a, c, rfl, _⟩ := hv
  by_cases h1 : (300 : Int) < (zs.length : Int)
  · go_enter Try.func5, Try.ntmps5
    go_wp2
    go_ret
    exact ⟨rfl, Ext.refl _⟩
  have d1 : decide ((300 : Int) < (zs.length : Int)) = false := by simpa using h1
  have HL1 : Hid (zs.length ≤ 1000000) := by show _ ≤ _; omega
  have HSM := hide' (first_any _ zs w HV.out HL1.out)
  have hh := firstN_half zs
  have HIN : Hid (∀ j, j < (firstN zs).length → 1 ≤ (firstN zs).getD j 0 ∧ (firstN zs).getD j 0 < zs.length) := fun j hj => firN_in hj
  have HTW : Hid (∀ j, j + 1 < (firstN zs).length → (firstN zs).getD j 0 + 2 ≤ (firstN zs).getD (j + 1) 0) := fun j hj => firN_two hj
  obtain ⟨n, HN⟩ : ∃ n, Hid (zs.length = n) := ⟨_, rfl⟩
  obtain ⟨L, HL⟩ : ∃ n, Hid (firstN zs = n) := ⟨_, rfl⟩
  obtain ⟨k, HK⟩ : ∃ n, Hid (L.length = n) := ⟨_, rfl⟩
  have HKN : Hid ((natL L).length = k) := by show _ = _; rw [natL_len, HK.out]
  rw [HL.out] at HSM HIN HTW hh
  rw [HK.out] at HIN HTW hh
  rw [HN.out] at HSM d1 HIN hh ⊢
  have hn : n ≤ 300 := by have := HN.out; omega
  have hh1 : 2 * (k : Int) ≤ (n : Int) := by omega
  have hh2 : (((2 * k : Nat) : Int)) ≤ (n : Int) := by omega
  clear h1 HV
  go_enter Try.func5, Try.ntmps5
  go_wp2_with fail
  refine HSM.out.mono ?_
  rintro e w1 ⟨s1, rfl, ho, he⟩
  have O1 := hide' ho.sl
  have X1 := hide' he
  clear ho he HSM
  obtain ⟨a1, c1, rfl, _⟩ := O1.out
  rw [HKN.out] at O1 ⊢
  obtain ⟨_, _, _, hc1⟩ := O1.out.nat
  have C1 := hide' hc1
  clear hc1
  go_wp2
  go_loopw [4] (fun vi wr => ∃ (i : Nat), i ≤ k ∧ vi = .int .i64 i ∧ ∃ m, wr = w1.drewN m) (fun vi _ => k - (intOf vi).toNat)
  case atStart => exact ⟨0, Nat.zero_le _, rfl, 0, rfl⟩
  case round =>
    obtain ⟨i, hi, rfl, m, rfl⟩ := hrel
    by_cases hlt : i < k
    · have hlt' : (i : Int) < k := by omega
      obtain ⟨g1, o1, rfl, k1⟩ := C1.out (by omega)
      have q1 := k1 i hlt
      obtain ⟨x, HX⟩ : ∃ x : Int, Hid (((L.getD i 0 : Nat) : Int) = x) := ⟨_, rfl⟩
      rw [HX.out] at q1
      have hin := HIN.out i hlt
      have b1 : decide (x < 1) = false := by simp; have := HX.out; omega
      have b2 : decide ((n : Int) ≤ x) = false := by simp; have := HX.out; omega
      clear hin
      by_cases h0 : i = 0
      · subst h0
        have hz : o1 + 0 = o1 := rfl
        rw [hz] at q1
        clear k1 hz
        go_wp2_with fail
        go_big_quiet (fail)
        go_wp2
        go_roundw
        case rel => exact ⟨1, by omega, by go_num, _, by first | rfl | exact World.drewN_drewN _ _ _⟩
        case measure => simp [intOf]; omega
      · obtain ⟨j, HJ⟩ : ∃ j, Hid (i = j + 1) := ⟨i - 1, by show _ = _; omega⟩
        have hij : (i : Int) - 1 = (j : Int) := by have := HJ.out; omega
        have hj : (j : Int) < k := by omega
        have hi0 : (0 : Int) < i := by omega
        have hi1 : 0 < i := by omega
        have q2 := k1 j (by omega)
        have htw := HTW.out j (by rw [← HJ.out]; exact hlt)
        rw [← HJ.out] at htw
        have hyb := (HIN.out j (by omega)).2
        obtain ⟨y, HY⟩ : ∃ x : Int, Hid (((L.getD j 0 : Nat) : Int) = x) := ⟨_, rfl⟩
        rw [HY.out] at q2
        have b3 : decide (x < y + 2) = false := by simp; have := HX.out; have := HY.out; omega
        have b4 : IntKind.i64.wrap (y + 2) = y + 2 := by rw [IntKind.wrap_i64]; have := HY.out; omega
        clear k1 htw hyb h0
        go_wp2_with fail
        go_big_quiet (fail)
        go_wp2
        go_roundw
        case rel => exact ⟨i + 1, by omega, by go_num, _, by first | rfl | exact World.drewN_drewN _ _ _⟩
        case measure => simp [intOf]; omega
    · have hlt' : decide ((i : Int) < k) = false := by simp; omega
      have X3 : Hid (Ext w (w1.drewN m)) := X1.out.trans (Ext.drewN _ _)
      generalize w1.drewN m = W at *
      go_wp2_with fail
      refine (known_any W).mono ?_
      rintro e w7 ⟨rfl, he⟩
      have X7 := hide' (X3.out.trans he)
      clear he
      go_wp2
      go_ret
      exact ⟨rfl, X7.out⟩
end Go.Proofs.Ytjlekbmjjcompaa
