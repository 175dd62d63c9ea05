/- LexTurns: the walk. -/
import Derived.Test.YtikohabbffjpkaaLexKnown
import Derived.Test.YtikohabbffjpkaaRepMath
namespace Go.Proofs.Ytikohabbffjpkaa
set_option linter.unusedVariables false
set_option linter.unusedSimpArgs false
open Go.RowKit

theorem turnsL_rep {x : List Int} {n i : Nat} (hi : i < n * x.length) : turnsL (repI x n) i (((i + x.length) % (n * x.length) : Nat) : Int) = 0 := by
  have hN := repI_len x n
  have hj : (i + x.length) % (n * x.length) < n * x.length := Nat.mod_lt _ (by omega)
  rw [turnsL_in (by omega) (by omega), ← turnI_rep x n i hi, cmpI_self]
theorem turnsL_self {x : List Int} {i : Nat} (hi : i < x.length) : turnsL x i i = 0 := by
  rw [turnsL_in hi hi, cmpI_self]

set_option maxHeartbeats 1000000 in
set_option maxRecDepth 100000 in
theorem lawTurns (v : Value) (zs : List Int) (n i : Int) (w : World) (hs : Sl .u8 w v zs) :
    Calls Try.prog 6 #[v, .int .i64 n, .int .i64 i] w fun e w' => e = .returned (.bool true) ∧ Ext w w' := by
  have HS := hide' hs
  obtain ⟨a, cap, rfl, hm2, hm3, _⟩ := hs
  unfold maxLen at hm3
  by_cases h0 : (zs.length : Int) < 1
  · go_enter Try.func6, Try.ntmps6
    go_wp2
    go_ret
    exact ⟨rfl, Ext.refl _⟩
  have d0 : decide ((zs.length : Int) < 1) = false := by simpa using h0
  by_cases h1 : (20 : Int) < (zs.length : Int)
  · go_enter Try.func6, Try.ntmps6
    go_wp2
    go_ret
    exact ⟨rfl, Ext.refl _⟩
  have d1 : decide ((20 : Int) < (zs.length : Int)) = false := by simpa using h1
  by_cases h2 : n < 1
  · go_enter Try.func6, Try.ntmps6
    go_wp2
    go_ret
    exact ⟨rfl, Ext.refl _⟩
  have d2 : decide (n < 1) = false := by simpa using h2
  by_cases h3 : 6 < n
  · go_enter Try.func6, Try.ntmps6
    go_wp2
    go_ret
    exact ⟨rfl, Ext.refl _⟩
  have d3 : decide (6 < n) = false := by simpa using h3
  by_cases h4 : i < 0
  · go_enter Try.func6, Try.ntmps6
    go_wp2
    go_ret
    exact ⟨rfl, Ext.refl _⟩
  have d4 : decide (i < 0) = false := by simpa using h4
  obtain ⟨n, rfl⟩ := Int.eq_ofNat_of_zero_le (show 0 ≤ n by omega)
  obtain ⟨i, rfl⟩ := Int.eq_ofNat_of_zero_le (show 0 ≤ i by omega)
  have l0 : 1 ≤ zs.length := by omega
  have l1 : zs.length ≤ 20 := by omega
  have l2 : 1 ≤ n := by omega
  have l3 : n ≤ 6 := by omega
  clear h0 h1 h2 h3 h4
  have hN : n * zs.length ≤ 120 := Nat.mul_le_mul l3 l1
  obtain ⟨N, HN⟩ : ∃ N, Hid (N = n * zs.length) := ⟨_, rfl⟩
  rw [← HN.out] at hN
  have hmul : (zs.length : Int) * (n : Int) = (N : Int) := by rw [HN.out, Int.natCast_mul, Int.mul_comm]
  by_cases h5 : (N : Int) ≤ (i : Int)
  · go_enter Try.func6, Try.ntmps6
    go_wp2
    go_ret
    exact ⟨rfl, Ext.refl _⟩
  have d5 : decide ((N : Int) ≤ (i : Int)) = false := by simpa using h5
  have hi : i < N := by omega
  have d5n : decide (N ≤ i) = false := by simpa using hi
  have HI := hide' hi
  clear h5
  go_enter Try.func6, Try.ntmps6
  go_wp2
  go_loopw [7, 8] (fun sv vk wr => ∃ (k : Nat), k ≤ n ∧ vk = .int .i64 k ∧ Hid (Own .u8 5 w.heap.size wr sv (repI zs k)) ∧ Hid (Ext w wr)) (fun _ vk _ => n - (intOf vk).toNat)
  case atStart => exact ⟨0, Nat.zero_le _, rfl, Own.nil _ _ _ _, Ext.refl _⟩
  case round =>
    obtain ⟨k, hk, rfl, HO, HE⟩ := hrel
    by_cases hlt : k < n
    · have hlt' : (k : Int) < n := by omega
      have HL : Hid ((repI zs k).length + zs.length ≤ 120) := by
        have h1 : (k + 1) * zs.length ≤ 6 * 20 := Nat.mul_le_mul (by omega) l1
        rw [Nat.succ_mul] at h1
        show _ ≤ _
        rw [repI_len]; omega
      go_wp2_with (at_builtin; refine wpList_join _ rfl _ _ 22 rfl 5 .u8 1 Try.underlying22 infoU8 w.heap.size _ _ (repI zs k) zs rfl rfl HO.out (HS.out.ext HE.out) ?c1 HE.out.size ?_)
      case c1 => have := HL.out; unfold maxLen; omega
      intro v1 w1 ho1 hb1
      rw [← repI_succ] at ho1
      have HO1 := hide' ho1
      have HE1 := hide' (Below.trans HE.out hb1)
      clear ho1 hb1
      go_wp2
      go_roundw
      case rel => exact ⟨k + 1, by omega, by go_num, HO1, HE1⟩
      case measure => simp [intOf]; omega
    · have hlt' : (n : Int) ≤ k := by omega
      have hkn : k = n := by omega
      subst hkn
      have hl := repI_len zs k
      rw [← HN.out] at hl
      have HL := hide' hl
      clear hl
      obtain ⟨a1, c1, hv, _⟩ := HO.out.sl
      rw [HL.out] at hv
      subst hv
      have C1 : Hid (∀ W, Sl .u8 W (.slice a1 N c1) (repI zs k) → Calls Try.prog 15 #[.slice a1 N c1, .int .i64 (i : Int), .int .i64 (((i + zs.length) % N : Nat) : Int)] W fun e w' => e = .returned (.int .i64 0) ∧ Ext W w') := fun W h => by
        have := toExt (turns_any _ _ i (((i + zs.length) % N : Nat) : Int) W h (by rw [HL.out]; omega))
        have e : turnsL (repI zs k) i (((i + zs.length) % N : Nat) : Int) = 0 := by rw [HN.out]; exact turnsL_rep (by rw [← HN.out]; exact HI.out)
        rw [e] at this
        exact this
      have C2 : Hid (∀ W, Sl .u8 W (.slice a1 N c1) (repI zs k) → Calls Try.prog 15 #[.slice a1 N c1, .int .i64 (i : Int), .int .i64 (i : Int)] W fun e w' => e = .returned (.int .i64 0) ∧ Ext W w') := fun W h => by
        have := toExt (turns_any _ _ i i W h (by rw [HL.out]; omega))
        rwa [turnsL_self (by rw [HL.out]; exact HI.out)] at this
      have hmod : ((i : Int) + (zs.length : Int)).tmod (N : Int) = (((i + zs.length) % N : Nat) : Int) := by
        rw [Int.tmod_eq_emod_of_nonneg (by omega)]; simp
      have hmod2 : ((i : Int) + (zs.length : Int)) % (N : Int) = (((i + zs.length) % N : Nat) : Int) := by simp
      have hmlt : (i + zs.length) % N < N := Nat.mod_lt _ (by omega)
      generalize (i + zs.length) % N = J at *
      have hN0 : (1 : Int) ≤ N := by omega
      have HSl := hide' HO.out.sl
      go_wp2_with fail
      refine (C1.out _ HSl.out).mono ?_
      rintro e w1 ⟨rfl, he⟩
      have X1 := hide' he
      clear he
      go_wp2_with fail
      refine (C2.out _ (HSl.out.ext X1.out)).mono ?_
      rintro e w2 ⟨rfl, he⟩
      have X2 := hide' ((HE.out.trans X1.out).trans he)
      clear he
      go_wp2_with fail
      refine (known_any _).mono ?_
      rintro e w3 ⟨rfl, he⟩
      have X3 := hide' (X2.out.trans he)
      clear he
      go_wp2
      go_ret
      exact ⟨rfl, X3.out⟩
end Go.Proofs.Ytikohabbffjpkaa
