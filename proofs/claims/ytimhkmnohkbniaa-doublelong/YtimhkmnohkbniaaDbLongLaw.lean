/- DoubleLong: the walk. -/
import Derived.Test.YtimhkmnohkbniaaDbKnown
import Derived.Test.YtimhkmnohkbniaaOrdMore
namespace Go.Proofs.Ytimhkmnohkbniaa
set_option linter.unusedVariables false
set_option linter.unusedSimpArgs false
open Go.RowKit

set_option maxHeartbeats 1000000 in
theorem lawLong (n : Int) (w : World) : Calls Try.prog 6 #[.int .i64 n] w fun e w' => e = .returned (.bool true) ∧ Ext w w' := by
  by_cases h1 : n < 0
  · go_enter Try.func6, Try.ntmps6
    go_wp2
    go_ret
    exact ⟨rfl, Ext.refl _⟩
  have d1 : decide (n < 0) = false := by simpa using h1
  by_cases h2 : 100002 < n
  · go_enter Try.func6, Try.ntmps6
    go_wp2
    go_ret
    exact ⟨rfl, Ext.refl _⟩
  have d2 : decide (100002 < n) = false := by simpa using h2
  by_cases h34 : 300 < n ∧ n ≤ 100000
  · obtain ⟨h3, h4⟩ := h34
    go_enter Try.func6, Try.ntmps6
    go_wp2
    go_ret
    exact ⟨rfl, Ext.refl _⟩
  obtain ⟨n, rfl⟩ := Int.eq_ofNat_of_zero_le (show 0 ≤ n by omega)
  have hn : n ≤ 1000000 := by omega
  obtain ⟨w1, hmk, ho, he⟩ := make_bytes w n (by omega)
  have O1 := hide' ho.sl
  have X1 := hide' he
  have HZL : Hid ((List.replicate n (0 : Int)).length = n) := List.length_replicate
  clear h1 h2 ho he
  by_cases h3 : 300 < n
  · have d3 : (300 : Int) < n := by omega
    have d4 : decide ((n : Int) ≤ 100000) = false := by simp; omega
    have d5 : (100000 : Int) < n := by omega
    have HBIG : Hid (100000 < (List.replicate n (0 : Int)).length) := by show _ < _; rw [HZL.out]; omega
    clear h34 h3
    go_enter Try.func6, Try.ntmps6
    go_wp2_with fail
    refine (dbBytes_any _ _ w1 O1.out (zero_bytes n) (by rw [HZL.out]; exact hn)).mono ?_
    rintro e w2 ⟨u1, L1, c1, rfl, hR1, ho, he⟩
    obtain ⟨rfl, rfl⟩ := hR1.long HBIG.out
    obtain ⟨ua, uc, rfl, _⟩ := ho.sl
    have X2 := hide' (X1.out.trans he)
    simp only [List.length_nil]
    clear ho he hR1
    obtain ⟨w3, hmk2, ho, he⟩ := make_ints w2 n hn
    have O3 := hide' ho.sl
    have X3 := hide' (X2.out.trans he)
    clear ho he
    go_wp2_with fail
    refine (dbInts_any _ _ 0 w3 O3.out (by rw [HZL.out]; exact hn)).mono ?_
    rintro e w4 ⟨u2, L2, c2, rfl, hR2, ho, he⟩
    obtain ⟨rfl, rfl⟩ := hR2.long HBIG.out
    have X4 := hide' (X3.out.trans he)
    clear ho he hR2
    go_wp2_with fail
    refine (known_any _).mono ?_
    rintro e w5 ⟨rfl, he⟩
    have X5 := hide' (X4.out.trans he)
    clear he
    go_wp2
    go_ret
    exact ⟨rfl, X5.out⟩
  · have d3 : decide ((300 : Int) < n) = false := by simp; omega
    have d5 : decide ((100000 : Int) < n) = false := by simp; omega
    have HSM : Hid ((List.replicate n (0 : Int)).length ≤ 100000) := by show _ ≤ _; rw [HZL.out]; omega
    clear h34
    have hn3 : n ≤ 300 := by omega
    clear h3
    go_enter Try.func6, Try.ntmps6
    go_wp2_with fail
    refine (dbBytes_any _ _ w1 O1.out (zero_bytes n) (by rw [HZL.out]; exact hn)).mono ?_
    rintro e w2 ⟨u1, L1, c1, rfl, hR1, ho, he⟩
    obtain ⟨rfl, R, hR2, rfl⟩ := hR1.ok HSM.out (fit256 (zero_bytes n))
    obtain rfl := hR2.eq (same_ord n 0)
    have S2 := hide' ho.sl
    have X2 := hide' (X1.out.trans he)
    clear ho he hR1 hR2
    obtain ⟨ua, uc, rfl, _⟩ := S2.out
    have HLN : Hid ((natL (List.range n).reverse).length = n) := by show _ = _; rw [natL_len, List.length_reverse, List.length_range]
    rw [HLN.out] at S2 ⊢
    obtain ⟨_, _, _, hcv⟩ := S2.out.nat
    have CV := hide' hcv
    have d6 : ((n : Int) != (n : Int)) = false := by simp
    clear hcv S2
    go_wp2
    go_loopw [8] (fun vi wr => ∃ (i : Nat), i ≤ n ∧ vi = .int .i64 i ∧ Hid (Ext w2 wr)) (fun vi _ => n - (intOf vi).toNat)
    case atStart => exact ⟨0, Nat.zero_le _, rfl, Ext.refl _⟩
    case round =>
      obtain ⟨i, hi, rfl, HE⟩ := hrel
      by_cases hlt : i < n
      · have hlt' : (i : Int) < n := by omega
        obtain ⟨g, off, rfl, k1⟩ := CV.out (by omega)
        have c1 := HE.out.cellOf (k1 i hlt)
        rw [revN_at hlt] at c1
        obtain ⟨p, HP⟩ : ∃ p, Hid (n - 1 - i = p) := ⟨_, rfl⟩
        have hp : (n : Int) - 1 - (i : Int) = (p : Int) := by have := HP.out; omega
        rw [HP.out] at c1
        have d7 : ((p : Int) != (p : Int)) = false := by simp
        have d8 : ((p : Int) != (n : Int) - 1 - (i : Int)) = false := by rw [hp]; exact d7
        clear k1
        go_wp2
        go_roundw
        case rel => exact ⟨i + 1, by omega, by go_num, HE⟩
        case measure => simp [intOf] <;> omega
      · have d7 : decide ((i : Int) < n) = false := by simp; omega
        have X3 := hide' (X2.out.trans HE.out)
        go_wp2_with fail
        refine (known_any _).mono ?_
        rintro e w5 ⟨rfl, he⟩
        have X5 := hide' (X3.out.trans he)
        clear he
        go_wp2
        go_ret
        exact ⟨rfl, X5.out⟩
end Go.Proofs.Ytimhkmnohkbniaa
