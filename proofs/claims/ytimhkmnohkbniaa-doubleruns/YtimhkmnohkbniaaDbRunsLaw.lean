/- DoubleRuns: the walk. -/
import Derived.Test.YtimhkmnohkbniaaDbKnown
import Derived.Test.YtimhkmnohkbniaaSaRef
import Derived.Test.YtimhkmnohkbniaaRepMath
namespace Go.Proofs.Ytimhkmnohkbniaa
set_option linter.unusedVariables false
set_option linter.unusedSimpArgs false
open Go.RowKit

set_option maxHeartbeats 1000000 in
theorem lawRuns (v u : Value) (zs ys : List Int) (n : Int) (w : World) (hs : Sl .u8 w v zs) (hu : Sl .u8 w u ys) (h8 : Bytes8 zs) (h9 : Bytes8 ys) :
    Calls Try.prog 5 #[v, .int .i64 n, u] w fun e w' => e = .returned (.bool true) ∧ Ext w w' := by
  have HS := hide' hs
  have HU := hide' hu
  have H8 := hide' h8
  have H9 := hide' h9
  obtain ⟨a, cap, rfl, hm2, hm3, _⟩ := hs
  obtain ⟨a', cap', rfl, hm2', hm3', _⟩ := hu
  clear h8 h9 hm2 hm3 hm2' hm3'
  by_cases h1 : (10 : Int) < (zs.length : Int)
  · go_enter Try.func5, Try.ntmps5
    go_wp2
    go_ret
    exact ⟨rfl, Ext.refl _⟩
  have d1 : decide ((10 : Int) < (zs.length : Int)) = false := by simpa using h1
  by_cases h2 : n < 0
  · go_enter Try.func5, Try.ntmps5
    go_wp2
    go_ret
    exact ⟨rfl, Ext.refl _⟩
  have d2 : decide (n < 0) = false := by simpa using h2
  by_cases h3 : 20 < n
  · go_enter Try.func5, Try.ntmps5
    go_wp2
    go_ret
    exact ⟨rfl, Ext.refl _⟩
  have d3 : decide (20 < n) = false := by simpa using h3
  by_cases h4 : (10 : Int) < (ys.length : Int)
  · go_enter Try.func5, Try.ntmps5
    go_wp2
    go_ret
    exact ⟨rfl, Ext.refl _⟩
  have d4 : decide ((10 : Int) < (ys.length : Int)) = false := by simpa using h4
  obtain ⟨n, rfl⟩ := Int.eq_ofNat_of_zero_le (show 0 ≤ n by omega)
  have l1 : zs.length ≤ 10 := by omega
  have l3 : n ≤ 20 := by omega
  have l4 : ys.length ≤ 10 := by omega
  clear h1 h2 h3 h4
  go_enter Try.func5, Try.ntmps5
  go_wp2
  go_loopw [7, 8] (fun sv vk wr => ∃ (k : Nat), k ≤ n ∧ vk = .int .i64 k ∧ Hid (Own .u8 5 w.heap.size wr sv (repI zs k)) ∧ Hid (Ext w wr)) (fun _ vk _ => n - (intOf vk).toNat)
  case atStart => exact ⟨0, Nat.zero_le _, rfl, Own.nil _ _ _ _, Ext.refl _⟩
  case round =>
    obtain ⟨k, hk, rfl, HO, HE⟩ := hrel
    have HRL : Hid ((repI zs k).length ≤ 200) := by
      have h1 : k * zs.length ≤ 20 * 10 := Nat.mul_le_mul (by omega) l1
      show _ ≤ _
      rw [repI_len]; omega
    by_cases hlt : k < n
    · have hlt' : (k : Int) < n := by omega
      go_wp2_with (at_builtin; refine wpList_join _ rfl _ _ 31 rfl 5 .u8 1 Try.underlying31 infoU8 w.heap.size _ _ (repI zs k) zs rfl rfl HO.out (HS.out.ext HE.out) ?c1 HE.out.size ?_)
      case c1 => have := HRL.out; unfold maxLen; omega
      intro v1 w1 ho1 hb1
      rw [← repI_succ] at ho1
      have HO1 := hide' ho1
      have HE1 := hide' (Below.trans HE.out hb1)
      clear ho1 hb1
      go_wp2
      go_roundw
      case rel => exact ⟨k + 1, by omega, by go_num, HO1, HE1⟩
      case measure => simp [intOf]; omega
    · have hlt' : (n : Int) ≤ k := by omega
      have hkn : k = n := by omega
      subst hkn
      go_wp2_with (at_builtin; refine wpList_join _ rfl _ _ 31 rfl 5 .u8 1 Try.underlying31 infoU8 w.heap.size _ _ (repI zs k) ys rfl rfl HO.out (HU.out.ext HE.out) ?c1 HE.out.size ?_)
      case c1 => have := HRL.out; unfold maxLen; omega
      intro v1 w1 ho1 hb1
      have S1 := hide' ho1.sl
      have X1 : Hid (Ext w w1) := Below.trans HE.out hb1
      have B8 := hide' ((H8.out.rep k).app H9.out)
      have HL3 : Hid ((repI zs k ++ ys).length ≤ 100000) := by have := HRL.out; show _ ≤ _; rw [List.length_append]; omega
      obtain ⟨s, HSS⟩ : ∃ s, Hid (repI zs k ++ ys = s) := ⟨_, rfl⟩
      rw [HSS.out] at S1 B8 HL3
      clear ho1 hb1 HO HE
      go_wp2_with fail
      refine (dbBytes_any _ s w1 S1.out B8.out (Nat.le_trans HL3.out (by omega))).mono ?_
      rintro e w2 ⟨u1, L1, c1, rfl, hR1, ho, he⟩
      obtain ⟨rfl, _⟩ := hR1.ok HL3.out (fit256 B8.out)
      have O1 := hide' ho.sl
      have S2 := hide' (S1.out.ext he)
      have X2 := hide' (X1.out.trans he)
      have R1 := hide' hR1
      clear ho he hR1
      go_wp2_with fail
      refine (srBytes_any _ s w2 S2.out B8.out HL3.out).mono ?_
      rintro e w3 ⟨u2, L2, rfl, hR2, ho, he⟩
      obtain ⟨rfl, _⟩ := R1.out.eq hR2
      have O2 := hide' ho.sl
      have O12 := hide' (O1.out.ext he)
      have X3 := hide' (X2.out.trans he)
      have HD2 : Hid (L1.length ≤ 1000000) := by have := R1.out.len; have := HL3.out; show _ ≤ _; omega
      clear ho he hR2 O1 X1 X2
      go_wp2_with fail
      refine (ints_same _ _ L1 w3 O12.out O2.out HD2.out).mono ?_
      rintro e w4 ⟨rfl, he⟩
      have X4 := hide' (X3.out.trans he)
      clear he
      go_wp2_with fail
      refine (known_any _).mono ?_
      rintro e w5 ⟨rfl, he⟩
      have X5 := hide' (X4.out.trans he)
      clear he
      go_wp2
      go_ret
      exact ⟨rfl, X5.out⟩
end Go.Proofs.Ytimhkmnohkbniaa
