/- LeastNone: the walk. -/
import Derived.Test.YtfiemdpcnmgfdaaLeaOf
namespace Go.Proofs.Ytfiemdpcnmgfdaa
set_option linter.unusedVariables false
set_option linter.unusedSimpArgs false
open Go.RowKit

set_option maxHeartbeats 400000 in
theorem lawNone (v : Value) (zs : List Int) (k : Int) (w : World) (hs : Sl .u8 w v zs) :
    Calls Try.prog 5 #[v, .int .i64 k] w fun e w' => e = .returned (.bool true) ∧ Ext w w' := by
  have HS := hide' hs
  obtain ⟨a, cap, rfl, hm2, hm3, _⟩ := hs
  unfold maxLen at hm3
  by_cases h0 : (zs.length : Int) < 1
  · go_enter Try.func5, Try.ntmps5
    go_wp2
    go_ret
    exact ⟨rfl, Ext.refl _⟩
  have d0 : decide ((zs.length : Int) < 1) = false := by simpa using h0
  by_cases h1 : (200 : Int) < (zs.length : Int)
  · go_enter Try.func5, Try.ntmps5
    go_wp2
    go_ret
    exact ⟨rfl, Ext.refl _⟩
  have d1 : decide ((200 : Int) < (zs.length : Int)) = false := by simpa using h1
  by_cases h2 : k < 0
  · go_enter Try.func5, Try.ntmps5
    go_wp2
    go_ret
    exact ⟨rfl, Ext.refl _⟩
  have d2 : decide (k < 0) = false := by simpa using h2
  by_cases h3 : (zs.length : Int) ≤ k
  · go_enter Try.func5, Try.ntmps5
    go_wp2
    go_ret
    exact ⟨rfl, Ext.refl _⟩
  have d3 : decide ((zs.length : Int) ≤ k) = false := by simpa using h3
  obtain ⟨k, rfl⟩ := Int.eq_ofNat_of_zero_le (show 0 ≤ k by omega)
  have hlen : zs.length ≤ 1000000 := by omega
  have hk : k < zs.length := by omega
  obtain ⟨ha, hb⟩ := atI_spec (s := zs) (by omega)
  obtain ⟨c1, c2⟩ := hb k hk
  have C0 := hide' (at_any _ zs w HS.out hlen)
  have C1 := hide' (rturns_any _ zs (atI zs) k w HS.out hlen)
  rw [turnsL_in ha hk] at C1
  clear hb h0 h1 h2 h3
  obtain ⟨t, HT⟩ : ∃ t, Hid (cmpI (turnI zs (atI zs)) (turnI zs k) = t) := ⟨_, rfl⟩
  rw [HT.out] at c1 c2 C1
  obtain ⟨p, HP⟩ : ∃ p, Hid (atI zs = p) := ⟨_, rfl⟩
  rw [HP.out] at ha c2 C0 C1
  have e1 : decide ((zs.length : Int) ≤ (p : Int)) = false := by simp; omega
  have e2 : ¬ zs.length ≤ p := by omega
  by_cases ht : t < 0
  · clear c2
    go_enter Try.func5, Try.ntmps5
    go_wp2_with fail
    refine C0.out.mono ?_
    rintro e w1 ⟨rfl, rfl⟩
    go_wp2_with fail
    refine C1.out.mono ?_
    rintro e w2 ⟨rfl, he⟩
    have X1 := hide' he
    clear he
    go_wp2_with fail
    refine (known_any _).mono ?_
    rintro e w3 ⟨rfl, he⟩
    have X2 := hide' (X1.out.trans he)
    clear he
    go_wp2
    go_ret
    exact ⟨rfl, X2.out⟩
  · have ht' : decide (t < 0) = false := by simpa using ht
    have hpk : p ≤ k := by
      by_cases h : k < p
      · exact absurd (c2 h) ht
      · omega
    have hpk' : (p : Int) ≤ (k : Int) := by omega
    clear c2 ht
    go_enter Try.func5, Try.ntmps5
    go_wp2_with fail
    refine C0.out.mono ?_
    rintro e w1 ⟨rfl, rfl⟩
    go_wp2_with fail
    refine C1.out.mono ?_
    rintro e w2 ⟨rfl, he⟩
    have X1 := hide' he
    clear he
    go_wp2_with fail
    refine (known_any _).mono ?_
    rintro e w3 ⟨rfl, he⟩
    have X2 := hide' (X1.out.trans he)
    clear he
    go_wp2
    go_ret
    exact ⟨rfl, X2.out⟩
end Go.Proofs.Ytfiemdpcnmgfdaa
