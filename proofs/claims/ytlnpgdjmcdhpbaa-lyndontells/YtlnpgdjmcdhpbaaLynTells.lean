/- LyndonTells: the walk. -/
import Derived.Test.YtlnpgdjmcdhpbaaLynKnown
import Derived.Test.YtlnpgdjmcdhpbaaLynRef
namespace Go.Proofs.Ytlnpgdjmcdhpbaa
set_option linter.unusedVariables false
set_option linter.unusedSimpArgs false
open Go.RowKit

set_option maxHeartbeats 400000 in
theorem lawTells (v : Value) (zs : List Int) (w : World) (hs : Sl .u8 w v zs) :
    Calls Try.prog 3 #[v] w fun e w' => e = .returned (.bool true) ∧ Ext w w' := by
  have HS := hide' hs
  obtain ⟨a, cap, rfl, hm2, hm3, _⟩ := hs
  unfold maxLen at hm3
  by_cases h1 : (100 : Int) < (zs.length : Int)
  · go_enter Try.func3, Try.ntmps3
    go_wp2
    go_ret
    exact ⟨rfl, Ext.refl _⟩
  have d1 : decide ((100 : Int) < (zs.length : Int)) = false := by simpa using h1
  have hlen : zs.length ≤ 1000000 := by omega
  clear h1
  have HFL : Hid ((facL zs).length ≤ 1000000) := Nat.le_trans (facL_len _ zs (Nat.le_refl _)) hlen
  obtain ⟨fs, HF⟩ : ∃ t, Hid (facL zs = t) := ⟨_, rfl⟩
  rw [HF.out] at HFL
  obtain ⟨B, HB⟩ : ∃ b, Hid (lynB zs = b) := ⟨_, rfl⟩
  have hB : (B == B) = true := by simp
  go_enter Try.func3, Try.ntmps3
  go_wp2_with fail
  refine (toExt (is_any _ zs w HS.out hlen)).mono ?_
  rw [HB.out]
  rintro e w1 ⟨rfl, he⟩
  have Y1 := hide' he
  clear he
  go_wp2_with fail
  refine (toExt (ris_any _ zs w1 (HS.out.ext Y1.out) hlen)).mono ?_
  rw [HB.out]
  rintro e w2 ⟨rfl, he⟩
  have Y2 := hide' (Y1.out.trans he)
  clear he
  go_wp2_with fail
  refine (factors_any _ zs w2 (HS.out.ext Y2.out) hlen).mono ?_
  rw [HF.out]
  rintro e w3 ⟨s3, rfl, ho, he⟩
  have HO3 := hide' ho.sl
  have Y3 := hide' (Y2.out.trans he)
  clear ho he
  go_wp2_with fail
  refine (rfactors_any _ zs w3 (HS.out.ext Y3.out) hlen).mono ?_
  rw [HF.out]
  rintro e w4 ⟨s4, rfl, ho, he⟩
  have HO4 := hide' ho.sl
  have X4 := hide' he
  have Y4 := hide' (Y3.out.trans he)
  clear ho he
  go_wp2_with fail
  refine (ints_same _ _ fs w4 (HO3.out.ext X4.out) HO4.out HFL.out).mono ?_
  rintro e w5 ⟨rfl, he⟩
  have Y5 := hide' (Y4.out.trans he)
  clear he
  go_wp2_with fail
  refine (known_any _).mono ?_
  rintro e w6 ⟨rfl, he⟩
  have Y6 := hide' (Y5.out.trans he)
  clear he
  go_wp2
  go_ret
  exact ⟨rfl, Y6.out⟩
end Go.Proofs.Ytlnpgdjmcdhpbaa
