/- OmegaOrder: the walk. -/
import Derived.Test.YtifemkgkgghapaaOmKnown
namespace Go.Proofs.Ytifemkgkgghapaa
set_option linter.unusedVariables false
set_option linter.unusedSimpArgs false
open Go.RowKit

set_option maxHeartbeats 2000000 in
theorem lawOrder (u v x : Value) (xs ys zs : List Int) (w : World) (hu : Sl .u8 w u xs) (hv : Sl .u8 w v ys) (hx : Sl .u8 w x zs) :
    Calls Try.prog 7 #[u, v, x] w fun e w' => e = .returned (.bool true) ∧ Ext w w' := by
  have HU := hide' hu
  have HV := hide' hv
  have HX := hide' hx
  obtain ⟨a, c, rfl, k1, k2, _⟩ := hu
  obtain ⟨a', c', rfl, k3, k4, _⟩ := hv
  obtain ⟨a2, c2, rfl, k5, k6, _⟩ := hx
  unfold maxLen at k2 k4 k6
  by_cases h0 : (40 : Int) < (xs.length : Int)
  · go_enter Try.func7, Try.ntmps7
    go_wp2
    go_ret
    exact ⟨rfl, Ext.refl _⟩
  have d0 : decide ((40 : Int) < (xs.length : Int)) = false := by simpa using h0
  by_cases h1 : (40 : Int) < (ys.length : Int)
  · go_enter Try.func7, Try.ntmps7
    go_wp2
    go_ret
    exact ⟨rfl, Ext.refl _⟩
  have d1 : decide ((40 : Int) < (ys.length : Int)) = false := by simpa using h1
  by_cases h2 : (40 : Int) < (zs.length : Int)
  · go_enter Try.func7, Try.ntmps7
    go_wp2
    go_ret
    exact ⟨rfl, Ext.refl _⟩
  have d2 : decide ((40 : Int) < (zs.length : Int)) = false := by simpa using h2
  have l1 : xs.length ≤ 100000 := by omega
  have l2 : ys.length ≤ 100000 := by omega
  have l3 : zs.length ≤ 100000 := by omega
  clear h0 h1 h2
  have C1 : Hid (∀ W, Ext w W → Calls Try.prog 8 #[.slice a xs.length c, .slice a' ys.length c'] W fun e w' => e = .returned (.int .i64 (omI xs ys)) ∧ Ext W w') := fun W h => toExt (omega_any _ _ xs ys W (HU.out.ext h) (HV.out.ext h) l1 l2)
  have C2 : Hid (∀ W, Ext w W → Calls Try.prog 8 #[.slice a' ys.length c', .slice a2 zs.length c2] W fun e w' => e = .returned (.int .i64 (omI ys zs)) ∧ Ext W w') := fun W h => toExt (omega_any _ _ ys zs W (HV.out.ext h) (HX.out.ext h) l2 l3)
  have C3 : Hid (∀ W, Ext w W → Calls Try.prog 8 #[.slice a xs.length c, .slice a2 zs.length c2] W fun e w' => e = .returned (.int .i64 (omI xs zs)) ∧ Ext W w') := fun W h => toExt (omega_any _ _ xs zs W (HU.out.ext h) (HX.out.ext h) l1 l3)
  have T1 := hide' (omI_trans xs ys zs)
  have T2 : Hid (0 ≤ omI xs ys → 0 ≤ omI ys zs → 0 ≤ omI xs zs) := fun p q => by
    have := omI_trans zs ys xs (by rw [omI_swap]; omega) (by rw [omI_swap]; omega)
    rw [omI_swap] at this
    omega
  have T3 := hide' (omI_alike xs ys zs)
  have A3 := hide' (omI_three xs ys)
  have B3 := hide' (omI_three ys zs)
  have D3 := hide' (omI_three xs zs)
  generalize omI xs ys = A at *
  generalize omI ys zs = B at *
  generalize omI xs zs = D at *
  rcases A3.out with hA | hA | hA <;> rcases B3.out with hB | hB | hB <;> rcases D3.out with hD | hD | hD <;> subst hA hB hD <;> clear A3 B3 D3 <;> first
    | exact absurd (T1.out (by decide) (by decide)) (by decide)
    | exact absurd (T2.out (by decide) (by decide)) (by decide)
    | exact absurd (T3.out (by decide)) (by decide)
    | (clear T1 T2 T3
       go_enter Try.func7, Try.ntmps7
       go_wp2_with fail
       refine (C1.out _ (Ext.refl _)).mono ?_
       rintro e w1 ⟨rfl, he⟩
       have X1 := hide' he
       clear he
       go_wp2_with fail
       refine (C2.out _ X1.out).mono ?_
       rintro e w2 ⟨rfl, he⟩
       have X2 := hide' (X1.out.trans he)
       clear he
       go_wp2_with fail
       refine (C3.out _ X2.out).mono ?_
       rintro e w3 ⟨rfl, he⟩
       have X3 := hide' (X2.out.trans he)
       clear he
       go_wp2_with fail
       refine (known_any _).mono ?_
       rintro e w5 ⟨rfl, he⟩
       have X5 := hide' (X3.out.trans he)
       clear he
       go_wp2
       go_ret
       exact ⟨rfl, X5.out⟩)
end Go.Proofs.Ytifemkgkgghapaa
