/- Contract of Four. -/
import Derived.Test.YthdndcoannigmaaCurOps
namespace Go.Proofs.Ythdndcoannigmaa
set_option linter.unusedVariables false
set_option linter.unusedSimpArgs false
open Go.RowKit

theorem four_nil (w : World) : Calls Try.prog 14 #[.pointer none] w fun e w' => e = .returned (.tuple #[.int .u32 0, .bool false]) ∧ w' = w := by
  go_enter Try.func14, Try.ntmps14
  go_wp2_with fail
  refine (has_nil 4 w).mono ?_
  rintro e w1 ⟨rfl, rfl⟩
  go_wp2
  go_ret2
  exact ⟨rfl, rfl⟩

theorem four_any (b : Nat) (zs : List Int) (w : World) (hC : Cur 51 w b zs) (hr : Bytes8 zs) :
    Calls Try.prog 14 #[.pointer (some ⟨b, 0, none⟩)] w fun e w' => e = .returned (.tuple #[.int .u32 (fourL zs).1, .bool (fourL zs).2.1]) ∧ Cur 51 w' b (fourL zs).2.2 ∧ But b w w' := by
  have HC := hide' hC
  clear hC
  go_enter Try.func14, Try.ntmps14
  go_wp2_with fail
  refine (has_any b zs 4 w HC.out).mono ?_
  rintro e w1 ⟨rfl, rfl⟩
  by_cases h4 : zs.length < 4
  · rw [show decide (0 ≤ (4 : Int) ∧ (4 : Int) ≤ (zs.length : Int)) = false from by simp; omega]
    have HV := hide' (fourL_short h4)
    go_wp2
    go_ret2
    rw [HV.out]
    exact ⟨rfl, HC.out, But.refl _ _⟩
  rw [show decide (0 ≤ (4 : Int) ∧ (4 : Int) ≤ (zs.length : Int)) = true from by simp; omega]
  obtain ⟨z0, z1, z2, z3, r, HZ⟩ : ∃ z0 z1 z2 z3 r, Hid (zs = z0 :: z1 :: z2 :: z3 :: r) := by
    match zs, h4 with
    | [], h4 => simp at h4
    | [_], h4 => simp at h4
    | [_, _], h4 => simp at h4
    | [_, _, _], h4 => simp at h4
    | z0 :: z1 :: z2 :: z3 :: r, _ => exact ⟨_, _, _, _, _, rfl⟩
  have r0 := hr z0 (by rw [HZ.out]; simp)
  have r1 := hr z1 (by rw [HZ.out]; simp)
  have r2 := hr z2 (by rw [HZ.out]; simp)
  have r3 := hr z3 (by rw [HZ.out]; simp)
  go_wp2_with fail
  refine (skip_any b zs 4 _ HC.out (by omega)).mono ?_
  rintro e w2 ⟨a, c, rfl, hS, hC2, hB⟩
  rw [HZ.out] at hS hC2
  obtain ⟨_, g, off, rfl, hc⟩ := hS.at (by simp)
  have hc0 : w2.cell? ⟨g, off, none⟩ = some (.int .u8 z0) := hc 0 (by omega)
  have hc1 : w2.cell? ⟨g, off + 1, none⟩ = some (.int .u8 z1) := hc 1 (by omega)
  have hc2 : w2.cell? ⟨g, off + 2, none⟩ = some (.int .u8 z2) := hc 2 (by omega)
  have hc3 : w2.cell? ⟨g, off + 3, none⟩ = some (.int .u8 z3) := hc 3 (by omega)
  have HC2 := hide' hC2
  have HB := hide' hB
  clear hS hc hC2 hB HC hr
  have k0 : IntKind.u32.wrap z0 = z0 := by rw [IntKind.wrap_u32]; omega
  have k1 : IntKind.u32.wrap z1 = z1 := by rw [IntKind.wrap_u32]; omega
  have k2 : IntKind.u32.wrap z2 = z2 := by rw [IntKind.wrap_u32]; omega
  have k3 : IntKind.u32.wrap z3 = z3 := by rw [IntKind.wrap_u32]; omega
  go_wp2_with fail
  go_quiet (fail)
  go_wp2
  go_ret2
  rw [HZ.out]
  exact ⟨rfl, HC2.out.ext (Ext.drewN _ _), HB.out.trans (But.ofExt (Ext.drewN _ _))⟩
end Go.Proofs.Ythdndcoannigmaa
