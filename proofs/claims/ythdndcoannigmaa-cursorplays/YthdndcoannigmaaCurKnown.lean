/- whorllaw3's own known answer. -/
import Derived.Test.YthdndcoannigmaaCurOps
namespace Go.Proofs.Ythdndcoannigmaa
set_option linter.unusedVariables false
set_option linter.unusedSimpArgs false
open Go.RowKit

theorem var299 : varL 299 [172, 2] = (0, false, [172, 2]) := by decide
theorem var300 : varL 300 [172, 2] = (300, true, []) := by decide

theorem known_any (w : World) : Calls Try.prog 17 #[] w fun e w' => e = .returned (.bool true) ∧ Ext w w' := by
  go_enter Try.func17, Try.ntmps17
  go_wp2_with fail
  refine (new_any _ _ _ [172, 2] _ (Sl.lit w [172, 2] 2 rfl (by decide)) (by decide)).mono ?_
  rintro e w1 ⟨b, rfl, hlt, hC, hE⟩
  have HX := hide' ((ext_alloc w _).trans hE)
  have hb : w.heap.size ≤ b := by simp at hlt; omega
  clear hlt hE
  go_wp2_with fail
  refine (varint_any b _ 299 w1 hC (by unfold Bytes8; decide) (by omega)).mono ?_
  clear hC
  rw [var299]
  rintro e w2 ⟨rfl, hC, hB⟩
  have HX2 := hide' (Ext.but HX.out hb hB)
  clear hB HX
  go_wp2_with fail
  refine (varint_any b _ 300 w2 hC (by unfold Bytes8; decide) (by omega)).mono ?_
  clear hC
  rw [var300]
  rintro e w3 ⟨rfl, hC, hB⟩
  have HX3 := hide' (Ext.but HX2.out hb hB)
  clear hB HX2
  go_wp2_with fail
  refine (left_any b _ w3 hC).mono ?_
  rintro e w4 ⟨rfl, rfl⟩
  go_wp2
  go_ret
  exact ⟨rfl, HX3.out⟩
end Go.Proofs.Ythdndcoannigmaa
