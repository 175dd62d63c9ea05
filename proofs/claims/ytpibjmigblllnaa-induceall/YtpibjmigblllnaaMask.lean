/- 'x & 65535' of whatever int; what a remainder is. Over any program, no conditions. -/
import Derived.Test.YtpibjmigblllnaaLib
namespace Go.Proofs.Ytpibjmigblllnaa
set_option linter.unusedVariables false
set_option linter.unusedSimpArgs false

theorem and_maskI (x : Int) : ∃ k : Nat, bits .and .i64 x 65535 = (k : Int) ∧ k ≤ 65535 := by
  have h : (BitVec.ofInt 64 x &&& BitVec.ofInt 64 65535).toNat ≤ 65535 := by
    rw [BitVec.toNat_and]
    exact Nat.le_trans Nat.and_le_right (by decide)
  refine ⟨_, ?_, h⟩
  show IntKind.i64.wrap ((BitVec.ofInt 64 x &&& BitVec.ofInt 64 65535).toNat : Int) = _
  generalize (BitVec.ofInt 64 x &&& BitVec.ofInt 64 65535).toNat = n at h ⊢
  simp [IntKind.wrap, IntKind.bits, IntKind.signed]
  split <;> omega
end Go.Proofs.Ytpibjmigblllnaa
