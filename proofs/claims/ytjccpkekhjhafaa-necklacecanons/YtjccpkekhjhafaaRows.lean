/-
  No cell of these rows narrows 'for every input' (looked for: loops, veiled, ifaces, maps, wideKeys, modest, calm, conditions, laid).
  DERIVED. THE GIVEN ROWS OF THIS SEAT. 4 by the template 'for every input the law returns true; each argument reads behind the call as it read before'; 0 by the template 'total and deterministic' (their statements: YtjccpkekhjhafaaTotals.lean).
  GIVEN WITH THE SEED: the statements are not yours to turn. If you find one false, say at which input.
  Laid BY PROGRAM, IN A SANDBOX (cutbox-rows.mjs): the forced cells as the released guide's own fill.sh prints them over the translation 39e978dbe4e072ac… (all of the seat's roots in one cut). By AI agents, Wed Nov 11 2026. No macro, syntax, notation, axiom, sorry.
-/
import Derived.Test.YtjccpkekhjhafaaChecked
import GoSem.Claim
import GoSem.ClaimJoined
import GoSem.ClaimMapViews
import Derived.JoinedTies
import Derived.KernelRfl
namespace Go.Proofs.Ytjccpkekhjhafaa
/- THE CELL 'sum', in the pinned program and in every row, IS THE sha256 OF THE DUMP (.gsa) THAT YtjccpkekhjhafaaProg.lean LOADS. Nothing in Lean hashes anything: it is a label: what it is worth is what the hold of that sum in a sandbox is worth. -/
noncomputable def Try.pinned : Pinned := { name := "ytjccpkekhjhafaa", sum := "39e978dbe4e072ac27cff586ce0d24027f0ccbae63955c10c9947f24588de71f", checked := Try.checked }
namespace Rows
def none {H : Type} : Left H := { results := [], args := [] }

/-- 'whorllaw9.NecklaceCanons': WHATEVER THE INPUT: true; the input reads as it did. -/
def necklaceCanonsSpec : ChangeSpec := { name := "necklaceCanons", fn := fun _ => fun
  | [d] => { results := [.lit (.bool true)], args := [d] }
  | _ => none }
def necklaceCanonsRow : OpenClaim := { program := "ytjccpkekhjhafaa", sum := "39e978dbe4e072ac27cff586ce0d24027f0ccbae63955c10c9947f24588de71f", func := "whorl/whorllaw9.NecklaceCanons", spec := "necklaceCanons", inPlace := ["internal/bytealg.Compare"], unfollowed := true, recurses := true, apart := false }
def NecklaceCanonsSaid : Prop := necklaceCanonsRow.holds Try.pinned (OpenSpec.ofChange necklaceCanonsSpec)

/-- ITS FALSE NEIGHBOUR: 'it returns false'. Refute it at one input. -/
def necklaceCanonsWrong : ChangeSpec := { name := "necklaceCanons", fn := fun _ => fun
  | [d] => { results := [.lit (.bool false)], args := [d] }
  | _ => none }
def NecklaceCanonsWrongFalsely : Prop := necklaceCanonsRow.holds Try.pinned (OpenSpec.ofChange necklaceCanonsWrong)

/-- 'whorllaw9.NecklaceSame': WHATEVER THE INPUT: true; the input reads as it did. -/
def necklaceSameSpec : ChangeSpec := { name := "necklaceSame", fn := fun _ => fun
  | [d1, d2, d3] => { results := [.lit (.bool true)], args := [d1, d2, d3] }
  | _ => none }
def necklaceSameRow : OpenClaim := { program := "ytjccpkekhjhafaa", sum := "39e978dbe4e072ac27cff586ce0d24027f0ccbae63955c10c9947f24588de71f", func := "whorl/whorllaw9.NecklaceSame", spec := "necklaceSame", inPlace := ["internal/bytealg.Compare"], unfollowed := true, recurses := true, apart := false }
def NecklaceSameSaid : Prop := necklaceSameRow.holds Try.pinned (OpenSpec.ofChange necklaceSameSpec)

/-- ITS FALSE NEIGHBOUR: 'it returns false'. Refute it at one input. -/
def necklaceSameWrong : ChangeSpec := { name := "necklaceSame", fn := fun _ => fun
  | [d1, d2, d3] => { results := [.lit (.bool false)], args := [d1, d2, d3] }
  | _ => none }
def NecklaceSameWrongFalsely : Prop := necklaceSameRow.holds Try.pinned (OpenSpec.ofChange necklaceSameWrong)

/-- 'whorllaw9.NecklaceTwice': WHATEVER THE INPUT: true; the input reads as it did. -/
def necklaceTwiceSpec : ChangeSpec := { name := "necklaceTwice", fn := fun _ => fun
  | [d] => { results := [.lit (.bool true)], args := [d] }
  | _ => none }
def necklaceTwiceRow : OpenClaim := { program := "ytjccpkekhjhafaa", sum := "39e978dbe4e072ac27cff586ce0d24027f0ccbae63955c10c9947f24588de71f", func := "whorl/whorllaw9.NecklaceTwice", spec := "necklaceTwice", inPlace := ["internal/bytealg.Compare"], unfollowed := true, recurses := true, apart := false }
def NecklaceTwiceSaid : Prop := necklaceTwiceRow.holds Try.pinned (OpenSpec.ofChange necklaceTwiceSpec)

/-- ITS FALSE NEIGHBOUR: 'it returns false'. Refute it at one input. -/
def necklaceTwiceWrong : ChangeSpec := { name := "necklaceTwice", fn := fun _ => fun
  | [d] => { results := [.lit (.bool false)], args := [d] }
  | _ => none }
def NecklaceTwiceWrongFalsely : Prop := necklaceTwiceRow.holds Try.pinned (OpenSpec.ofChange necklaceTwiceWrong)

/-- 'whorllaw9.NecklaceParts': WHATEVER THE INPUT: true; the input reads as it did. -/
def necklacePartsSpec : ChangeSpec := { name := "necklaceParts", fn := fun _ => fun
  | [d1, d2] => { results := [.lit (.bool true)], args := [d1, d2] }
  | _ => none }
def necklacePartsRow : OpenClaim := { program := "ytjccpkekhjhafaa", sum := "39e978dbe4e072ac27cff586ce0d24027f0ccbae63955c10c9947f24588de71f", func := "whorl/whorllaw9.NecklaceParts", spec := "necklaceParts", inPlace := ["internal/bytealg.Compare"], unfollowed := true, recurses := true, apart := false }
def NecklacePartsSaid : Prop := necklacePartsRow.holds Try.pinned (OpenSpec.ofChange necklacePartsSpec)

/-- ITS FALSE NEIGHBOUR: 'it returns false'. Refute it at one input. -/
def necklacePartsWrong : ChangeSpec := { name := "necklaceParts", fn := fun _ => fun
  | [d1, d2] => { results := [.lit (.bool false)], args := [d1, d2] }
  | _ => none }
def NecklacePartsWrongFalsely : Prop := necklacePartsRow.holds Try.pinned (OpenSpec.ofChange necklacePartsWrong)

/- THE SECOND FORM. 'bulk': how many values and letters a reading holds, each counted each time it is reached (what is shared counts as often as it is met; a slice's spare places count too). A statement '..UptoSaid' is the law's where the arguments, and the package variables that the reading takes, are together of bulk at most 1048576: NARROWER than '..Said'. Prove '..Said' where nothing that the law and all that it calls make is longer than what came in: it says more and counts as full. Else prove '..UptoSaid'. A law counts once. -/
mutual
def uptoBulk {H : Type} : DataW H → Nat
  | .lit (.string bytes) => bytes.length + 1
  | .lit _ => 1
  | .nil => 1
  | .ptr d => uptoBulk d + 1
  | .slice elems spare => uptoBulkAll elems + uptoBulkAll spare + 1
  | .agg parts => uptoBulkAll parts + 1
  | .iface _ d => uptoBulk d + 1
  | .map entries => uptoBulkEntries entries + 1
  | .held _ => 1
def uptoBulkAll {H : Type} : List (DataW H) → Nat
  | [] => 0
  | d :: r => uptoBulk d + uptoBulkAll r
def uptoBulkEntries {H : Type} : List (Lit × DataW H) → Nat
  | [] => 0
  | x :: r => uptoBulkEntry x + uptoBulkEntries r
def uptoBulkEntry {H : Type} : Lit × DataW H → Nat
  | (.string bytes, d) => bytes.length + uptoBulk d + 1
  | (_, d) => uptoBulk d + 1
 end
def uptoSmall : (H : Type) → List (DataW H) → Bool := fun _ ds => decide (uptoBulkAll ds ≤ 1048576)
def OpenSpec.upto (s : _root_.Go.ChangeSpec) : _root_.Go.OpenSpec := { _root_.Go.OpenSpec.ofChange s with cond := some uptoSmall }

/-- 'whorllaw9.NecklaceCanons', WHERE WHAT IT READS IS OF BULK AT MOST 1048576: true; the input reads as it did. -/
def necklaceCanonsUptoRow : OpenClaim := { program := "ytjccpkekhjhafaa", sum := "39e978dbe4e072ac27cff586ce0d24027f0ccbae63955c10c9947f24588de71f", func := "whorl/whorllaw9.NecklaceCanons", spec := "necklaceCanons", inPlace := ["internal/bytealg.Compare"], unfollowed := true, recurses := true, apart := false, narrowed := true }
def NecklaceCanonsUptoSaid : Prop := necklaceCanonsUptoRow.holds Try.pinned (OpenSpec.upto necklaceCanonsSpec)

/-- 'whorllaw9.NecklaceSame', WHERE WHAT IT READS IS OF BULK AT MOST 1048576: true; the input reads as it did. -/
def necklaceSameUptoRow : OpenClaim := { program := "ytjccpkekhjhafaa", sum := "39e978dbe4e072ac27cff586ce0d24027f0ccbae63955c10c9947f24588de71f", func := "whorl/whorllaw9.NecklaceSame", spec := "necklaceSame", inPlace := ["internal/bytealg.Compare"], unfollowed := true, recurses := true, apart := false, narrowed := true }
def NecklaceSameUptoSaid : Prop := necklaceSameUptoRow.holds Try.pinned (OpenSpec.upto necklaceSameSpec)

/-- 'whorllaw9.NecklaceTwice', WHERE WHAT IT READS IS OF BULK AT MOST 1048576: true; the input reads as it did. -/
def necklaceTwiceUptoRow : OpenClaim := { program := "ytjccpkekhjhafaa", sum := "39e978dbe4e072ac27cff586ce0d24027f0ccbae63955c10c9947f24588de71f", func := "whorl/whorllaw9.NecklaceTwice", spec := "necklaceTwice", inPlace := ["internal/bytealg.Compare"], unfollowed := true, recurses := true, apart := false, narrowed := true }
def NecklaceTwiceUptoSaid : Prop := necklaceTwiceUptoRow.holds Try.pinned (OpenSpec.upto necklaceTwiceSpec)

/-- 'whorllaw9.NecklaceParts', WHERE WHAT IT READS IS OF BULK AT MOST 1048576: true; the input reads as it did. -/
def necklacePartsUptoRow : OpenClaim := { program := "ytjccpkekhjhafaa", sum := "39e978dbe4e072ac27cff586ce0d24027f0ccbae63955c10c9947f24588de71f", func := "whorl/whorllaw9.NecklaceParts", spec := "necklaceParts", inPlace := ["internal/bytealg.Compare"], unfollowed := true, recurses := true, apart := false, narrowed := true }
def NecklacePartsUptoSaid : Prop := necklacePartsUptoRow.holds Try.pinned (OpenSpec.upto necklacePartsSpec)

end Rows
end Go.Proofs.Ytjccpkekhjhafaa
