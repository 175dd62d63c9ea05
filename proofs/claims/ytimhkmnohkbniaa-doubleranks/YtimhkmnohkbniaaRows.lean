/-
  No cell of these rows narrows 'for every input' (looked for: loops, veiled, ifaces, maps, wideKeys, modest, calm, conditions, laid).
  DERIVED. THE GIVEN ROWS OF THIS SEAT. 7 by the template 'for every input the law returns true; each argument reads behind the call as it read before'; 0 by the template 'total and deterministic' (their statements: YtimhkmnohkbniaaTotals.lean).
  GIVEN WITH THE SEED: the statements are not yours to turn. If you find one false, say at which input.
  Laid BY PROGRAM, IN A SANDBOX (cutbox-rows.mjs): the forced cells as the released guide's own fill.sh prints them over the translation c33559fe95645286… (all of the seat's roots in one cut). By AI agents, Wed Nov 11 2026. No macro, syntax, notation, axiom, sorry.
-/
import Derived.Test.YtimhkmnohkbniaaChecked
import GoSem.Claim
import GoSem.ClaimJoined
import GoSem.ClaimMapViews
import Derived.JoinedTies
import Derived.KernelRfl
namespace Go.Proofs.Ytimhkmnohkbniaa
/- THE CELL 'sum', in the pinned program and in every row, IS THE sha256 OF THE DUMP (.gsa) THAT YtimhkmnohkbniaaProg.lean LOADS. Nothing in Lean hashes anything: it is a label: what it is worth is what the hold of that sum in a sandbox is worth. -/
noncomputable def Try.pinned : Pinned := { name := "ytimhkmnohkbniaa", sum := "c33559fe95645286b73ff500eedb7710e137b6d124162b9078f4f8e2bc659449", checked := Try.checked }
namespace Rows
def none {H : Type} : Left H := { results := [], args := [] }

/-- 'whorllaw15.DoubleInts': WHATEVER THE INPUT: true; the input reads as it did. -/
def doubleIntsSpec : ChangeSpec := { name := "doubleInts", fn := fun _ => fun
  | [d1, d2] => { results := [.lit (.bool true)], args := [d1, d2] }
  | _ => none }
def doubleIntsRow : OpenClaim := { program := "ytimhkmnohkbniaa", sum := "c33559fe95645286b73ff500eedb7710e137b6d124162b9078f4f8e2bc659449", func := "whorl/whorllaw15.DoubleInts", spec := "doubleInts", apart := false }
def DoubleIntsSaid : Prop := doubleIntsRow.holds Try.pinned (OpenSpec.ofChange doubleIntsSpec)

/-- ITS FALSE NEIGHBOUR: 'it returns false'. Refute it at one input. -/
def doubleIntsWrong : ChangeSpec := { name := "doubleInts", fn := fun _ => fun
  | [d1, d2] => { results := [.lit (.bool false)], args := [d1, d2] }
  | _ => none }
def DoubleIntsWrongFalsely : Prop := doubleIntsRow.holds Try.pinned (OpenSpec.ofChange doubleIntsWrong)

/-- 'whorllaw15.DoubleBytes': WHATEVER THE INPUT: true; the input reads as it did. -/
def doubleBytesSpec : ChangeSpec := { name := "doubleBytes", fn := fun _ => fun
  | [d] => { results := [.lit (.bool true)], args := [d] }
  | _ => none }
def doubleBytesRow : OpenClaim := { program := "ytimhkmnohkbniaa", sum := "c33559fe95645286b73ff500eedb7710e137b6d124162b9078f4f8e2bc659449", func := "whorl/whorllaw15.DoubleBytes", spec := "doubleBytes", apart := false }
def DoubleBytesSaid : Prop := doubleBytesRow.holds Try.pinned (OpenSpec.ofChange doubleBytesSpec)

/-- ITS FALSE NEIGHBOUR: 'it returns false'. Refute it at one input. -/
def doubleBytesWrong : ChangeSpec := { name := "doubleBytes", fn := fun _ => fun
  | [d] => { results := [.lit (.bool false)], args := [d] }
  | _ => none }
def DoubleBytesWrongFalsely : Prop := doubleBytesRow.holds Try.pinned (OpenSpec.ofChange doubleBytesWrong)

/-- 'whorllaw15.DoubleRuns': WHATEVER THE INPUT: true; the input reads as it did. -/
def doubleRunsSpec : ChangeSpec := { name := "doubleRuns", fn := fun _ => fun
  | [d1, d2, d3] => { results := [.lit (.bool true)], args := [d1, d2, d3] }
  | _ => none }
def doubleRunsRow : OpenClaim := { program := "ytimhkmnohkbniaa", sum := "c33559fe95645286b73ff500eedb7710e137b6d124162b9078f4f8e2bc659449", func := "whorl/whorllaw15.DoubleRuns", spec := "doubleRuns", apart := false }
def DoubleRunsSaid : Prop := doubleRunsRow.holds Try.pinned (OpenSpec.ofChange doubleRunsSpec)

/-- ITS FALSE NEIGHBOUR: 'it returns false'. Refute it at one input. -/
def doubleRunsWrong : ChangeSpec := { name := "doubleRuns", fn := fun _ => fun
  | [d1, d2, d3] => { results := [.lit (.bool false)], args := [d1, d2, d3] }
  | _ => none }
def DoubleRunsWrongFalsely : Prop := doubleRunsRow.holds Try.pinned (OpenSpec.ofChange doubleRunsWrong)

/-- 'whorllaw15.DoubleLong': WHATEVER THE INPUT: true; the input reads as it did. -/
def doubleLongSpec : ChangeSpec := { name := "doubleLong", fn := fun _ => fun
  | [d] => { results := [.lit (.bool true)], args := [d] }
  | _ => none }
def doubleLongRow : OpenClaim := { program := "ytimhkmnohkbniaa", sum := "c33559fe95645286b73ff500eedb7710e137b6d124162b9078f4f8e2bc659449", func := "whorl/whorllaw15.DoubleLong", spec := "doubleLong", apart := false }
def DoubleLongSaid : Prop := doubleLongRow.holds Try.pinned (OpenSpec.ofChange doubleLongSpec)

/-- ITS FALSE NEIGHBOUR: 'it returns false'. Refute it at one input. -/
def doubleLongWrong : ChangeSpec := { name := "doubleLong", fn := fun _ => fun
  | [d] => { results := [.lit (.bool false)], args := [d] }
  | _ => none }
def DoubleLongWrongFalsely : Prop := doubleLongRow.holds Try.pinned (OpenSpec.ofChange doubleLongWrong)

/-- 'whorllaw15.DoubleRanks': WHATEVER THE INPUT: true; the input reads as it did. -/
def doubleRanksSpec : ChangeSpec := { name := "doubleRanks", fn := fun _ => fun
  | [d1, d2] => { results := [.lit (.bool true)], args := [d1, d2] }
  | _ => none }
def doubleRanksRow : OpenClaim := { program := "ytimhkmnohkbniaa", sum := "c33559fe95645286b73ff500eedb7710e137b6d124162b9078f4f8e2bc659449", func := "whorl/whorllaw15.DoubleRanks", spec := "doubleRanks", recurses := true, apart := false }
def DoubleRanksSaid : Prop := doubleRanksRow.holds Try.pinned (OpenSpec.ofChange doubleRanksSpec)

/-- ITS FALSE NEIGHBOUR: 'it returns false'. Refute it at one input. -/
def doubleRanksWrong : ChangeSpec := { name := "doubleRanks", fn := fun _ => fun
  | [d1, d2] => { results := [.lit (.bool false)], args := [d1, d2] }
  | _ => none }
def DoubleRanksWrongFalsely : Prop := doubleRanksRow.holds Try.pinned (OpenSpec.ofChange doubleRanksWrong)

/-- 'whorllaw15.DoubleTwice': WHATEVER THE INPUT: true; the input reads as it did. -/
def doubleTwiceSpec : ChangeSpec := { name := "doubleTwice", fn := fun _ => fun
  | [d1, d2] => { results := [.lit (.bool true)], args := [d1, d2] }
  | _ => none }
def doubleTwiceRow : OpenClaim := { program := "ytimhkmnohkbniaa", sum := "c33559fe95645286b73ff500eedb7710e137b6d124162b9078f4f8e2bc659449", func := "whorl/whorllaw15.DoubleTwice", spec := "doubleTwice", recurses := true, apart := false }
def DoubleTwiceSaid : Prop := doubleTwiceRow.holds Try.pinned (OpenSpec.ofChange doubleTwiceSpec)

/-- ITS FALSE NEIGHBOUR: 'it returns false'. Refute it at one input. -/
def doubleTwiceWrong : ChangeSpec := { name := "doubleTwice", fn := fun _ => fun
  | [d1, d2] => { results := [.lit (.bool false)], args := [d1, d2] }
  | _ => none }
def DoubleTwiceWrongFalsely : Prop := doubleTwiceRow.holds Try.pinned (OpenSpec.ofChange doubleTwiceWrong)

/-- 'whorllaw15.DoubleSpread': WHATEVER THE INPUT: true; the input reads as it did. -/
def doubleSpreadSpec : ChangeSpec := { name := "doubleSpread", fn := fun _ => fun
  | [d1, d2, d3] => { results := [.lit (.bool true)], args := [d1, d2, d3] }
  | _ => none }
def doubleSpreadRow : OpenClaim := { program := "ytimhkmnohkbniaa", sum := "c33559fe95645286b73ff500eedb7710e137b6d124162b9078f4f8e2bc659449", func := "whorl/whorllaw15.DoubleSpread", spec := "doubleSpread", apart := false }
def DoubleSpreadSaid : Prop := doubleSpreadRow.holds Try.pinned (OpenSpec.ofChange doubleSpreadSpec)

/-- ITS FALSE NEIGHBOUR: 'it returns false'. Refute it at one input. -/
def doubleSpreadWrong : ChangeSpec := { name := "doubleSpread", fn := fun _ => fun
  | [d1, d2, d3] => { results := [.lit (.bool false)], args := [d1, d2, d3] }
  | _ => none }
def DoubleSpreadWrongFalsely : Prop := doubleSpreadRow.holds Try.pinned (OpenSpec.ofChange doubleSpreadWrong)

/- THE SECOND FORM. 'bulk': how many values and letters a reading holds, each counted each time it is reached (what is shared counts as often as it is met; a slice's spare places count too). A statement '..UptoSaid' is the law's where the arguments, and the package variables that the reading takes, are together of bulk at most 1048576: NARROWER than '..Said'. Prove '..Said' where nothing that the law and all that it calls make is longer than what came in: it says more and counts as full. Else prove '..UptoSaid'. A law counts once. -/
mutual
def uptoBulk {H : Type} : DataW H → Nat
  | .lit (.string bytes) => bytes.length + 1
  | .lit _ => 1
  | .nil => 1
  | .ptr d => uptoBulk d + 1
  | .slice elems spare => uptoBulkAll elems + uptoBulkAll spare + 1
  | .agg parts => uptoBulkAll parts + 1
  | .iface _ d => uptoBulk d + 1
  | .map entries => uptoBulkEntries entries + 1
  | .held _ => 1
def uptoBulkAll {H : Type} : List (DataW H) → Nat
  | [] => 0
  | d :: r => uptoBulk d + uptoBulkAll r
def uptoBulkEntries {H : Type} : List (Lit × DataW H) → Nat
  | [] => 0
  | x :: r => uptoBulkEntry x + uptoBulkEntries r
def uptoBulkEntry {H : Type} : Lit × DataW H → Nat
  | (.string bytes, d) => bytes.length + uptoBulk d + 1
  | (_, d) => uptoBulk d + 1
 end
def uptoSmall : (H : Type) → List (DataW H) → Bool := fun _ ds => decide (uptoBulkAll ds ≤ 1048576)
def OpenSpec.upto (s : _root_.Go.ChangeSpec) : _root_.Go.OpenSpec := { _root_.Go.OpenSpec.ofChange s with cond := some uptoSmall }

/-- 'whorllaw15.DoubleInts', WHERE WHAT IT READS IS OF BULK AT MOST 1048576: true; the input reads as it did. -/
def doubleIntsUptoRow : OpenClaim := { program := "ytimhkmnohkbniaa", sum := "c33559fe95645286b73ff500eedb7710e137b6d124162b9078f4f8e2bc659449", func := "whorl/whorllaw15.DoubleInts", spec := "doubleInts", apart := false, narrowed := true }
def DoubleIntsUptoSaid : Prop := doubleIntsUptoRow.holds Try.pinned (OpenSpec.upto doubleIntsSpec)

/-- 'whorllaw15.DoubleBytes', WHERE WHAT IT READS IS OF BULK AT MOST 1048576: true; the input reads as it did. -/
def doubleBytesUptoRow : OpenClaim := { program := "ytimhkmnohkbniaa", sum := "c33559fe95645286b73ff500eedb7710e137b6d124162b9078f4f8e2bc659449", func := "whorl/whorllaw15.DoubleBytes", spec := "doubleBytes", apart := false, narrowed := true }
def DoubleBytesUptoSaid : Prop := doubleBytesUptoRow.holds Try.pinned (OpenSpec.upto doubleBytesSpec)

/-- 'whorllaw15.DoubleRuns', WHERE WHAT IT READS IS OF BULK AT MOST 1048576: true; the input reads as it did. -/
def doubleRunsUptoRow : OpenClaim := { program := "ytimhkmnohkbniaa", sum := "c33559fe95645286b73ff500eedb7710e137b6d124162b9078f4f8e2bc659449", func := "whorl/whorllaw15.DoubleRuns", spec := "doubleRuns", apart := false, narrowed := true }
def DoubleRunsUptoSaid : Prop := doubleRunsUptoRow.holds Try.pinned (OpenSpec.upto doubleRunsSpec)

/-- 'whorllaw15.DoubleLong', WHERE WHAT IT READS IS OF BULK AT MOST 1048576: true; the input reads as it did. -/
def doubleLongUptoRow : OpenClaim := { program := "ytimhkmnohkbniaa", sum := "c33559fe95645286b73ff500eedb7710e137b6d124162b9078f4f8e2bc659449", func := "whorl/whorllaw15.DoubleLong", spec := "doubleLong", apart := false, narrowed := true }
def DoubleLongUptoSaid : Prop := doubleLongUptoRow.holds Try.pinned (OpenSpec.upto doubleLongSpec)

/-- 'whorllaw15.DoubleRanks', WHERE WHAT IT READS IS OF BULK AT MOST 1048576: true; the input reads as it did. -/
def doubleRanksUptoRow : OpenClaim := { program := "ytimhkmnohkbniaa", sum := "c33559fe95645286b73ff500eedb7710e137b6d124162b9078f4f8e2bc659449", func := "whorl/whorllaw15.DoubleRanks", spec := "doubleRanks", recurses := true, apart := false, narrowed := true }
def DoubleRanksUptoSaid : Prop := doubleRanksUptoRow.holds Try.pinned (OpenSpec.upto doubleRanksSpec)

/-- 'whorllaw15.DoubleTwice', WHERE WHAT IT READS IS OF BULK AT MOST 1048576: true; the input reads as it did. -/
def doubleTwiceUptoRow : OpenClaim := { program := "ytimhkmnohkbniaa", sum := "c33559fe95645286b73ff500eedb7710e137b6d124162b9078f4f8e2bc659449", func := "whorl/whorllaw15.DoubleTwice", spec := "doubleTwice", recurses := true, apart := false, narrowed := true }
def DoubleTwiceUptoSaid : Prop := doubleTwiceUptoRow.holds Try.pinned (OpenSpec.upto doubleTwiceSpec)

/-- 'whorllaw15.DoubleSpread', WHERE WHAT IT READS IS OF BULK AT MOST 1048576: true; the input reads as it did. -/
def doubleSpreadUptoRow : OpenClaim := { program := "ytimhkmnohkbniaa", sum := "c33559fe95645286b73ff500eedb7710e137b6d124162b9078f4f8e2bc659449", func := "whorl/whorllaw15.DoubleSpread", spec := "doubleSpread", apart := false, narrowed := true }
def DoubleSpreadUptoSaid : Prop := doubleSpreadUptoRow.holds Try.pinned (OpenSpec.upto doubleSpreadSpec)

end Rows
end Go.Proofs.Ytimhkmnohkbniaa
