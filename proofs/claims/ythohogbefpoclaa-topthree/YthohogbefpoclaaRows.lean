/-
  No cell of these rows narrows 'for every input' (looked for: loops, veiled, ifaces, maps, wideKeys, modest, calm, conditions, laid).
  DERIVED. THE GIVEN ROWS OF THIS SEAT. 4 by the template 'for every input the law returns true; each argument reads behind the call as it read before'; 0 by the template 'total and deterministic' (their statements: YthohogbefpoclaaTotals.lean).
  GIVEN WITH THE SEED: the statements are not yours to turn. If you find one false, say at which input.
  Laid BY PROGRAM, IN A SANDBOX (cutbox-rows.mjs): the forced cells as the released guide's own fill.sh prints them over the translation 0dc857dda5533617… (all of the seat's roots in one cut). By AI agents, Wed Nov 11 2026. No macro, syntax, notation, axiom, sorry.
-/
import Derived.Test.YthohogbefpoclaaChecked
import GoSem.Claim
import GoSem.ClaimJoined
import GoSem.ClaimMapViews
import Derived.JoinedTies
import Derived.KernelRfl
namespace Go.Proofs.Ythohogbefpoclaa
/- THE CELL 'sum', in the pinned program and in every row, IS THE sha256 OF THE DUMP (.gsa) THAT YthohogbefpoclaaProg.lean LOADS. Nothing in Lean hashes anything: it is a label: what it is worth is what the hold of that sum in a sandbox is worth. -/
noncomputable def Try.pinned : Pinned := { name := "ythohogbefpoclaa", sum := "0dc857dda55336172b0987a2513897d04afdd5ca66c9184ec5a1377427c0637b", checked := Try.checked }
namespace Rows
def none {H : Type} : Left H := { results := [], args := [] }

/-- 'whorltop.TopThree': WHATEVER THE INPUT: true; the input reads as it did. -/
def topThreeSpec : ChangeSpec := { name := "topThree", fn := fun _ => fun
  | [d] => { results := [.lit (.bool true)], args := [d] }
  | _ => none }
def topThreeRow : OpenClaim := { program := "ythohogbefpoclaa", sum := "0dc857dda55336172b0987a2513897d04afdd5ca66c9184ec5a1377427c0637b", func := "whorl/whorltop.TopThree", spec := "topThree", inPlace := ["sync/atomic.AddInt64"], recurses := true, apart := false }
def TopThreeSaid : Prop := topThreeRow.holds Try.pinned (OpenSpec.ofChange topThreeSpec)

/-- ITS FALSE NEIGHBOUR: 'it returns false'. Refute it at one input. -/
def topThreeWrong : ChangeSpec := { name := "topThree", fn := fun _ => fun
  | [d] => { results := [.lit (.bool false)], args := [d] }
  | _ => none }
def TopThreeWrongFalsely : Prop := topThreeRow.holds Try.pinned (OpenSpec.ofChange topThreeWrong)

/-- 'whorltop.TopNumbers': WHATEVER THE INPUT: true; the input reads as it did. -/
def topNumbersSpec : ChangeSpec := { name := "topNumbers", fn := fun _ => fun
  | [d1, d2] => { results := [.lit (.bool true)], args := [d1, d2] }
  | _ => none }
def topNumbersRow : OpenClaim := { program := "ythohogbefpoclaa", sum := "0dc857dda55336172b0987a2513897d04afdd5ca66c9184ec5a1377427c0637b", func := "whorl/whorltop.TopNumbers", spec := "topNumbers", inPlace := ["sync/atomic.AddInt64"], recurses := true, apart := false }
def TopNumbersSaid : Prop := topNumbersRow.holds Try.pinned (OpenSpec.ofChange topNumbersSpec)

/-- ITS FALSE NEIGHBOUR: 'it returns false'. Refute it at one input. -/
def topNumbersWrong : ChangeSpec := { name := "topNumbers", fn := fun _ => fun
  | [d1, d2] => { results := [.lit (.bool false)], args := [d1, d2] }
  | _ => none }
def TopNumbersWrongFalsely : Prop := topNumbersRow.holds Try.pinned (OpenSpec.ofChange topNumbersWrong)

/-- 'whorltop.TopChecks': WHATEVER THE INPUT: true; the input reads as it did. -/
def topChecksSpec : ChangeSpec := { name := "topChecks", fn := fun _ => fun
  | [d1, d2, d3] => { results := [.lit (.bool true)], args := [d1, d2, d3] }
  | _ => none }
def topChecksRow : OpenClaim := { program := "ythohogbefpoclaa", sum := "0dc857dda55336172b0987a2513897d04afdd5ca66c9184ec5a1377427c0637b", func := "whorl/whorltop.TopChecks", spec := "topChecks", inPlace := ["sync/atomic.AddInt64"], recurses := true, apart := false }
def TopChecksSaid : Prop := topChecksRow.holds Try.pinned (OpenSpec.ofChange topChecksSpec)

/-- ITS FALSE NEIGHBOUR: 'it returns false'. Refute it at one input. -/
def topChecksWrong : ChangeSpec := { name := "topChecks", fn := fun _ => fun
  | [d1, d2, d3] => { results := [.lit (.bool false)], args := [d1, d2, d3] }
  | _ => none }
def TopChecksWrongFalsely : Prop := topChecksRow.holds Try.pinned (OpenSpec.ofChange topChecksWrong)

/-- 'whorltop.TopLCP': WHATEVER THE INPUT: true; the input reads as it did. -/
def topLCPSpec : ChangeSpec := { name := "topLCP", fn := fun _ => fun
  | [d] => { results := [.lit (.bool true)], args := [d] }
  | _ => none }
def topLCPRow : OpenClaim := { program := "ythohogbefpoclaa", sum := "0dc857dda55336172b0987a2513897d04afdd5ca66c9184ec5a1377427c0637b", func := "whorl/whorltop.TopLCP", spec := "topLCP", inPlace := ["sync/atomic.AddInt64"], recurses := true, apart := false }
def TopLCPSaid : Prop := topLCPRow.holds Try.pinned (OpenSpec.ofChange topLCPSpec)

/-- ITS FALSE NEIGHBOUR: 'it returns false'. Refute it at one input. -/
def topLCPWrong : ChangeSpec := { name := "topLCP", fn := fun _ => fun
  | [d] => { results := [.lit (.bool false)], args := [d] }
  | _ => none }
def TopLCPWrongFalsely : Prop := topLCPRow.holds Try.pinned (OpenSpec.ofChange topLCPWrong)

/- THE SECOND FORM. 'bulk': how many values and letters a reading holds, each counted each time it is reached (what is shared counts as often as it is met; a slice's spare places count too). A statement '..UptoSaid' is the law's where the arguments, and the package variables that the reading takes, are together of bulk at most 1048576: NARROWER than '..Said'. Prove '..Said' where nothing that the law and all that it calls make is longer than what came in: it says more and counts as full. Else prove '..UptoSaid'. A law counts once. -/
mutual
def uptoBulk {H : Type} : DataW H → Nat
  | .lit (.string bytes) => bytes.length + 1
  | .lit _ => 1
  | .nil => 1
  | .ptr d => uptoBulk d + 1
  | .slice elems spare => uptoBulkAll elems + uptoBulkAll spare + 1
  | .agg parts => uptoBulkAll parts + 1
  | .iface _ d => uptoBulk d + 1
  | .map entries => uptoBulkEntries entries + 1
  | .held _ => 1
def uptoBulkAll {H : Type} : List (DataW H) → Nat
  | [] => 0
  | d :: r => uptoBulk d + uptoBulkAll r
def uptoBulkEntries {H : Type} : List (Lit × DataW H) → Nat
  | [] => 0
  | x :: r => uptoBulkEntry x + uptoBulkEntries r
def uptoBulkEntry {H : Type} : Lit × DataW H → Nat
  | (.string bytes, d) => bytes.length + uptoBulk d + 1
  | (_, d) => uptoBulk d + 1
 end
def uptoSmall : (H : Type) → List (DataW H) → Bool := fun _ ds => decide (uptoBulkAll ds ≤ 1048576)
def OpenSpec.upto (s : _root_.Go.ChangeSpec) : _root_.Go.OpenSpec := { _root_.Go.OpenSpec.ofChange s with cond := some uptoSmall }

/-- 'whorltop.TopThree', WHERE WHAT IT READS IS OF BULK AT MOST 1048576: true; the input reads as it did. -/
def topThreeUptoRow : OpenClaim := { program := "ythohogbefpoclaa", sum := "0dc857dda55336172b0987a2513897d04afdd5ca66c9184ec5a1377427c0637b", func := "whorl/whorltop.TopThree", spec := "topThree", inPlace := ["sync/atomic.AddInt64"], recurses := true, apart := false, narrowed := true }
def TopThreeUptoSaid : Prop := topThreeUptoRow.holds Try.pinned (OpenSpec.upto topThreeSpec)

/-- 'whorltop.TopNumbers', WHERE WHAT IT READS IS OF BULK AT MOST 1048576: true; the input reads as it did. -/
def topNumbersUptoRow : OpenClaim := { program := "ythohogbefpoclaa", sum := "0dc857dda55336172b0987a2513897d04afdd5ca66c9184ec5a1377427c0637b", func := "whorl/whorltop.TopNumbers", spec := "topNumbers", inPlace := ["sync/atomic.AddInt64"], recurses := true, apart := false, narrowed := true }
def TopNumbersUptoSaid : Prop := topNumbersUptoRow.holds Try.pinned (OpenSpec.upto topNumbersSpec)

/-- 'whorltop.TopChecks', WHERE WHAT IT READS IS OF BULK AT MOST 1048576: true; the input reads as it did. -/
def topChecksUptoRow : OpenClaim := { program := "ythohogbefpoclaa", sum := "0dc857dda55336172b0987a2513897d04afdd5ca66c9184ec5a1377427c0637b", func := "whorl/whorltop.TopChecks", spec := "topChecks", inPlace := ["sync/atomic.AddInt64"], recurses := true, apart := false, narrowed := true }
def TopChecksUptoSaid : Prop := topChecksUptoRow.holds Try.pinned (OpenSpec.upto topChecksSpec)

/-- 'whorltop.TopLCP', WHERE WHAT IT READS IS OF BULK AT MOST 1048576: true; the input reads as it did. -/
def topLCPUptoRow : OpenClaim := { program := "ythohogbefpoclaa", sum := "0dc857dda55336172b0987a2513897d04afdd5ca66c9184ec5a1377427c0637b", func := "whorl/whorltop.TopLCP", spec := "topLCP", inPlace := ["sync/atomic.AddInt64"], recurses := true, apart := false, narrowed := true }
def TopLCPUptoSaid : Prop := topLCPUptoRow.holds Try.pinned (OpenSpec.upto topLCPSpec)

end Rows
end Go.Proofs.Ythohogbefpoclaa
