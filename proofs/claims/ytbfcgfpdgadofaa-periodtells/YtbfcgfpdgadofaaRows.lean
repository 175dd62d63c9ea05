/-
  No cell of these rows narrows 'for every input' (looked for: loops, veiled, ifaces, maps, wideKeys, modest, calm, conditions, laid).
  DERIVED. THE GIVEN ROWS OF THIS SEAT. 5 by the template 'for every input the law returns true; each argument reads behind the call as it read before'; 0 by the template 'total and deterministic' (their statements: YtbfcgfpdgadofaaTotals.lean).
  GIVEN WITH THE SEED: the statements are not yours to turn. If you find one false, say at which input.
  Laid BY PROGRAM, IN A SANDBOX (cutbox-rows.mjs): the forced cells as the released guide's own fill.sh prints them over the translation 1d5c7d43e26a954c… (all of the seat's roots in one cut). By AI agents, Wed Nov 11 2026. No macro, syntax, notation, axiom, sorry.
-/
import Derived.Test.YtbfcgfpdgadofaaChecked
import GoSem.Claim
import GoSem.ClaimJoined
import GoSem.ClaimMapViews
import Derived.JoinedTies
import Derived.KernelRfl
namespace Go.Proofs.Ytbfcgfpdgadofaa
/- THE CELL 'sum', in the pinned program and in every row, IS THE sha256 OF THE DUMP (.gsa) THAT YtbfcgfpdgadofaaProg.lean LOADS. Nothing in Lean hashes anything: it is a label: what it is worth is what the hold of that sum in a sandbox is worth. -/
noncomputable def Try.pinned : Pinned := { name := "ytbfcgfpdgadofaa", sum := "1d5c7d43e26a954c9a14f2ceb689e8fcc21c081cb1f1b31459a86bb072778fc4", checked := Try.checked }
namespace Rows
def none {H : Type} : Left H := { results := [], args := [] }

/-- 'whorllaw5.PeriodTells': WHATEVER THE INPUT: true; the input reads as it did. -/
def periodTellsSpec : ChangeSpec := { name := "periodTells", fn := fun _ => fun
  | [d] => { results := [.lit (.bool true)], args := [d] }
  | _ => none }
def periodTellsRow : OpenClaim := { program := "ytbfcgfpdgadofaa", sum := "1d5c7d43e26a954c9a14f2ceb689e8fcc21c081cb1f1b31459a86bb072778fc4", func := "whorl/whorllaw5.PeriodTells", spec := "periodTells", apart := false }
def PeriodTellsSaid : Prop := periodTellsRow.holds Try.pinned (OpenSpec.ofChange periodTellsSpec)

/-- ITS FALSE NEIGHBOUR: 'it returns false'. Refute it at one input. -/
def periodTellsWrong : ChangeSpec := { name := "periodTells", fn := fun _ => fun
  | [d] => { results := [.lit (.bool false)], args := [d] }
  | _ => none }
def PeriodTellsWrongFalsely : Prop := periodTellsRow.holds Try.pinned (OpenSpec.ofChange periodTellsWrong)

/-- 'whorllaw5.PeriodTimes': WHATEVER THE INPUT: true; the input reads as it did. -/
def periodTimesSpec : ChangeSpec := { name := "periodTimes", fn := fun _ => fun
  | [d1, d2] => { results := [.lit (.bool true)], args := [d1, d2] }
  | _ => none }
def periodTimesRow : OpenClaim := { program := "ytbfcgfpdgadofaa", sum := "1d5c7d43e26a954c9a14f2ceb689e8fcc21c081cb1f1b31459a86bb072778fc4", func := "whorl/whorllaw5.PeriodTimes", spec := "periodTimes", apart := false }
def PeriodTimesSaid : Prop := periodTimesRow.holds Try.pinned (OpenSpec.ofChange periodTimesSpec)

/-- ITS FALSE NEIGHBOUR: 'it returns false'. Refute it at one input. -/
def periodTimesWrong : ChangeSpec := { name := "periodTimes", fn := fun _ => fun
  | [d1, d2] => { results := [.lit (.bool false)], args := [d1, d2] }
  | _ => none }
def PeriodTimesWrongFalsely : Prop := periodTimesRow.holds Try.pinned (OpenSpec.ofChange periodTimesWrong)

/-- 'whorllaw5.PeriodLast': WHATEVER THE INPUT: true; the input reads as it did. -/
def periodLastSpec : ChangeSpec := { name := "periodLast", fn := fun _ => fun
  | [d] => { results := [.lit (.bool true)], args := [d] }
  | _ => none }
def periodLastRow : OpenClaim := { program := "ytbfcgfpdgadofaa", sum := "1d5c7d43e26a954c9a14f2ceb689e8fcc21c081cb1f1b31459a86bb072778fc4", func := "whorl/whorllaw5.PeriodLast", spec := "periodLast", apart := false }
def PeriodLastSaid : Prop := periodLastRow.holds Try.pinned (OpenSpec.ofChange periodLastSpec)

/-- ITS FALSE NEIGHBOUR: 'it returns false'. Refute it at one input. -/
def periodLastWrong : ChangeSpec := { name := "periodLast", fn := fun _ => fun
  | [d] => { results := [.lit (.bool false)], args := [d] }
  | _ => none }
def PeriodLastWrongFalsely : Prop := periodLastRow.holds Try.pinned (OpenSpec.ofChange periodLastWrong)

/-- 'whorllaw5.PeriodOwn': WHATEVER THE INPUT: true; the input reads as it did. -/
def periodOwnSpec : ChangeSpec := { name := "periodOwn", fn := fun _ => fun
  | [d] => { results := [.lit (.bool true)], args := [d] }
  | _ => none }
def periodOwnRow : OpenClaim := { program := "ytbfcgfpdgadofaa", sum := "1d5c7d43e26a954c9a14f2ceb689e8fcc21c081cb1f1b31459a86bb072778fc4", func := "whorl/whorllaw5.PeriodOwn", spec := "periodOwn", apart := false }
def PeriodOwnSaid : Prop := periodOwnRow.holds Try.pinned (OpenSpec.ofChange periodOwnSpec)

/-- ITS FALSE NEIGHBOUR: 'it returns false'. Refute it at one input. -/
def periodOwnWrong : ChangeSpec := { name := "periodOwn", fn := fun _ => fun
  | [d] => { results := [.lit (.bool false)], args := [d] }
  | _ => none }
def PeriodOwnWrongFalsely : Prop := periodOwnRow.holds Try.pinned (OpenSpec.ofChange periodOwnWrong)

/-- 'whorllaw5.PeriodAll': WHATEVER THE INPUT: true; the input reads as it did. -/
def periodAllSpec : ChangeSpec := { name := "periodAll", fn := fun _ => fun
  | [d] => { results := [.lit (.bool true)], args := [d] }
  | _ => none }
def periodAllRow : OpenClaim := { program := "ytbfcgfpdgadofaa", sum := "1d5c7d43e26a954c9a14f2ceb689e8fcc21c081cb1f1b31459a86bb072778fc4", func := "whorl/whorllaw5.PeriodAll", spec := "periodAll", apart := false }
def PeriodAllSaid : Prop := periodAllRow.holds Try.pinned (OpenSpec.ofChange periodAllSpec)

/-- ITS FALSE NEIGHBOUR: 'it returns false'. Refute it at one input. -/
def periodAllWrong : ChangeSpec := { name := "periodAll", fn := fun _ => fun
  | [d] => { results := [.lit (.bool false)], args := [d] }
  | _ => none }
def PeriodAllWrongFalsely : Prop := periodAllRow.holds Try.pinned (OpenSpec.ofChange periodAllWrong)

/- THE SECOND FORM. 'bulk': how many values and letters a reading holds, each counted each time it is reached (what is shared counts as often as it is met; a slice's spare places count too). A statement '..UptoSaid' is the law's where the arguments, and the package variables that the reading takes, are together of bulk at most 1048576: NARROWER than '..Said'. Prove '..Said' where nothing that the law and all that it calls make is longer than what came in: it says more and counts as full. Else prove '..UptoSaid'. A law counts once. -/
mutual
def uptoBulk {H : Type} : DataW H → Nat
  | .lit (.string bytes) => bytes.length + 1
  | .lit _ => 1
  | .nil => 1
  | .ptr d => uptoBulk d + 1
  | .slice elems spare => uptoBulkAll elems + uptoBulkAll spare + 1
  | .agg parts => uptoBulkAll parts + 1
  | .iface _ d => uptoBulk d + 1
  | .map entries => uptoBulkEntries entries + 1
  | .held _ => 1
def uptoBulkAll {H : Type} : List (DataW H) → Nat
  | [] => 0
  | d :: r => uptoBulk d + uptoBulkAll r
def uptoBulkEntries {H : Type} : List (Lit × DataW H) → Nat
  | [] => 0
  | x :: r => uptoBulkEntry x + uptoBulkEntries r
def uptoBulkEntry {H : Type} : Lit × DataW H → Nat
  | (.string bytes, d) => bytes.length + uptoBulk d + 1
  | (_, d) => uptoBulk d + 1
 end
def uptoSmall : (H : Type) → List (DataW H) → Bool := fun _ ds => decide (uptoBulkAll ds ≤ 1048576)
def OpenSpec.upto (s : _root_.Go.ChangeSpec) : _root_.Go.OpenSpec := { _root_.Go.OpenSpec.ofChange s with cond := some uptoSmall }

/-- 'whorllaw5.PeriodTells', WHERE WHAT IT READS IS OF BULK AT MOST 1048576: true; the input reads as it did. -/
def periodTellsUptoRow : OpenClaim := { program := "ytbfcgfpdgadofaa", sum := "1d5c7d43e26a954c9a14f2ceb689e8fcc21c081cb1f1b31459a86bb072778fc4", func := "whorl/whorllaw5.PeriodTells", spec := "periodTells", apart := false, narrowed := true }
def PeriodTellsUptoSaid : Prop := periodTellsUptoRow.holds Try.pinned (OpenSpec.upto periodTellsSpec)

/-- 'whorllaw5.PeriodTimes', WHERE WHAT IT READS IS OF BULK AT MOST 1048576: true; the input reads as it did. -/
def periodTimesUptoRow : OpenClaim := { program := "ytbfcgfpdgadofaa", sum := "1d5c7d43e26a954c9a14f2ceb689e8fcc21c081cb1f1b31459a86bb072778fc4", func := "whorl/whorllaw5.PeriodTimes", spec := "periodTimes", apart := false, narrowed := true }
def PeriodTimesUptoSaid : Prop := periodTimesUptoRow.holds Try.pinned (OpenSpec.upto periodTimesSpec)

/-- 'whorllaw5.PeriodLast', WHERE WHAT IT READS IS OF BULK AT MOST 1048576: true; the input reads as it did. -/
def periodLastUptoRow : OpenClaim := { program := "ytbfcgfpdgadofaa", sum := "1d5c7d43e26a954c9a14f2ceb689e8fcc21c081cb1f1b31459a86bb072778fc4", func := "whorl/whorllaw5.PeriodLast", spec := "periodLast", apart := false, narrowed := true }
def PeriodLastUptoSaid : Prop := periodLastUptoRow.holds Try.pinned (OpenSpec.upto periodLastSpec)

/-- 'whorllaw5.PeriodOwn', WHERE WHAT IT READS IS OF BULK AT MOST 1048576: true; the input reads as it did. -/
def periodOwnUptoRow : OpenClaim := { program := "ytbfcgfpdgadofaa", sum := "1d5c7d43e26a954c9a14f2ceb689e8fcc21c081cb1f1b31459a86bb072778fc4", func := "whorl/whorllaw5.PeriodOwn", spec := "periodOwn", apart := false, narrowed := true }
def PeriodOwnUptoSaid : Prop := periodOwnUptoRow.holds Try.pinned (OpenSpec.upto periodOwnSpec)

/-- 'whorllaw5.PeriodAll', WHERE WHAT IT READS IS OF BULK AT MOST 1048576: true; the input reads as it did. -/
def periodAllUptoRow : OpenClaim := { program := "ytbfcgfpdgadofaa", sum := "1d5c7d43e26a954c9a14f2ceb689e8fcc21c081cb1f1b31459a86bb072778fc4", func := "whorl/whorllaw5.PeriodAll", spec := "periodAll", apart := false, narrowed := true }
def PeriodAllUptoSaid : Prop := periodAllUptoRow.holds Try.pinned (OpenSpec.upto periodAllSpec)

end Rows
end Go.Proofs.Ytbfcgfpdgadofaa
