/-
  No cell of these rows narrows 'for every input' (looked for: loops, veiled, ifaces, maps, wideKeys, modest, calm, conditions, laid).
  DERIVED. THE GIVEN ROWS OF THIS SEAT. 5 by the template 'for every input the law returns true; each argument reads behind the call as it read before'; 0 by the template 'total and deterministic' (their statements: YtabgbioocfdjiaaTotals.lean).
  GIVEN WITH THE SEED: the statements are not yours to turn. If you find one false, say at which input.
  Laid BY PROGRAM, IN A SANDBOX (cutbox-rows.mjs): the forced cells as the released guide's own fill.sh prints them over the translation d480e104dffa1b63… (all of the seat's roots in one cut). By AI agents, Wed Nov 11 2026. No macro, syntax, notation, axiom, sorry.
-/
import Derived.Test.YtabgbioocfdjiaaChecked
import GoSem.Claim
import GoSem.ClaimJoined
import GoSem.ClaimMapViews
import Derived.JoinedTies
import Derived.KernelRfl
namespace Go.Proofs.Ytabgbioocfdjiaa
/- THE CELL 'sum', in the pinned program and in every row, IS THE sha256 OF THE DUMP (.gsa) THAT YtabgbioocfdjiaaProg.lean LOADS. Nothing in Lean hashes anything: it is a label: what it is worth is what the hold of that sum in a sandbox is worth. -/
noncomputable def Try.pinned : Pinned := { name := "ytabgbioocfdjiaa", sum := "d480e104dffa1b63859beb5f2d26a7f05619c2fc4c7d9714fba31069b7fd4887", checked := Try.checked }
namespace Rows
def none {H : Type} : Left H := { results := [], args := [] }

/-- 'whorllaw13.SaisInts': WHATEVER THE INPUT: true; the input reads as it did. -/
def saisIntsSpec : ChangeSpec := { name := "saisInts", fn := fun _ => fun
  | [d1, d2] => { results := [.lit (.bool true)], args := [d1, d2] }
  | _ => none }
def saisIntsRow : OpenClaim := { program := "ytabgbioocfdjiaa", sum := "d480e104dffa1b63859beb5f2d26a7f05619c2fc4c7d9714fba31069b7fd4887", func := "whorl/whorllaw13.SaisInts", spec := "saisInts", recurses := true, apart := false }
def SaisIntsSaid : Prop := saisIntsRow.holds Try.pinned (OpenSpec.ofChange saisIntsSpec)

/-- ITS FALSE NEIGHBOUR: 'it returns false'. Refute it at one input. -/
def saisIntsWrong : ChangeSpec := { name := "saisInts", fn := fun _ => fun
  | [d1, d2] => { results := [.lit (.bool false)], args := [d1, d2] }
  | _ => none }
def SaisIntsWrongFalsely : Prop := saisIntsRow.holds Try.pinned (OpenSpec.ofChange saisIntsWrong)

/-- 'whorllaw13.SaisBytes': WHATEVER THE INPUT: true; the input reads as it did. -/
def saisBytesSpec : ChangeSpec := { name := "saisBytes", fn := fun _ => fun
  | [d] => { results := [.lit (.bool true)], args := [d] }
  | _ => none }
def saisBytesRow : OpenClaim := { program := "ytabgbioocfdjiaa", sum := "d480e104dffa1b63859beb5f2d26a7f05619c2fc4c7d9714fba31069b7fd4887", func := "whorl/whorllaw13.SaisBytes", spec := "saisBytes", recurses := true, apart := false }
def SaisBytesSaid : Prop := saisBytesRow.holds Try.pinned (OpenSpec.ofChange saisBytesSpec)

/-- ITS FALSE NEIGHBOUR: 'it returns false'. Refute it at one input. -/
def saisBytesWrong : ChangeSpec := { name := "saisBytes", fn := fun _ => fun
  | [d] => { results := [.lit (.bool false)], args := [d] }
  | _ => none }
def SaisBytesWrongFalsely : Prop := saisBytesRow.holds Try.pinned (OpenSpec.ofChange saisBytesWrong)

/-- 'whorllaw13.SaisRuns': WHATEVER THE INPUT: true; the input reads as it did. -/
def saisRunsSpec : ChangeSpec := { name := "saisRuns", fn := fun _ => fun
  | [d1, d2, d3] => { results := [.lit (.bool true)], args := [d1, d2, d3] }
  | _ => none }
def saisRunsRow : OpenClaim := { program := "ytabgbioocfdjiaa", sum := "d480e104dffa1b63859beb5f2d26a7f05619c2fc4c7d9714fba31069b7fd4887", func := "whorl/whorllaw13.SaisRuns", spec := "saisRuns", recurses := true, apart := false }
def SaisRunsSaid : Prop := saisRunsRow.holds Try.pinned (OpenSpec.ofChange saisRunsSpec)

/-- ITS FALSE NEIGHBOUR: 'it returns false'. Refute it at one input. -/
def saisRunsWrong : ChangeSpec := { name := "saisRuns", fn := fun _ => fun
  | [d1, d2, d3] => { results := [.lit (.bool false)], args := [d1, d2, d3] }
  | _ => none }
def SaisRunsWrongFalsely : Prop := saisRunsRow.holds Try.pinned (OpenSpec.ofChange saisRunsWrong)

/-- 'whorllaw13.SaisLong': WHATEVER THE INPUT: true; the input reads as it did. -/
def saisLongSpec : ChangeSpec := { name := "saisLong", fn := fun _ => fun
  | [d] => { results := [.lit (.bool true)], args := [d] }
  | _ => none }
def saisLongRow : OpenClaim := { program := "ytabgbioocfdjiaa", sum := "d480e104dffa1b63859beb5f2d26a7f05619c2fc4c7d9714fba31069b7fd4887", func := "whorl/whorllaw13.SaisLong", spec := "saisLong", recurses := true, apart := false }
def SaisLongSaid : Prop := saisLongRow.holds Try.pinned (OpenSpec.ofChange saisLongSpec)

/-- ITS FALSE NEIGHBOUR: 'it returns false'. Refute it at one input. -/
def saisLongWrong : ChangeSpec := { name := "saisLong", fn := fun _ => fun
  | [d] => { results := [.lit (.bool false)], args := [d] }
  | _ => none }
def SaisLongWrongFalsely : Prop := saisLongRow.holds Try.pinned (OpenSpec.ofChange saisLongWrong)

/-- 'whorllaw13.SaisSpread': WHATEVER THE INPUT: true; the input reads as it did. -/
def saisSpreadSpec : ChangeSpec := { name := "saisSpread", fn := fun _ => fun
  | [d1, d2, d3] => { results := [.lit (.bool true)], args := [d1, d2, d3] }
  | _ => none }
def saisSpreadRow : OpenClaim := { program := "ytabgbioocfdjiaa", sum := "d480e104dffa1b63859beb5f2d26a7f05619c2fc4c7d9714fba31069b7fd4887", func := "whorl/whorllaw13.SaisSpread", spec := "saisSpread", recurses := true, apart := false }
def SaisSpreadSaid : Prop := saisSpreadRow.holds Try.pinned (OpenSpec.ofChange saisSpreadSpec)

/-- ITS FALSE NEIGHBOUR: 'it returns false'. Refute it at one input. -/
def saisSpreadWrong : ChangeSpec := { name := "saisSpread", fn := fun _ => fun
  | [d1, d2, d3] => { results := [.lit (.bool false)], args := [d1, d2, d3] }
  | _ => none }
def SaisSpreadWrongFalsely : Prop := saisSpreadRow.holds Try.pinned (OpenSpec.ofChange saisSpreadWrong)

/- THE SECOND FORM. 'bulk': how many values and letters a reading holds, each counted each time it is reached (what is shared counts as often as it is met; a slice's spare places count too). A statement '..UptoSaid' is the law's where the arguments, and the package variables that the reading takes, are together of bulk at most 1048576: NARROWER than '..Said'. Prove '..Said' where nothing that the law and all that it calls make is longer than what came in: it says more and counts as full. Else prove '..UptoSaid'. A law counts once. -/
mutual
def uptoBulk {H : Type} : DataW H → Nat
  | .lit (.string bytes) => bytes.length + 1
  | .lit _ => 1
  | .nil => 1
  | .ptr d => uptoBulk d + 1
  | .slice elems spare => uptoBulkAll elems + uptoBulkAll spare + 1
  | .agg parts => uptoBulkAll parts + 1
  | .iface _ d => uptoBulk d + 1
  | .map entries => uptoBulkEntries entries + 1
  | .held _ => 1
def uptoBulkAll {H : Type} : List (DataW H) → Nat
  | [] => 0
  | d :: r => uptoBulk d + uptoBulkAll r
def uptoBulkEntries {H : Type} : List (Lit × DataW H) → Nat
  | [] => 0
  | x :: r => uptoBulkEntry x + uptoBulkEntries r
def uptoBulkEntry {H : Type} : Lit × DataW H → Nat
  | (.string bytes, d) => bytes.length + uptoBulk d + 1
  | (_, d) => uptoBulk d + 1
 end
def uptoSmall : (H : Type) → List (DataW H) → Bool := fun _ ds => decide (uptoBulkAll ds ≤ 1048576)
def OpenSpec.upto (s : _root_.Go.ChangeSpec) : _root_.Go.OpenSpec := { _root_.Go.OpenSpec.ofChange s with cond := some uptoSmall }

/-- 'whorllaw13.SaisInts', WHERE WHAT IT READS IS OF BULK AT MOST 1048576: true; the input reads as it did. -/
def saisIntsUptoRow : OpenClaim := { program := "ytabgbioocfdjiaa", sum := "d480e104dffa1b63859beb5f2d26a7f05619c2fc4c7d9714fba31069b7fd4887", func := "whorl/whorllaw13.SaisInts", spec := "saisInts", recurses := true, apart := false, narrowed := true }
def SaisIntsUptoSaid : Prop := saisIntsUptoRow.holds Try.pinned (OpenSpec.upto saisIntsSpec)

/-- 'whorllaw13.SaisBytes', WHERE WHAT IT READS IS OF BULK AT MOST 1048576: true; the input reads as it did. -/
def saisBytesUptoRow : OpenClaim := { program := "ytabgbioocfdjiaa", sum := "d480e104dffa1b63859beb5f2d26a7f05619c2fc4c7d9714fba31069b7fd4887", func := "whorl/whorllaw13.SaisBytes", spec := "saisBytes", recurses := true, apart := false, narrowed := true }
def SaisBytesUptoSaid : Prop := saisBytesUptoRow.holds Try.pinned (OpenSpec.upto saisBytesSpec)

/-- 'whorllaw13.SaisRuns', WHERE WHAT IT READS IS OF BULK AT MOST 1048576: true; the input reads as it did. -/
def saisRunsUptoRow : OpenClaim := { program := "ytabgbioocfdjiaa", sum := "d480e104dffa1b63859beb5f2d26a7f05619c2fc4c7d9714fba31069b7fd4887", func := "whorl/whorllaw13.SaisRuns", spec := "saisRuns", recurses := true, apart := false, narrowed := true }
def SaisRunsUptoSaid : Prop := saisRunsUptoRow.holds Try.pinned (OpenSpec.upto saisRunsSpec)

/-- 'whorllaw13.SaisLong', WHERE WHAT IT READS IS OF BULK AT MOST 1048576: true; the input reads as it did. -/
def saisLongUptoRow : OpenClaim := { program := "ytabgbioocfdjiaa", sum := "d480e104dffa1b63859beb5f2d26a7f05619c2fc4c7d9714fba31069b7fd4887", func := "whorl/whorllaw13.SaisLong", spec := "saisLong", recurses := true, apart := false, narrowed := true }
def SaisLongUptoSaid : Prop := saisLongUptoRow.holds Try.pinned (OpenSpec.upto saisLongSpec)

/-- 'whorllaw13.SaisSpread', WHERE WHAT IT READS IS OF BULK AT MOST 1048576: true; the input reads as it did. -/
def saisSpreadUptoRow : OpenClaim := { program := "ytabgbioocfdjiaa", sum := "d480e104dffa1b63859beb5f2d26a7f05619c2fc4c7d9714fba31069b7fd4887", func := "whorl/whorllaw13.SaisSpread", spec := "saisSpread", recurses := true, apart := false, narrowed := true }
def SaisSpreadUptoSaid : Prop := saisSpreadUptoRow.holds Try.pinned (OpenSpec.upto saisSpreadSpec)

end Rows
end Go.Proofs.Ytabgbioocfdjiaa
