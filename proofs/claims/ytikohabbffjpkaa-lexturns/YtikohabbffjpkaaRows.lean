/-
  No cell of these rows narrows 'for every input' (looked for: loops, veiled, ifaces, maps, wideKeys, modest, calm, conditions, laid).
  DERIVED. THE GIVEN ROWS OF THIS SEAT. 10 by the template 'for every input the law returns true; each argument reads behind the call as it read before'; 0 by the template 'total and deterministic' (their statements: YtikohabbffjpkaaTotals.lean).
  GIVEN WITH THE SEED: the statements are not yours to turn. If you find one false, say at which input.
  Laid BY PROGRAM, IN A SANDBOX (cutbox-rows.mjs): the forced cells as the released guide's own fill.sh prints them over the translation 87413fcdb6a1ebbc… (all of the seat's roots in one cut). By AI agents, Wed Nov 11 2026. No macro, syntax, notation, axiom, sorry.
-/
import Derived.Test.YtikohabbffjpkaaChecked
import GoSem.Claim
import GoSem.ClaimJoined
import GoSem.ClaimMapViews
import Derived.JoinedTies
import Derived.KernelRfl
namespace Go.Proofs.Ytikohabbffjpkaa
/- THE CELL 'sum', in the pinned program and in every row, IS THE sha256 OF THE DUMP (.gsa) THAT YtikohabbffjpkaaProg.lean LOADS. Nothing in Lean hashes anything: it is a label: what it is worth is what the hold of that sum in a sandbox is worth. -/
noncomputable def Try.pinned : Pinned := { name := "ytikohabbffjpkaa", sum := "87413fcdb6a1ebbcbd3978dfb607d65f144afad93010c1c30b478375369096e0", checked := Try.checked }
namespace Rows
def none {H : Type} : Left H := { results := [], args := [] }

/-- 'whorllaw4.LexCompares': WHATEVER THE INPUT: true; the input reads as it did. -/
def lexComparesSpec : ChangeSpec := { name := "lexCompares", fn := fun _ => fun
  | [d1, d2, d3] => { results := [.lit (.bool true)], args := [d1, d2, d3] }
  | _ => none }
def lexComparesRow : OpenClaim := { program := "ytikohabbffjpkaa", sum := "87413fcdb6a1ebbcbd3978dfb607d65f144afad93010c1c30b478375369096e0", func := "whorl/whorllaw4.LexCompares", spec := "lexCompares", inPlace := ["internal/bytealg.Compare"], apart := false }
def LexComparesSaid : Prop := lexComparesRow.holds Try.pinned (OpenSpec.ofChange lexComparesSpec)

/-- ITS FALSE NEIGHBOUR: 'it returns false'. Refute it at one input. -/
def lexComparesWrong : ChangeSpec := { name := "lexCompares", fn := fun _ => fun
  | [d1, d2, d3] => { results := [.lit (.bool false)], args := [d1, d2, d3] }
  | _ => none }
def LexComparesWrongFalsely : Prop := lexComparesRow.holds Try.pinned (OpenSpec.ofChange lexComparesWrong)

/-- 'whorllaw4.LexOrder': WHATEVER THE INPUT: true; the input reads as it did. -/
def lexOrderSpec : ChangeSpec := { name := "lexOrder", fn := fun _ => fun
  | [d1, d2, d3, d4] => { results := [.lit (.bool true)], args := [d1, d2, d3, d4] }
  | _ => none }
def lexOrderRow : OpenClaim := { program := "ytikohabbffjpkaa", sum := "87413fcdb6a1ebbcbd3978dfb607d65f144afad93010c1c30b478375369096e0", func := "whorl/whorllaw4.LexOrder", spec := "lexOrder", inPlace := ["internal/bytealg.Compare"], apart := false }
def LexOrderSaid : Prop := lexOrderRow.holds Try.pinned (OpenSpec.ofChange lexOrderSpec)

/-- ITS FALSE NEIGHBOUR: 'it returns false'. Refute it at one input. -/
def lexOrderWrong : ChangeSpec := { name := "lexOrder", fn := fun _ => fun
  | [d1, d2, d3, d4] => { results := [.lit (.bool false)], args := [d1, d2, d3, d4] }
  | _ => none }
def LexOrderWrongFalsely : Prop := lexOrderRow.holds Try.pinned (OpenSpec.ofChange lexOrderWrong)

/-- 'whorllaw4.LexNext': WHATEVER THE INPUT: true; the input reads as it did. -/
def lexNextSpec : ChangeSpec := { name := "lexNext", fn := fun _ => fun
  | [d1, d2, d3] => { results := [.lit (.bool true)], args := [d1, d2, d3] }
  | _ => none }
def lexNextRow : OpenClaim := { program := "ytikohabbffjpkaa", sum := "87413fcdb6a1ebbcbd3978dfb607d65f144afad93010c1c30b478375369096e0", func := "whorl/whorllaw4.LexNext", spec := "lexNext", inPlace := ["internal/bytealg.Compare"], apart := false }
def LexNextSaid : Prop := lexNextRow.holds Try.pinned (OpenSpec.ofChange lexNextSpec)

/-- ITS FALSE NEIGHBOUR: 'it returns false'. Refute it at one input. -/
def lexNextWrong : ChangeSpec := { name := "lexNext", fn := fun _ => fun
  | [d1, d2, d3] => { results := [.lit (.bool false)], args := [d1, d2, d3] }
  | _ => none }
def LexNextWrongFalsely : Prop := lexNextRow.holds Try.pinned (OpenSpec.ofChange lexNextWrong)

/-- 'whorllaw4.LexTurns': WHATEVER THE INPUT: true; the input reads as it did. -/
def lexTurnsSpec : ChangeSpec := { name := "lexTurns", fn := fun _ => fun
  | [d1, d2, d3] => { results := [.lit (.bool true)], args := [d1, d2, d3] }
  | _ => none }
def lexTurnsRow : OpenClaim := { program := "ytikohabbffjpkaa", sum := "87413fcdb6a1ebbcbd3978dfb607d65f144afad93010c1c30b478375369096e0", func := "whorl/whorllaw4.LexTurns", spec := "lexTurns", inPlace := ["internal/bytealg.Compare"], apart := false }
def LexTurnsSaid : Prop := lexTurnsRow.holds Try.pinned (OpenSpec.ofChange lexTurnsSpec)

/-- ITS FALSE NEIGHBOUR: 'it returns false'. Refute it at one input. -/
def lexTurnsWrong : ChangeSpec := { name := "lexTurns", fn := fun _ => fun
  | [d1, d2, d3] => { results := [.lit (.bool false)], args := [d1, d2, d3] }
  | _ => none }
def LexTurnsWrongFalsely : Prop := lexTurnsRow.holds Try.pinned (OpenSpec.ofChange lexTurnsWrong)

/-- 'whorllaw17.KasaiTells': WHATEVER THE INPUT: true; the input reads as it did. -/
def kasaiTellsSpec : ChangeSpec := { name := "kasaiTells", fn := fun _ => fun
  | [d1, d2] => { results := [.lit (.bool true)], args := [d1, d2] }
  | _ => none }
def kasaiTellsRow : OpenClaim := { program := "ytikohabbffjpkaa", sum := "87413fcdb6a1ebbcbd3978dfb607d65f144afad93010c1c30b478375369096e0", func := "whorl/whorllaw17.KasaiTells", spec := "kasaiTells", apart := false }
def KasaiTellsSaid : Prop := kasaiTellsRow.holds Try.pinned (OpenSpec.ofChange kasaiTellsSpec)

/-- ITS FALSE NEIGHBOUR: 'it returns false'. Refute it at one input. -/
def kasaiTellsWrong : ChangeSpec := { name := "kasaiTells", fn := fun _ => fun
  | [d1, d2] => { results := [.lit (.bool false)], args := [d1, d2] }
  | _ => none }
def KasaiTellsWrongFalsely : Prop := kasaiTellsRow.holds Try.pinned (OpenSpec.ofChange kasaiTellsWrong)

/-- 'whorllaw17.KasaiOrder': WHATEVER THE INPUT: true; the input reads as it did. -/
def kasaiOrderSpec : ChangeSpec := { name := "kasaiOrder", fn := fun _ => fun
  | [d] => { results := [.lit (.bool true)], args := [d] }
  | _ => none }
def kasaiOrderRow : OpenClaim := { program := "ytikohabbffjpkaa", sum := "87413fcdb6a1ebbcbd3978dfb607d65f144afad93010c1c30b478375369096e0", func := "whorl/whorllaw17.KasaiOrder", spec := "kasaiOrder", apart := false }
def KasaiOrderSaid : Prop := kasaiOrderRow.holds Try.pinned (OpenSpec.ofChange kasaiOrderSpec)

/-- ITS FALSE NEIGHBOUR: 'it returns false'. Refute it at one input. -/
def kasaiOrderWrong : ChangeSpec := { name := "kasaiOrder", fn := fun _ => fun
  | [d] => { results := [.lit (.bool false)], args := [d] }
  | _ => none }
def KasaiOrderWrongFalsely : Prop := kasaiOrderRow.holds Try.pinned (OpenSpec.ofChange kasaiOrderWrong)

/-- 'whorllaw17.KasaiRuns': WHATEVER THE INPUT: true; the input reads as it did. -/
def kasaiRunsSpec : ChangeSpec := { name := "kasaiRuns", fn := fun _ => fun
  | [d1, d2] => { results := [.lit (.bool true)], args := [d1, d2] }
  | _ => none }
def kasaiRunsRow : OpenClaim := { program := "ytikohabbffjpkaa", sum := "87413fcdb6a1ebbcbd3978dfb607d65f144afad93010c1c30b478375369096e0", func := "whorl/whorllaw17.KasaiRuns", spec := "kasaiRuns", apart := false }
def KasaiRunsSaid : Prop := kasaiRunsRow.holds Try.pinned (OpenSpec.ofChange kasaiRunsSpec)

/-- ITS FALSE NEIGHBOUR: 'it returns false'. Refute it at one input. -/
def kasaiRunsWrong : ChangeSpec := { name := "kasaiRuns", fn := fun _ => fun
  | [d1, d2] => { results := [.lit (.bool false)], args := [d1, d2] }
  | _ => none }
def KasaiRunsWrongFalsely : Prop := kasaiRunsRow.holds Try.pinned (OpenSpec.ofChange kasaiRunsWrong)

/-- 'whorllaw18.PhiTells': WHATEVER THE INPUT: true; the input reads as it did. -/
def phiTellsSpec : ChangeSpec := { name := "phiTells", fn := fun _ => fun
  | [d1, d2] => { results := [.lit (.bool true)], args := [d1, d2] }
  | _ => none }
def phiTellsRow : OpenClaim := { program := "ytikohabbffjpkaa", sum := "87413fcdb6a1ebbcbd3978dfb607d65f144afad93010c1c30b478375369096e0", func := "whorl/whorllaw18.PhiTells", spec := "phiTells", apart := false }
def PhiTellsSaid : Prop := phiTellsRow.holds Try.pinned (OpenSpec.ofChange phiTellsSpec)

/-- ITS FALSE NEIGHBOUR: 'it returns false'. Refute it at one input. -/
def phiTellsWrong : ChangeSpec := { name := "phiTells", fn := fun _ => fun
  | [d1, d2] => { results := [.lit (.bool false)], args := [d1, d2] }
  | _ => none }
def PhiTellsWrongFalsely : Prop := phiTellsRow.holds Try.pinned (OpenSpec.ofChange phiTellsWrong)

/-- 'whorllaw18.PhiFalls': WHATEVER THE INPUT: true; the input reads as it did. -/
def phiFallsSpec : ChangeSpec := { name := "phiFalls", fn := fun _ => fun
  | [d] => { results := [.lit (.bool true)], args := [d] }
  | _ => none }
def phiFallsRow : OpenClaim := { program := "ytikohabbffjpkaa", sum := "87413fcdb6a1ebbcbd3978dfb607d65f144afad93010c1c30b478375369096e0", func := "whorl/whorllaw18.PhiFalls", spec := "phiFalls", apart := false }
def PhiFallsSaid : Prop := phiFallsRow.holds Try.pinned (OpenSpec.ofChange phiFallsSpec)

/-- ITS FALSE NEIGHBOUR: 'it returns false'. Refute it at one input. -/
def phiFallsWrong : ChangeSpec := { name := "phiFalls", fn := fun _ => fun
  | [d] => { results := [.lit (.bool false)], args := [d] }
  | _ => none }
def PhiFallsWrongFalsely : Prop := phiFallsRow.holds Try.pinned (OpenSpec.ofChange phiFallsWrong)

/-- 'whorllaw18.PhiAhead': WHATEVER THE INPUT: true; the input reads as it did. -/
def phiAheadSpec : ChangeSpec := { name := "phiAhead", fn := fun _ => fun
  | [d] => { results := [.lit (.bool true)], args := [d] }
  | _ => none }
def phiAheadRow : OpenClaim := { program := "ytikohabbffjpkaa", sum := "87413fcdb6a1ebbcbd3978dfb607d65f144afad93010c1c30b478375369096e0", func := "whorl/whorllaw18.PhiAhead", spec := "phiAhead", apart := false }
def PhiAheadSaid : Prop := phiAheadRow.holds Try.pinned (OpenSpec.ofChange phiAheadSpec)

/-- ITS FALSE NEIGHBOUR: 'it returns false'. Refute it at one input. -/
def phiAheadWrong : ChangeSpec := { name := "phiAhead", fn := fun _ => fun
  | [d] => { results := [.lit (.bool false)], args := [d] }
  | _ => none }
def PhiAheadWrongFalsely : Prop := phiAheadRow.holds Try.pinned (OpenSpec.ofChange phiAheadWrong)

/- THE SECOND FORM. 'bulk': how many values and letters a reading holds, each counted each time it is reached (what is shared counts as often as it is met; a slice's spare places count too). A statement '..UptoSaid' is the law's where the arguments, and the package variables that the reading takes, are together of bulk at most 1048576: NARROWER than '..Said'. Prove '..Said' where nothing that the law and all that it calls make is longer than what came in: it says more and counts as full. Else prove '..UptoSaid'. A law counts once. -/
mutual
def uptoBulk {H : Type} : DataW H → Nat
  | .lit (.string bytes) => bytes.length + 1
  | .lit _ => 1
  | .nil => 1
  | .ptr d => uptoBulk d + 1
  | .slice elems spare => uptoBulkAll elems + uptoBulkAll spare + 1
  | .agg parts => uptoBulkAll parts + 1
  | .iface _ d => uptoBulk d + 1
  | .map entries => uptoBulkEntries entries + 1
  | .held _ => 1
def uptoBulkAll {H : Type} : List (DataW H) → Nat
  | [] => 0
  | d :: r => uptoBulk d + uptoBulkAll r
def uptoBulkEntries {H : Type} : List (Lit × DataW H) → Nat
  | [] => 0
  | x :: r => uptoBulkEntry x + uptoBulkEntries r
def uptoBulkEntry {H : Type} : Lit × DataW H → Nat
  | (.string bytes, d) => bytes.length + uptoBulk d + 1
  | (_, d) => uptoBulk d + 1
 end
def uptoSmall : (H : Type) → List (DataW H) → Bool := fun _ ds => decide (uptoBulkAll ds ≤ 1048576)
def OpenSpec.upto (s : _root_.Go.ChangeSpec) : _root_.Go.OpenSpec := { _root_.Go.OpenSpec.ofChange s with cond := some uptoSmall }

/-- 'whorllaw4.LexCompares', WHERE WHAT IT READS IS OF BULK AT MOST 1048576: true; the input reads as it did. -/
def lexComparesUptoRow : OpenClaim := { program := "ytikohabbffjpkaa", sum := "87413fcdb6a1ebbcbd3978dfb607d65f144afad93010c1c30b478375369096e0", func := "whorl/whorllaw4.LexCompares", spec := "lexCompares", inPlace := ["internal/bytealg.Compare"], apart := false, narrowed := true }
def LexComparesUptoSaid : Prop := lexComparesUptoRow.holds Try.pinned (OpenSpec.upto lexComparesSpec)

/-- 'whorllaw4.LexOrder', WHERE WHAT IT READS IS OF BULK AT MOST 1048576: true; the input reads as it did. -/
def lexOrderUptoRow : OpenClaim := { program := "ytikohabbffjpkaa", sum := "87413fcdb6a1ebbcbd3978dfb607d65f144afad93010c1c30b478375369096e0", func := "whorl/whorllaw4.LexOrder", spec := "lexOrder", inPlace := ["internal/bytealg.Compare"], apart := false, narrowed := true }
def LexOrderUptoSaid : Prop := lexOrderUptoRow.holds Try.pinned (OpenSpec.upto lexOrderSpec)

/-- 'whorllaw4.LexNext', WHERE WHAT IT READS IS OF BULK AT MOST 1048576: true; the input reads as it did. -/
def lexNextUptoRow : OpenClaim := { program := "ytikohabbffjpkaa", sum := "87413fcdb6a1ebbcbd3978dfb607d65f144afad93010c1c30b478375369096e0", func := "whorl/whorllaw4.LexNext", spec := "lexNext", inPlace := ["internal/bytealg.Compare"], apart := false, narrowed := true }
def LexNextUptoSaid : Prop := lexNextUptoRow.holds Try.pinned (OpenSpec.upto lexNextSpec)

/-- 'whorllaw4.LexTurns', WHERE WHAT IT READS IS OF BULK AT MOST 1048576: true; the input reads as it did. -/
def lexTurnsUptoRow : OpenClaim := { program := "ytikohabbffjpkaa", sum := "87413fcdb6a1ebbcbd3978dfb607d65f144afad93010c1c30b478375369096e0", func := "whorl/whorllaw4.LexTurns", spec := "lexTurns", inPlace := ["internal/bytealg.Compare"], apart := false, narrowed := true }
def LexTurnsUptoSaid : Prop := lexTurnsUptoRow.holds Try.pinned (OpenSpec.upto lexTurnsSpec)

/-- 'whorllaw17.KasaiTells', WHERE WHAT IT READS IS OF BULK AT MOST 1048576: true; the input reads as it did. -/
def kasaiTellsUptoRow : OpenClaim := { program := "ytikohabbffjpkaa", sum := "87413fcdb6a1ebbcbd3978dfb607d65f144afad93010c1c30b478375369096e0", func := "whorl/whorllaw17.KasaiTells", spec := "kasaiTells", apart := false, narrowed := true }
def KasaiTellsUptoSaid : Prop := kasaiTellsUptoRow.holds Try.pinned (OpenSpec.upto kasaiTellsSpec)

/-- 'whorllaw17.KasaiOrder', WHERE WHAT IT READS IS OF BULK AT MOST 1048576: true; the input reads as it did. -/
def kasaiOrderUptoRow : OpenClaim := { program := "ytikohabbffjpkaa", sum := "87413fcdb6a1ebbcbd3978dfb607d65f144afad93010c1c30b478375369096e0", func := "whorl/whorllaw17.KasaiOrder", spec := "kasaiOrder", apart := false, narrowed := true }
def KasaiOrderUptoSaid : Prop := kasaiOrderUptoRow.holds Try.pinned (OpenSpec.upto kasaiOrderSpec)

/-- 'whorllaw17.KasaiRuns', WHERE WHAT IT READS IS OF BULK AT MOST 1048576: true; the input reads as it did. -/
def kasaiRunsUptoRow : OpenClaim := { program := "ytikohabbffjpkaa", sum := "87413fcdb6a1ebbcbd3978dfb607d65f144afad93010c1c30b478375369096e0", func := "whorl/whorllaw17.KasaiRuns", spec := "kasaiRuns", apart := false, narrowed := true }
def KasaiRunsUptoSaid : Prop := kasaiRunsUptoRow.holds Try.pinned (OpenSpec.upto kasaiRunsSpec)

/-- 'whorllaw18.PhiTells', WHERE WHAT IT READS IS OF BULK AT MOST 1048576: true; the input reads as it did. -/
def phiTellsUptoRow : OpenClaim := { program := "ytikohabbffjpkaa", sum := "87413fcdb6a1ebbcbd3978dfb607d65f144afad93010c1c30b478375369096e0", func := "whorl/whorllaw18.PhiTells", spec := "phiTells", apart := false, narrowed := true }
def PhiTellsUptoSaid : Prop := phiTellsUptoRow.holds Try.pinned (OpenSpec.upto phiTellsSpec)

/-- 'whorllaw18.PhiFalls', WHERE WHAT IT READS IS OF BULK AT MOST 1048576: true; the input reads as it did. -/
def phiFallsUptoRow : OpenClaim := { program := "ytikohabbffjpkaa", sum := "87413fcdb6a1ebbcbd3978dfb607d65f144afad93010c1c30b478375369096e0", func := "whorl/whorllaw18.PhiFalls", spec := "phiFalls", apart := false, narrowed := true }
def PhiFallsUptoSaid : Prop := phiFallsUptoRow.holds Try.pinned (OpenSpec.upto phiFallsSpec)

/-- 'whorllaw18.PhiAhead', WHERE WHAT IT READS IS OF BULK AT MOST 1048576: true; the input reads as it did. -/
def phiAheadUptoRow : OpenClaim := { program := "ytikohabbffjpkaa", sum := "87413fcdb6a1ebbcbd3978dfb607d65f144afad93010c1c30b478375369096e0", func := "whorl/whorllaw18.PhiAhead", spec := "phiAhead", apart := false, narrowed := true }
def PhiAheadUptoSaid : Prop := phiAheadUptoRow.holds Try.pinned (OpenSpec.upto phiAheadSpec)

end Rows
end Go.Proofs.Ytikohabbffjpkaa
