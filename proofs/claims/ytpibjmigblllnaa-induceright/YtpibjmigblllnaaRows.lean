/-
  No cell of these rows narrows 'for every input' (looked for: loops, veiled, ifaces, maps, wideKeys, modest, calm, conditions, laid).
  DERIVED. THE GIVEN ROWS OF THIS SEAT. 4 by the template 'for every input the law returns true; each argument reads behind the call as it read before'; 0 by the template 'total and deterministic' (their statements: YtpibjmigblllnaaTotals.lean).
  GIVEN WITH THE SEED: the statements are not yours to turn. If you find one false, say at which input.
  Laid BY PROGRAM, IN A SANDBOX (cutbox-rows.mjs): the forced cells as the released guide's own fill.sh prints them over the translation 433ae6f68116ffd6… (all of the seat's roots in one cut). By AI agents, Wed Nov 11 2026. No macro, syntax, notation, axiom, sorry.
-/
import Derived.Test.YtpibjmigblllnaaChecked
import GoSem.Claim
import GoSem.ClaimJoined
import GoSem.ClaimMapViews
import Derived.JoinedTies
import Derived.KernelRfl
namespace Go.Proofs.Ytpibjmigblllnaa
/- THE CELL 'sum', in the pinned program and in every row, IS THE sha256 OF THE DUMP (.gsa) THAT YtpibjmigblllnaaProg.lean LOADS. Nothing in Lean hashes anything: it is a label: what it is worth is what the hold of that sum in a sandbox is worth. -/
noncomputable def Try.pinned : Pinned := { name := "ytpibjmigblllnaa", sum := "433ae6f68116ffd635f5e097686042a6970058a444879740bed1dcf8db7af16f", checked := Try.checked }
namespace Rows
def none {H : Type} : Left H := { results := [], args := [] }

/-- 'whorllaw12.InduceSorts': WHATEVER THE INPUT: true; the input reads as it did. -/
def induceSortsSpec : ChangeSpec := { name := "induceSorts", fn := fun _ => fun
  | [d1, d2, d3] => { results := [.lit (.bool true)], args := [d1, d2, d3] }
  | _ => none }
def induceSortsRow : OpenClaim := { program := "ytpibjmigblllnaa", sum := "433ae6f68116ffd635f5e097686042a6970058a444879740bed1dcf8db7af16f", func := "whorl/whorllaw12.InduceSorts", spec := "induceSorts", apart := false }
def InduceSortsSaid : Prop := induceSortsRow.holds Try.pinned (OpenSpec.ofChange induceSortsSpec)

/-- ITS FALSE NEIGHBOUR: 'it returns false'. Refute it at one input. -/
def induceSortsWrong : ChangeSpec := { name := "induceSorts", fn := fun _ => fun
  | [d1, d2, d3] => { results := [.lit (.bool false)], args := [d1, d2, d3] }
  | _ => none }
def InduceSortsWrongFalsely : Prop := induceSortsRow.holds Try.pinned (OpenSpec.ofChange induceSortsWrong)

/-- 'whorllaw12.InduceAll': WHATEVER THE INPUT: true; the input reads as it did. -/
def induceAllSpec : ChangeSpec := { name := "induceAll", fn := fun _ => fun
  | [d1, d2, d3] => { results := [.lit (.bool true)], args := [d1, d2, d3] }
  | _ => none }
def induceAllRow : OpenClaim := { program := "ytpibjmigblllnaa", sum := "433ae6f68116ffd635f5e097686042a6970058a444879740bed1dcf8db7af16f", func := "whorl/whorllaw12.InduceAll", spec := "induceAll", apart := false }
def InduceAllSaid : Prop := induceAllRow.holds Try.pinned (OpenSpec.ofChange induceAllSpec)

/-- ITS FALSE NEIGHBOUR: 'it returns false'. Refute it at one input. -/
def induceAllWrong : ChangeSpec := { name := "induceAll", fn := fun _ => fun
  | [d1, d2, d3] => { results := [.lit (.bool false)], args := [d1, d2, d3] }
  | _ => none }
def InduceAllWrongFalsely : Prop := induceAllRow.holds Try.pinned (OpenSpec.ofChange induceAllWrong)

/-- 'whorllaw12.InduceRight': WHATEVER THE INPUT: true; the input reads as it did. -/
def induceRightSpec : ChangeSpec := { name := "induceRight", fn := fun _ => fun
  | [d1, d2] => { results := [.lit (.bool true)], args := [d1, d2] }
  | _ => none }
def induceRightRow : OpenClaim := { program := "ytpibjmigblllnaa", sum := "433ae6f68116ffd635f5e097686042a6970058a444879740bed1dcf8db7af16f", func := "whorl/whorllaw12.InduceRight", spec := "induceRight", apart := false }
def InduceRightSaid : Prop := induceRightRow.holds Try.pinned (OpenSpec.ofChange induceRightSpec)

/-- ITS FALSE NEIGHBOUR: 'it returns false'. Refute it at one input. -/
def induceRightWrong : ChangeSpec := { name := "induceRight", fn := fun _ => fun
  | [d1, d2] => { results := [.lit (.bool false)], args := [d1, d2] }
  | _ => none }
def InduceRightWrongFalsely : Prop := induceRightRow.holds Try.pinned (OpenSpec.ofChange induceRightWrong)

/-- 'whorllaw12.InduceOwn': WHATEVER THE INPUT: true; the input reads as it did. -/
def induceOwnSpec : ChangeSpec := { name := "induceOwn", fn := fun _ => fun
  | [d1, d2] => { results := [.lit (.bool true)], args := [d1, d2] }
  | _ => none }
def induceOwnRow : OpenClaim := { program := "ytpibjmigblllnaa", sum := "433ae6f68116ffd635f5e097686042a6970058a444879740bed1dcf8db7af16f", func := "whorl/whorllaw12.InduceOwn", spec := "induceOwn", apart := false }
def InduceOwnSaid : Prop := induceOwnRow.holds Try.pinned (OpenSpec.ofChange induceOwnSpec)

/-- ITS FALSE NEIGHBOUR: 'it returns false'. Refute it at one input. -/
def induceOwnWrong : ChangeSpec := { name := "induceOwn", fn := fun _ => fun
  | [d1, d2] => { results := [.lit (.bool false)], args := [d1, d2] }
  | _ => none }
def InduceOwnWrongFalsely : Prop := induceOwnRow.holds Try.pinned (OpenSpec.ofChange induceOwnWrong)

/- THE SECOND FORM. 'bulk': how many values and letters a reading holds, each counted each time it is reached (what is shared counts as often as it is met; a slice's spare places count too). A statement '..UptoSaid' is the law's where the arguments, and the package variables that the reading takes, are together of bulk at most 1048576: NARROWER than '..Said'. Prove '..Said' where nothing that the law and all that it calls make is longer than what came in: it says more and counts as full. Else prove '..UptoSaid'. A law counts once. -/
mutual
def uptoBulk {H : Type} : DataW H → Nat
  | .lit (.string bytes) => bytes.length + 1
  | .lit _ => 1
  | .nil => 1
  | .ptr d => uptoBulk d + 1
  | .slice elems spare => uptoBulkAll elems + uptoBulkAll spare + 1
  | .agg parts => uptoBulkAll parts + 1
  | .iface _ d => uptoBulk d + 1
  | .map entries => uptoBulkEntries entries + 1
  | .held _ => 1
def uptoBulkAll {H : Type} : List (DataW H) → Nat
  | [] => 0
  | d :: r => uptoBulk d + uptoBulkAll r
def uptoBulkEntries {H : Type} : List (Lit × DataW H) → Nat
  | [] => 0
  | x :: r => uptoBulkEntry x + uptoBulkEntries r
def uptoBulkEntry {H : Type} : Lit × DataW H → Nat
  | (.string bytes, d) => bytes.length + uptoBulk d + 1
  | (_, d) => uptoBulk d + 1
 end
def uptoSmall : (H : Type) → List (DataW H) → Bool := fun _ ds => decide (uptoBulkAll ds ≤ 1048576)
def OpenSpec.upto (s : _root_.Go.ChangeSpec) : _root_.Go.OpenSpec := { _root_.Go.OpenSpec.ofChange s with cond := some uptoSmall }

/-- 'whorllaw12.InduceSorts', WHERE WHAT IT READS IS OF BULK AT MOST 1048576: true; the input reads as it did. -/
def induceSortsUptoRow : OpenClaim := { program := "ytpibjmigblllnaa", sum := "433ae6f68116ffd635f5e097686042a6970058a444879740bed1dcf8db7af16f", func := "whorl/whorllaw12.InduceSorts", spec := "induceSorts", apart := false, narrowed := true }
def InduceSortsUptoSaid : Prop := induceSortsUptoRow.holds Try.pinned (OpenSpec.upto induceSortsSpec)

/-- 'whorllaw12.InduceAll', WHERE WHAT IT READS IS OF BULK AT MOST 1048576: true; the input reads as it did. -/
def induceAllUptoRow : OpenClaim := { program := "ytpibjmigblllnaa", sum := "433ae6f68116ffd635f5e097686042a6970058a444879740bed1dcf8db7af16f", func := "whorl/whorllaw12.InduceAll", spec := "induceAll", apart := false, narrowed := true }
def InduceAllUptoSaid : Prop := induceAllUptoRow.holds Try.pinned (OpenSpec.upto induceAllSpec)

/-- 'whorllaw12.InduceRight', WHERE WHAT IT READS IS OF BULK AT MOST 1048576: true; the input reads as it did. -/
def induceRightUptoRow : OpenClaim := { program := "ytpibjmigblllnaa", sum := "433ae6f68116ffd635f5e097686042a6970058a444879740bed1dcf8db7af16f", func := "whorl/whorllaw12.InduceRight", spec := "induceRight", apart := false, narrowed := true }
def InduceRightUptoSaid : Prop := induceRightUptoRow.holds Try.pinned (OpenSpec.upto induceRightSpec)

/-- 'whorllaw12.InduceOwn', WHERE WHAT IT READS IS OF BULK AT MOST 1048576: true; the input reads as it did. -/
def induceOwnUptoRow : OpenClaim := { program := "ytpibjmigblllnaa", sum := "433ae6f68116ffd635f5e097686042a6970058a444879740bed1dcf8db7af16f", func := "whorl/whorllaw12.InduceOwn", spec := "induceOwn", apart := false, narrowed := true }
def InduceOwnUptoSaid : Prop := induceOwnUptoRow.holds Try.pinned (OpenSpec.upto induceOwnSpec)

end Rows
end Go.Proofs.Ytpibjmigblllnaa
