/-
  No cell of these rows narrows 'for every input' (looked for: loops, veiled, ifaces, maps, wideKeys, modest, calm, conditions, laid).
  DERIVED. THE GIVEN ROWS OF THIS SEAT. 5 by the template 'for every input the law returns true; each argument reads behind the call as it read before'; 0 by the template 'total and deterministic' (their statements: YtokmlklcjipkiaaTotals.lean).
  GIVEN WITH THE SEED: the statements are not yours to turn. If you find one false, say at which input.
  Laid BY PROGRAM, IN A SANDBOX (cutbox-rows.mjs): the forced cells as the released guide's own fill.sh prints them over the translation ff15af810feedd24… (all of the seat's roots in one cut). By AI agents, Wed Nov 11 2026. No macro, syntax, notation, axiom, sorry.
-/
import Derived.Test.YtokmlklcjipkiaaChecked
import GoSem.Claim
import GoSem.ClaimJoined
import GoSem.ClaimMapViews
import Derived.JoinedTies
import Derived.KernelRfl
namespace Go.Proofs.Ytokmlklcjipkiaa
/- THE CELL 'sum', in the pinned program and in every row, IS THE sha256 OF THE DUMP (.gsa) THAT YtokmlklcjipkiaaProg.lean LOADS. Nothing in Lean hashes anything: it is a label: what it is worth is what the hold of that sum in a sandbox is worth. -/
noncomputable def Try.pinned : Pinned := { name := "ytokmlklcjipkiaa", sum := "ff15af810feedd2404f42178ec60431f6df23a1335f6e15c0f666f996de93af0", checked := Try.checked }
namespace Rows
def none {H : Type} : Left H := { results := [], args := [] }

/-- 'whorllaw21.BwtTurns': WHATEVER THE INPUT: true; the input reads as it did. -/
def bwtTurnsSpec : ChangeSpec := { name := "bwtTurns", fn := fun _ => fun
  | [d] => { results := [.lit (.bool true)], args := [d] }
  | _ => none }
def bwtTurnsRow : OpenClaim := { program := "ytokmlklcjipkiaa", sum := "ff15af810feedd2404f42178ec60431f6df23a1335f6e15c0f666f996de93af0", func := "whorl/whorllaw21.BwtTurns", spec := "bwtTurns", recurses := true, apart := false }
def BwtTurnsSaid : Prop := bwtTurnsRow.holds Try.pinned (OpenSpec.ofChange bwtTurnsSpec)

/-- ITS FALSE NEIGHBOUR: 'it returns false'. Refute it at one input. -/
def bwtTurnsWrong : ChangeSpec := { name := "bwtTurns", fn := fun _ => fun
  | [d] => { results := [.lit (.bool false)], args := [d] }
  | _ => none }
def BwtTurnsWrongFalsely : Prop := bwtTurnsRow.holds Try.pinned (OpenSpec.ofChange bwtTurnsWrong)

/-- 'whorllaw21.BwtOf': WHATEVER THE INPUT: true; the input reads as it did. -/
def bwtOfSpec : ChangeSpec := { name := "bwtOf", fn := fun _ => fun
  | [d1, d2] => { results := [.lit (.bool true)], args := [d1, d2] }
  | _ => none }
def bwtOfRow : OpenClaim := { program := "ytokmlklcjipkiaa", sum := "ff15af810feedd2404f42178ec60431f6df23a1335f6e15c0f666f996de93af0", func := "whorl/whorllaw21.BwtOf", spec := "bwtOf", recurses := true, apart := false }
def BwtOfSaid : Prop := bwtOfRow.holds Try.pinned (OpenSpec.ofChange bwtOfSpec)

/-- ITS FALSE NEIGHBOUR: 'it returns false'. Refute it at one input. -/
def bwtOfWrong : ChangeSpec := { name := "bwtOf", fn := fun _ => fun
  | [d1, d2] => { results := [.lit (.bool false)], args := [d1, d2] }
  | _ => none }
def BwtOfWrongFalsely : Prop := bwtOfRow.holds Try.pinned (OpenSpec.ofChange bwtOfWrong)

/-- 'whorllaw21.BwtBacks': WHATEVER THE INPUT: true; the input reads as it did. -/
def bwtBacksSpec : ChangeSpec := { name := "bwtBacks", fn := fun _ => fun
  | [d1, d2] => { results := [.lit (.bool true)], args := [d1, d2] }
  | _ => none }
def bwtBacksRow : OpenClaim := { program := "ytokmlklcjipkiaa", sum := "ff15af810feedd2404f42178ec60431f6df23a1335f6e15c0f666f996de93af0", func := "whorl/whorllaw21.BwtBacks", spec := "bwtBacks", recurses := true, apart := false }
def BwtBacksSaid : Prop := bwtBacksRow.holds Try.pinned (OpenSpec.ofChange bwtBacksSpec)

/-- ITS FALSE NEIGHBOUR: 'it returns false'. Refute it at one input. -/
def bwtBacksWrong : ChangeSpec := { name := "bwtBacks", fn := fun _ => fun
  | [d1, d2] => { results := [.lit (.bool false)], args := [d1, d2] }
  | _ => none }
def BwtBacksWrongFalsely : Prop := bwtBacksRow.holds Try.pinned (OpenSpec.ofChange bwtBacksWrong)

/-- 'whorllaw21.BwtOnce': WHATEVER THE INPUT: true; the input reads as it did. -/
def bwtOnceSpec : ChangeSpec := { name := "bwtOnce", fn := fun _ => fun
  | [d] => { results := [.lit (.bool true)], args := [d] }
  | _ => none }
def bwtOnceRow : OpenClaim := { program := "ytokmlklcjipkiaa", sum := "ff15af810feedd2404f42178ec60431f6df23a1335f6e15c0f666f996de93af0", func := "whorl/whorllaw21.BwtOnce", spec := "bwtOnce", recurses := true, apart := false }
def BwtOnceSaid : Prop := bwtOnceRow.holds Try.pinned (OpenSpec.ofChange bwtOnceSpec)

/-- ITS FALSE NEIGHBOUR: 'it returns false'. Refute it at one input. -/
def bwtOnceWrong : ChangeSpec := { name := "bwtOnce", fn := fun _ => fun
  | [d] => { results := [.lit (.bool false)], args := [d] }
  | _ => none }
def BwtOnceWrongFalsely : Prop := bwtOnceRow.holds Try.pinned (OpenSpec.ofChange bwtOnceWrong)

/-- 'whorllaw21.BwtLetters': WHATEVER THE INPUT: true; the input reads as it did. -/
def bwtLettersSpec : ChangeSpec := { name := "bwtLetters", fn := fun _ => fun
  | [d] => { results := [.lit (.bool true)], args := [d] }
  | _ => none }
def bwtLettersRow : OpenClaim := { program := "ytokmlklcjipkiaa", sum := "ff15af810feedd2404f42178ec60431f6df23a1335f6e15c0f666f996de93af0", func := "whorl/whorllaw21.BwtLetters", spec := "bwtLetters", recurses := true, apart := false }
def BwtLettersSaid : Prop := bwtLettersRow.holds Try.pinned (OpenSpec.ofChange bwtLettersSpec)

/-- ITS FALSE NEIGHBOUR: 'it returns false'. Refute it at one input. -/
def bwtLettersWrong : ChangeSpec := { name := "bwtLetters", fn := fun _ => fun
  | [d] => { results := [.lit (.bool false)], args := [d] }
  | _ => none }
def BwtLettersWrongFalsely : Prop := bwtLettersRow.holds Try.pinned (OpenSpec.ofChange bwtLettersWrong)

/- THE SECOND FORM. 'bulk': how many values and letters a reading holds, each counted each time it is reached (what is shared counts as often as it is met; a slice's spare places count too). A statement '..UptoSaid' is the law's where the arguments, and the package variables that the reading takes, are together of bulk at most 1048576: NARROWER than '..Said'. Prove '..Said' where nothing that the law and all that it calls make is longer than what came in: it says more and counts as full. Else prove '..UptoSaid'. A law counts once. -/
mutual
def uptoBulk {H : Type} : DataW H → Nat
  | .lit (.string bytes) => bytes.length + 1
  | .lit _ => 1
  | .nil => 1
  | .ptr d => uptoBulk d + 1
  | .slice elems spare => uptoBulkAll elems + uptoBulkAll spare + 1
  | .agg parts => uptoBulkAll parts + 1
  | .iface _ d => uptoBulk d + 1
  | .map entries => uptoBulkEntries entries + 1
  | .held _ => 1
def uptoBulkAll {H : Type} : List (DataW H) → Nat
  | [] => 0
  | d :: r => uptoBulk d + uptoBulkAll r
def uptoBulkEntries {H : Type} : List (Lit × DataW H) → Nat
  | [] => 0
  | x :: r => uptoBulkEntry x + uptoBulkEntries r
def uptoBulkEntry {H : Type} : Lit × DataW H → Nat
  | (.string bytes, d) => bytes.length + uptoBulk d + 1
  | (_, d) => uptoBulk d + 1
 end
def uptoSmall : (H : Type) → List (DataW H) → Bool := fun _ ds => decide (uptoBulkAll ds ≤ 1048576)
def OpenSpec.upto (s : _root_.Go.ChangeSpec) : _root_.Go.OpenSpec := { _root_.Go.OpenSpec.ofChange s with cond := some uptoSmall }

/-- 'whorllaw21.BwtTurns', WHERE WHAT IT READS IS OF BULK AT MOST 1048576: true; the input reads as it did. -/
def bwtTurnsUptoRow : OpenClaim := { program := "ytokmlklcjipkiaa", sum := "ff15af810feedd2404f42178ec60431f6df23a1335f6e15c0f666f996de93af0", func := "whorl/whorllaw21.BwtTurns", spec := "bwtTurns", recurses := true, apart := false, narrowed := true }
def BwtTurnsUptoSaid : Prop := bwtTurnsUptoRow.holds Try.pinned (OpenSpec.upto bwtTurnsSpec)

/-- 'whorllaw21.BwtOf', WHERE WHAT IT READS IS OF BULK AT MOST 1048576: true; the input reads as it did. -/
def bwtOfUptoRow : OpenClaim := { program := "ytokmlklcjipkiaa", sum := "ff15af810feedd2404f42178ec60431f6df23a1335f6e15c0f666f996de93af0", func := "whorl/whorllaw21.BwtOf", spec := "bwtOf", recurses := true, apart := false, narrowed := true }
def BwtOfUptoSaid : Prop := bwtOfUptoRow.holds Try.pinned (OpenSpec.upto bwtOfSpec)

/-- 'whorllaw21.BwtBacks', WHERE WHAT IT READS IS OF BULK AT MOST 1048576: true; the input reads as it did. -/
def bwtBacksUptoRow : OpenClaim := { program := "ytokmlklcjipkiaa", sum := "ff15af810feedd2404f42178ec60431f6df23a1335f6e15c0f666f996de93af0", func := "whorl/whorllaw21.BwtBacks", spec := "bwtBacks", recurses := true, apart := false, narrowed := true }
def BwtBacksUptoSaid : Prop := bwtBacksUptoRow.holds Try.pinned (OpenSpec.upto bwtBacksSpec)

/-- 'whorllaw21.BwtOnce', WHERE WHAT IT READS IS OF BULK AT MOST 1048576: true; the input reads as it did. -/
def bwtOnceUptoRow : OpenClaim := { program := "ytokmlklcjipkiaa", sum := "ff15af810feedd2404f42178ec60431f6df23a1335f6e15c0f666f996de93af0", func := "whorl/whorllaw21.BwtOnce", spec := "bwtOnce", recurses := true, apart := false, narrowed := true }
def BwtOnceUptoSaid : Prop := bwtOnceUptoRow.holds Try.pinned (OpenSpec.upto bwtOnceSpec)

/-- 'whorllaw21.BwtLetters', WHERE WHAT IT READS IS OF BULK AT MOST 1048576: true; the input reads as it did. -/
def bwtLettersUptoRow : OpenClaim := { program := "ytokmlklcjipkiaa", sum := "ff15af810feedd2404f42178ec60431f6df23a1335f6e15c0f666f996de93af0", func := "whorl/whorllaw21.BwtLetters", spec := "bwtLetters", recurses := true, apart := false, narrowed := true }
def BwtLettersUptoSaid : Prop := bwtLettersUptoRow.holds Try.pinned (OpenSpec.upto bwtLettersSpec)

end Rows
end Go.Proofs.Ytokmlklcjipkiaa
