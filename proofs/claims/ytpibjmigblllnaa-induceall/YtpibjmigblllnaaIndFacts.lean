/- What induced sorting makes of numbers that may be. -/
import Derived.Test.YtpibjmigblllnaaIndSort
import Derived.Test.YtpibjmigblllnaaIndMay
namespace Go.Proofs.Ytpibjmigblllnaa
set_option linter.unusedVariables false
set_option linter.unusedSimpArgs false
open Go.RowKit

/-- What sorting makes of numbers and their first places. -/
theorem sort_facts {s fs : List Int} {k : Int} (h : mayB s k = true) (hp : fs.Perm (natL (firstN s))) : sortB s k fs = true ∧ ∃ R : List Nat, sortI s k fs = natL R ∧ R.Perm (List.range s.length) ∧
    (∀ i, i + 1 < s.length → s.getD (R.getD i 0) 0 ≤ s.getD (R.getD (i + 1) 0) 0) ∧ ((toN fs).Pairwise (ltE s) → R.Pairwise (ltE s)) := by
  have hb : sortB s k fs = true := sortB_iff.2 ⟨mayB_fit h, firB_iff.2 hp⟩
  have f := Fits.of (mayB_fit h)
  obtain ⟨R, e1, e2, e3, e4⟩ := indI_all f (firB_nat (firB_iff.2 hp)).2
  refine ⟨hb, R, by rw [sortI_yes hb, e1], e2, fun i hi => ?_, e4⟩
  have hl : R.length = s.length := by rw [e2.length_eq, List.length_range]
  have h1 := pairN_at e3 (Nat.lt_succ_self i) (by omega)
  have m1 := List.mem_range.1 (e2.mem_iff.1 (getN_mem (l := R) (i := i) (by omega)))
  have m2 := List.mem_range.1 (e2.mem_iff.1 (getN_mem (l := R) (i := i + 1) (by omega)))
  rw [f.num _ m1, f.num _ m2]
  exact Int.ofNat_le.2 h1
end Go.Proofs.Ytpibjmigblllnaa
