/- The contract of bytes.Clone. -/
import Derived.Test.YtjccpkekhjhafaaByt
namespace Go.Proofs.Ytjccpkekhjhafaa
set_option linter.unusedVariables false
set_option linter.unusedSimpArgs false
open Go.RowKit

/-- bytes.Clone -/
theorem clone_any (a : Option Addr) (len c : Nat) (zs : List Int) (w : World) (hs : Sl .u8 w (.slice a len c) zs) (hm : zs.length ≤ 1000000) :
    Calls Try.prog 39 #[.slice a len c] w fun e w' => ∃ s, e = .returned s ∧ Own .u8 5 w.heap.size w' s zs ∧ Ext w w' := by
  have HS := hide' hs
  cases a with
  | none =>
    obtain ⟨a', c', h1, h2, h3, h4, h5⟩ := hs
    simp only [Value.slice.injEq] at h1
    obtain ⟨rfl, rfl, rfl⟩ := h1
    have hc := h4 rfl
    have hz : zs = [] := List.length_eq_zero_iff.1 (by omega)
    subst hz
    clear h2 h3 h4 h5 hc
    have hq := fun wx => Go.Lib.run_eql_slice_nil (P := Try.prog) wx 31 5 none 0 c 0 0 Try.underlying31
    go_enter Try.func39, Try.ntmps39
    go_wp2
    go_ret
    exact ⟨_, rfl, Own.nil _ _ _ _, Ext.refl _⟩
  | some a =>
    clear hs
    have hq := fun wx => Go.Lib.run_eql_slice_nil (P := Try.prog) wx 31 5 (some a) len c 0 0 Try.underlying31
    go_enter Try.func39, Try.ntmps39
    go_wp2_with (at_builtin; refine wpList_join _ rfl _ _ 31 rfl 5 .u8 1 Try.underlying31 infoU8 w.heap.size _ _ [] zs rfl rfl (Own.made #[] 0 (Nat.le_refl _) (by simp [maxLen]) rfl) (HS.out.ext (ext_alloc w _)) ?c1 (by simp) ?_)
    case c1 => unfold maxLen; simp only [List.length_nil]; omega
    intro v3 w3 ho3 hb3
    have HO3 : Hid (Own .u8 5 w.heap.size w3 v3 zs) := by first | exact ho3 | simpa using ho3
    have HB3 : Hid (Ext w w3) := Below.trans (ext_alloc w (.cells #[] 5)) hb3
    clear ho3 hb3
    go_wp2
    go_ret
    exact ⟨_, rfl, HO3.out, HB3.out⟩
end Go.Proofs.Ytjccpkekhjhafaa
