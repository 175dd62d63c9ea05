/- Contract of rank.Is. -/
import Derived.Test.YtmojnliljaefbaaRkInv
namespace Go.Proofs.Ytmojnliljaefbaa
set_option linter.unusedVariables false
set_option linter.unusedSimpArgs false
open Go.RowKit

theorem rkIs_any (v : Value) (l : List Int) (w : World) (hv : Sl .i64 w v l) (hlen : l.length ≤ 1000000) :
    Calls Try.prog 14 #[v] w fun e w' => e = .returned (.bool (ordB l)) ∧ Ext w w' := by
  have C := hide' (rkInv_any v l w hv hlen)
  clear hv hlen
  go_enter Try.func14, Try.ntmps14
  go_wp2_with fail
  refine C.out.mono ?_
  rintro e w1 ⟨s, rfl, _, he⟩
  have X1 := hide' he
  clear he C
  go_wp2
  go_ret
  exact ⟨rfl, X1.out⟩
end Go.Proofs.Ytmojnliljaefbaa
