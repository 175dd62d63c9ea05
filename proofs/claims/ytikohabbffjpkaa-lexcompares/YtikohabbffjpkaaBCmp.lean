/- Contract of bytes.Compare. -/
import Derived.Test.YtikohabbffjpkaaByt
import Derived.Test.YtikohabbffjpkaaLexMath
import Derived.Laws.Externs
namespace Go.Proofs.Ytikohabbffjpkaa
set_option linter.unusedVariables false
set_option linter.unusedSimpArgs false
open Go.RowKit

theorem bytealgCompare (args : Array Value) (w : World) : (callFunc 45 args).run Try.prog w = ((Extern.BytealgCompare.compare args).run Try.prog w).andThen fun v w' => .ok (.value v) w' :=
  run_callFunc_extern Try.func45 (by kernel_rfl) (by kernel_rfl) (by kernel_rfl) (by kernel_rfl) args w

/-- bytes.Compare -/
theorem compare_any (u v : Value) (x y : List Int) (w : World) (hu : Sl .u8 w u x) (hv : Sl .u8 w v y) (hx : Bytes8 x) (hy : Bytes8 y) :
    Calls Try.prog 33 #[u, v] w fun e w' => e = .returned (.int .i64 (cmpI x y)) ∧ w' = w := by
  have h : (callFunc 45 #[u, v]).run Try.prog w = .ok (.value (.int .i64 (cmpI x y))) w := by
    rw [bytealgCompare, run_compareBytes hu hv hx hy]; rfl
  obtain ⟨a, c, rfl, _⟩ := hu
  obtain ⟨a', c', rfl, _⟩ := hv
  go_enter Try.func33, Try.ntmps33
  go_wp2
  go_ret
  exact ⟨rfl, rfl⟩
end Go.Proofs.Ytikohabbffjpkaa
