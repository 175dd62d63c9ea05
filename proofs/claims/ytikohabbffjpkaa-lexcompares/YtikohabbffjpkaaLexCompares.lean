/- LexCompares: the walk. -/
import Derived.Test.YtikohabbffjpkaaLexKnown
import Derived.Test.YtikohabbffjpkaaLexEnd
import Derived.Test.YtikohabbffjpkaaRefEnd
import Derived.Test.YtikohabbffjpkaaRefTurns
import Derived.Test.YtikohabbffjpkaaRefCom
import Derived.Test.YtikohabbffjpkaaRefWords
namespace Go.Proofs.Ytikohabbffjpkaa
set_option linter.unusedVariables false
set_option linter.unusedSimpArgs false
open Go.RowKit

set_option maxHeartbeats 400000 in
theorem lawCompares (v : Value) (zs : List Int) (i j : Int) (w : World) (hs : Sl .u8 w v zs) (hb : Bytes8 zs) :
    Calls Try.prog 3 #[v, .int .i64 i, .int .i64 j] w fun e w' => e = .returned (.bool true) ∧ Ext w w' := by
  have HS := hide' hs
  have HB := hide' hb
  clear hb
  obtain ⟨a, cap, rfl, hm2, hm3, _⟩ := hs
  unfold maxLen at hm3
  by_cases h1 : (200 : Int) < (zs.length : Int)
  · go_enter Try.func3, Try.ntmps3
    go_wp2
    go_ret
    exact ⟨rfl, Ext.refl _⟩
  have d1 : decide ((200 : Int) < (zs.length : Int)) = false := by simpa using h1
  have h500 : zs.length ≤ 500 := by omega
  have hlen : zs.length ≤ 1000000 := by omega
  clear h1
  go_enter Try.func3, Try.ntmps3
  go_wp2_with fail
  refine (toExt (endings_any _ zs i j w HS.out HB.out)).mono ?_
  rintro e w1 ⟨rfl, he⟩
  have X1 := hide' he
  clear he
  go_wp2_with fail
  refine (toExt (rendings_any _ zs i j _ (HS.out.ext X1.out) hlen)).mono ?_
  rintro e w2 ⟨rfl, he⟩
  have X2 := hide' (X1.out.trans he)
  clear he
  go_wp2_with fail
  refine (toExt (turns_any _ zs i j _ (HS.out.ext X2.out) hlen)).mono ?_
  rintro e w3 ⟨rfl, he⟩
  have X3 := hide' (X2.out.trans he)
  clear he
  go_wp2_with fail
  refine (rturns_any _ zs i j _ (HS.out.ext X3.out) hlen).mono ?_
  rintro e w4 ⟨rfl, he⟩
  have X4 := hide' (X3.out.trans he)
  clear he
  go_wp2_with fail
  refine (toExt (common_any _ zs i j _ (HS.out.ext X4.out) h500)).mono ?_
  rintro e w5 ⟨rfl, he⟩
  have X5 := hide' (X4.out.trans he)
  clear he
  go_wp2_with fail
  refine (rcommon_any _ zs i j _ (HS.out.ext X5.out) hlen).mono ?_
  rintro e w6 ⟨rfl, he⟩
  have X6 := hide' (X5.out.trans he)
  clear he
  go_wp2_with fail
  refine (known_any _).mono ?_
  rintro e w7 ⟨rfl, he⟩
  have X7 := hide' (X6.out.trans he)
  clear he
  go_wp2
  go_ret
  exact ⟨rfl, X7.out⟩
end Go.Proofs.Ytikohabbffjpkaa
