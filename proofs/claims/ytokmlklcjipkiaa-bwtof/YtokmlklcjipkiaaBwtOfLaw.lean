/- BwtOf: the walk. -/
import Derived.Test.YtokmlklcjipkiaaPart2
import Derived.Test.YtokmlklcjipkiaaPart4
namespace Go.Proofs.Ytokmlklcjipkiaa
set_option linter.unusedVariables false
set_option linter.unusedSimpArgs false
open Go.RowKit

set_option maxHeartbeats 1000000 in
theorem lawOf (v u : Value) (s a : List Int) (w : World) (hv : Sl .u8 w v s) (hu : Sl .i64 w u a) :
    Calls Try.prog 4 #[v, u] w fun e w' => e = .returned (.bool true) ∧ Ext w w' := by
  have HV := hide' hv
  have HU := hide' hu
  obtain ⟨va, vc, rfl, _⟩ := hv
  obtain ⟨ua, uc, rfl, _⟩ := hu
  by_cases h1 : (200 : Int) < (s.length : Int)
  · go_enter Try.func4, Try.ntmps4
    go_wp2
    go_ret
    exact ⟨rfl, Ext.refl _⟩
  have d1 : decide ((200 : Int) < (s.length : Int)) = false := by simpa using h1
  by_cases h2 : (200 : Int) < (a.length : Int)
  · clear h1
    go_enter Try.func4, Try.ntmps4
    go_wp2
    go_ret
    exact ⟨rfl, Ext.refl _⟩
  have d2 : decide ((200 : Int) < (a.length : Int)) = false := by simpa using h2
  have HS6 : Hid (s.length ≤ 1000000) := by show _ ≤ _; omega
  have HA6 : Hid (a.length ≤ 1000000) := by show _ ≤ _; omega
  clear h1 h2
  obtain ⟨L, HL⟩ : ∃ L, Hid (bwI s a = L) := ⟨_, rfl⟩
  obtain ⟨T, HT⟩ : ∃ L, Hid (bwAtI s a = L) := ⟨_, rfl⟩
  obtain ⟨b, HB⟩ : ∃ b, Hid (lcpOk s a = b) := ⟨_, rfl⟩
  have q1 : (T == T) = true := by simp
  have q2 : (b == b) = true := by simp
  have q3 : ((strOfNums L).toList == (strOfNums L).toList) = true := by simp
  go_enter Try.func4, Try.ntmps4
  go_wp2_with fail
  refine (bwOf_any _ _ s a w HV.out HU.out HS6.out HA6.out).mono ?_
  rw [HL.out, HT.out, HB.out]
  rintro e w1 ⟨u1, rfl, ho, he⟩
  have O1 := hide' ho.sl
  have X1 := hide' he
  clear ho he
  go_wp2_with fail
  refine (rbwOf_any _ _ s a w1 (HV.out.ext X1.out) (HU.out.ext X1.out) HS6.out HA6.out).mono ?_
  rw [HL.out, HT.out, HB.out]
  rintro e w2 ⟨u2, rfl, ho, he⟩
  have X2 := hide' (X1.out.trans he)
  have s1 := (O1.out.ext he).str (P := Try.prog) 22 5 9 Try.underlying22 Try.underlying5 Try.underlying9
  have s2 := ho.sl.str (P := Try.prog) 22 5 9 Try.underlying22 Try.underlying5 Try.underlying9
  clear ho he O1 X1
  go_wp2_with fail
  refine (known_any _).mono ?_
  rintro e w5 ⟨rfl, he⟩
  have X5 := hide' (X2.out.trans he)
  clear he
  go_wp2
  go_ret
  exact ⟨rfl, X5.out⟩
end Go.Proofs.Ytokmlklcjipkiaa
