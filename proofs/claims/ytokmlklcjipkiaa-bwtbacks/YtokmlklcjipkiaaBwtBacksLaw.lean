/- BwtBacks: the walk. -/
import Derived.Test.YtokmlklcjipkiaaPart2
import Derived.Test.YtokmlklcjipkiaaPart4
namespace Go.Proofs.Ytokmlklcjipkiaa
set_option linter.unusedVariables false
set_option linter.unusedSimpArgs false
open Go.RowKit

set_option maxHeartbeats 1000000 in
theorem lawBacks (v : Value) (l : List Int) (at' : Int) (w : World) (hv : Sl .u8 w v l) (h8 : Bytes8 l) :
    Calls Try.prog 5 #[v, .int .i64 at'] w fun e w' => e = .returned (.bool true) ∧ Ext w w' := by
  have HV := hide' hv
  have H8 := hide' h8
  obtain ⟨va, vc, rfl, _⟩ := hv
  clear h8
  by_cases h1 : (80 : Int) < (l.length : Int)
  · go_enter Try.func5, Try.ntmps5
    go_wp2
    go_ret
    exact ⟨rfl, Ext.refl _⟩
  have d1 : decide ((80 : Int) < (l.length : Int)) = false := by simpa using h1
  have HS5 : Hid (l.length ≤ 100000) := by show _ ≤ _; omega
  clear h1
  obtain ⟨L, HL⟩ : ∃ L, Hid ((backB l at').1 = L) := ⟨_, rfl⟩
  obtain ⟨T, HT⟩ : ∃ L, Hid ((backB l at').2 = L) := ⟨_, rfl⟩
  have q1 : (T == T) = true := by simp
  have q3 : ((strOfNums L).toList == (strOfNums L).toList) = true := by simp
  go_enter Try.func5, Try.ntmps5
  go_wp2_with (at_builtin; refine wpList_join _ rfl _ _ 22 rfl 5 .u8 1 Try.underlying22 infoU8 w.heap.size _ _ [] l rfl rfl (Own.made #[] 0 (Nat.le_refl _) (by simp [maxLen]) rfl) (HV.out.ext (ext_alloc w _)) ?c1 (by simp) ?_)
  case c1 => have := HS5.out; unfold maxLen; simp; omega
  intro v1 w1 ho hb
  have O1 := hide' ho.sl
  have X1 : Hid (Ext w w1) := Below.trans (ext_alloc _ _) hb
  clear ho hb
  go_wp2_with fail
  refine (bwBack_any _ l at' w1 O1.out H8.out HS5.out).mono ?_
  rw [HL.out, HT.out]
  rintro e w2 ⟨u2, rfl, ho, he⟩
  have O2 := hide' ho.sl
  have X2 := hide' (X1.out.trans he)
  clear ho he
  go_wp2_with fail
  refine (rbwBack_any _ l at' w2 (HV.out.ext X2.out) H8.out HS5.out).mono ?_
  rw [HL.out, HT.out]
  rintro e w3 ⟨u3, rfl, ho, he⟩
  have X3 := hide' (X2.out.trans he)
  have s1 := (O2.out.ext he).str (P := Try.prog) 22 5 9 Try.underlying22 Try.underlying5 Try.underlying9
  have s2 := ho.sl.str (P := Try.prog) 22 5 9 Try.underlying22 Try.underlying5 Try.underlying9
  clear ho he O2 X2
  go_wp2_with fail
  refine (known_any _).mono ?_
  rintro e w5 ⟨rfl, he⟩
  have X5 := hide' (X3.out.trans he)
  clear he
  go_wp2
  go_ret
  exact ⟨rfl, X5.out⟩
end Go.Proofs.Ytokmlklcjipkiaa
