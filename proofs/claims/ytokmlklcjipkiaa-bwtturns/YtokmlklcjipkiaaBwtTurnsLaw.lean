/- BwtTurns: the walk. -/
import Derived.Test.YtokmlklcjipkiaaPart2
import Derived.Test.YtokmlklcjipkiaaPart4
namespace Go.Proofs.Ytokmlklcjipkiaa
set_option linter.unusedVariables false
set_option linter.unusedSimpArgs false
open Go.RowKit

set_option maxHeartbeats 1000000 in
theorem lawTurns (v : Value) (s : List Int) (w : World) (hv : Sl .u8 w v s) (h8 : Bytes8 s) :
    Calls Try.prog 3 #[v] w fun e w' => e = .returned (.bool true) ∧ Ext w w' := by
  have HV := hide' hv
  have H8 := hide' h8
  obtain ⟨va, vc, rfl, _⟩ := hv
  clear h8
  by_cases h1 : (120 : Int) < (s.length : Int)
  · go_enter Try.func3, Try.ntmps3
    go_wp2
    go_ret
    exact ⟨rfl, Ext.refl _⟩
  have d1 : decide ((120 : Int) < (s.length : Int)) = false := by simpa using h1
  have HS5 : Hid (s.length ≤ 100000) := by show _ ≤ _; omega
  clear h1
  obtain ⟨L, HL⟩ : ∃ L, Hid ((turnB s).1 = L) := ⟨_, rfl⟩
  obtain ⟨T, HT⟩ : ∃ L, Hid ((turnB s).2 = L) := ⟨_, rfl⟩
  have HBK : Hid (backB L T = (s, 0)) := back_yes (by rw [← HL.out, ← HT.out])
  have HL5 : Hid (L.length ≤ 100000) := by show _ ≤ _; rw [← HL.out, turnB_len]; exact HS5.out
  have HL8 : Hid (Bytes8 L) := by show Bytes8 _; rw [← HL.out]; exact bwL_bytes (sortE_ord s).1 H8.out
  have q1 : (T != T) = false := by simp
  have q3 : ((strOfNums L).toList == (strOfNums L).toList) = true := by simp
  have q4 : ((strOfNums s).toList == (strOfNums s).toList) = true := by simp
  go_enter Try.func3, Try.ntmps3
  go_wp2_with fail
  refine (bwTurn_any _ s w HV.out H8.out HS5.out).mono ?_
  rw [HL.out, HT.out]
  rintro e w1 ⟨u1, rfl, ho, he⟩
  have O1 := hide' ho.sl
  have X1 := hide' he
  clear ho he
  go_wp2_with fail
  refine (rbwTurn_any _ s w1 (HV.out.ext X1.out) H8.out HS5.out).mono ?_
  rw [HL.out, HT.out]
  rintro e w2 ⟨u2, rfl, ho, he⟩
  have X2 := hide' (X1.out.trans he)
  have O2 := hide' (O1.out.ext he)
  have s1 := (O1.out.ext he).str (P := Try.prog) 22 5 9 Try.underlying22 Try.underlying5 Try.underlying9
  have s2 := ho.sl.str (P := Try.prog) 22 5 9 Try.underlying22 Try.underlying5 Try.underlying9
  clear ho he O1 X1
  go_wp2_with fail
  refine (bwBack_any _ L T w2 O2.out HL8.out HL5.out).mono ?_
  rw [HBK.out]
  rintro e w3 ⟨u3, rfl, ho, he⟩
  have X3 := hide' (X2.out.trans he)
  have t1 := ho.sl.str (P := Try.prog) 22 5 9 Try.underlying22 Try.underlying5 Try.underlying9
  have t2 := (HV.out.ext X3.out).str (P := Try.prog) 22 5 9 Try.underlying22 Try.underlying5 Try.underlying9
  clear ho he s1 s2
  go_wp2_with fail
  refine (known_any _).mono ?_
  rintro e w5 ⟨rfl, he⟩
  have X5 := hide' (X3.out.trans he)
  clear he
  go_wp2
  go_ret
  exact ⟨rfl, X5.out⟩
end Go.Proofs.Ytokmlklcjipkiaa
