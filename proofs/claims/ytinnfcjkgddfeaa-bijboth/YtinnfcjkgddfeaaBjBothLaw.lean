/- BijBoth: the walk. -/
import Derived.Test.YtinnfcjkgddfeaaPart3
namespace Go.Proofs.Ytinnfcjkgddfeaa
set_option linter.unusedVariables false
set_option linter.unusedSimpArgs false
open Go.RowKit

theorem Bytes8.perm {x y : List Int} (h : Bytes8 x) (p : y.Perm x) : Bytes8 y := fun z hz => h z (p.mem_iff.1 hz)

set_option maxHeartbeats 1000000 in
theorem lawBoth (v : Value) (s : List Int) (w : World) (hv : Sl .u8 w v s) (h8 : Bytes8 s) :
    Calls Try.prog 5 #[v] w fun e w' => e = .returned (.bool true) ∧ Ext w w' := by
  have HV := hide' hv
  have H8 := hide' h8
  obtain ⟨va, vc, rfl, _⟩ := hv
  clear h8
  by_cases h1 : (200 : Int) < (s.length : Int)
  · go_enter Try.func5, Try.ntmps5
    go_wp2
    go_ret
    exact ⟨rfl, Ext.refl _⟩
  have d1 : decide ((200 : Int) < (s.length : Int)) = false := by simpa using h1
  have HS5 : Hid (s.length ≤ 100000) := by show _ ≤ _; omega
  have q4 : ((strOfNums s).toList == (strOfNums s).toList) = true := by simp
  clear h1
  go_enter Try.func5, Try.ntmps5
  go_wp2_with fail
  refine (bjTurn_any _ s w HV.out H8.out HS5.out).mono ?_
  rintro e w1 ⟨L, u1, rfl, hl, ho, he⟩
  have O1 := hide' ho.sl
  have X1 := hide' he
  have HI1 := hide' hl
  have HL8 : Hid (Bytes8 L) := H8.out.perm (hl.perm H8.out)
  have HL5 : Hid (L.length ≤ 100000) := by show _ ≤ _; rw [hl.len H8.out]; exact HS5.out
  clear ho he hl
  go_wp2_with fail
  refine (bjBack_any _ L w1 O1.out HL8.out HL5.out).mono ?_
  rintro e w2 ⟨x, u2, rfl, hx, ho, he⟩
  have hxs := HI1.out.back H8.out hx
  subst hxs
  have O2 := hide' ho.sl
  have X2 := hide' (X1.out.trans he)
  clear ho he hx X1 O1
  go_wp2_with fail
  refine (bjBack_any _ x w2 (HV.out.ext X2.out) H8.out HS5.out).mono ?_
  rintro e w3 ⟨y, u3, rfl, hy, ho, he⟩
  have O3 := hide' ho.sl
  have P3 := hide' (O2.out.ext he)
  have X3 := hide' (X2.out.trans he)
  have HI3 := hide' hy
  have HY8 : Hid (Bytes8 y) := H8.out.perm hy.perm
  have HY5 : Hid (y.length ≤ 100000) := by show _ ≤ _; rw [hy.len]; exact HS5.out
  clear ho he hy X2 O2
  go_wp2_with fail
  refine (bjTurn_any _ y w3 O3.out HY8.out HY5.out).mono ?_
  rintro e w4 ⟨z, u4, rfl, hz, ho, he⟩
  have hzs := HI3.out.turn hz
  subst hzs
  have X4 := hide' (X3.out.trans he)
  have s1 := (P3.out.ext he).str (P := Try.prog) 22 5 9 Try.underlying22 Try.underlying5 Try.underlying9
  have s2 := (HV.out.ext X4.out).str (P := Try.prog) 22 5 9 Try.underlying22 Try.underlying5 Try.underlying9
  have s3 := ho.sl.str (P := Try.prog) 22 5 9 Try.underlying22 Try.underlying5 Try.underlying9
  clear ho he hz X3 P3 O3
  go_wp2_with fail
  refine (known_any _).mono ?_
  rintro e w5 ⟨rfl, he⟩
  have X5 := hide' (X4.out.trans he)
  clear he
  go_wp2
  go_ret
  exact ⟨rfl, X5.out⟩
end Go.Proofs.Ytinnfcjkgddfeaa
