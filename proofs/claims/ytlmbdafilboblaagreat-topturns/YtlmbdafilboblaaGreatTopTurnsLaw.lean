/- TopTurns: the walk. -/
import Derived.Test.YtlmbdafilboblaaGreatPart5
import Derived.Test.YtlmbdafilboblaaGreatPart7
namespace Go.Proofs.YtlmbdafilboblaaGreat
set_option linter.unusedVariables false
set_option linter.unusedSimpArgs false
open Go.RowKit

set_option maxHeartbeats 2000000 in
theorem lawTopTurns (v : Value) (s : List Int) (w : World) (hv : Sl .u8 w v s) (h8 : Bytes8 s) :
    Calls Tryz.prog 3 #[v] w fun e w' => e = .returned (.bool true) ∧ Ext w w' := by
  have HV := hide' hv
  have H8 := hide' h8
  obtain ⟨va, vc, rfl, _⟩ := hv
  clear h8
  by_cases h1 : (200 : Int) < (s.length : Int)
  · go_enter Tryz.func3, Tryz.ntmps3
    go_wp2
    go_ret
    exact ⟨rfl, Ext.refl _⟩
  have d1 : decide ((200 : Int) < (s.length : Int)) = false := by simpa using h1
  have HS5 : Hid (s.length ≤ 100000) := by show _ ≤ _; omega
  have q4 : ((strOfNums s).toList == (strOfNums s).toList) = true := by simp
  clear h1
  obtain ⟨L, HL⟩ : ∃ L, Hid ((turnB s).1 = L) := ⟨_, rfl⟩
  obtain ⟨T, HT⟩ : ∃ L, Hid ((turnB s).2 = L) := ⟨_, rfl⟩
  have HBK : Hid (backB L T = (s, 0)) := back_yes (by rw [← HL.out, ← HT.out])
  have HL5 : Hid (L.length ≤ 100000) := by show _ ≤ _; rw [← HL.out, turnB_len]; exact HS5.out
  have HL8 : Hid (Bytes8 L) := by show Bytes8 _; rw [← HL.out]; exact bwL_bytes (sortE_ord s).1 H8.out
  go_enter Tryz.func3, Tryz.ntmps3
  go_wp2_with fail
  refine (bwTurn_any _ s w HV.out H8.out HS5.out).mono ?_
  rw [HL.out, HT.out]
  rintro e w1 ⟨u1, rfl, ho, he⟩
  have O1 := hide' ho.sl
  have X1 := hide' he
  clear ho he
  go_wp2_with fail
  refine (bwBack_any _ L T w1 O1.out HL8.out HL5.out).mono ?_
  rw [HBK.out]
  rintro e w2 ⟨u2, rfl, ho, he⟩
  have O2 := hide' ho.sl
  have X2 := hide' (X1.out.trans he)
  clear ho he O1 X1 HL HT HBK HL5 HL8
  go_wp2_with fail
  refine (bjTurn_any _ s w2 (HV.out.ext X2.out) H8.out HS5.out).mono ?_
  rintro e w3 ⟨M, u3, rfl, hl, ho, he⟩
  have O3 := hide' ho.sl
  have P3 := hide' (O2.out.ext he)
  have X3 := hide' (X2.out.trans he)
  have HI1 := hide' hl
  have HM8 : Hid (Bytes8 M) := fun z hz => H8.out z ((hl.perm H8.out).mem_iff.1 hz)
  have HM5 : Hid (M.length ≤ 100000) := by show _ ≤ _; rw [hl.len H8.out]; exact HS5.out
  clear ho he hl O2 X2
  go_wp2_with fail
  refine (bjBack_any _ M w3 O3.out HM8.out HM5.out).mono ?_
  rintro e w4 ⟨x, u4, rfl, hx, ho, he⟩
  have hxs := HI1.out.back H8.out hx
  subst hxs
  have O4 := hide' ho.sl
  have P4 := hide' (P3.out.ext he)
  have X4 := hide' (X3.out.trans he)
  clear ho he hx P3 O3 X3
  go_wp2_with fail
  refine (bjBack_any _ x w4 (HV.out.ext X4.out) H8.out HS5.out).mono ?_
  rintro e w5 ⟨y, u5, rfl, hy, ho, he⟩
  have O5 := hide' ho.sl
  have P5 := hide' (P4.out.ext he)
  have Q5 := hide' (O4.out.ext he)
  have X5 := hide' (X4.out.trans he)
  have HI5 := hide' hy
  have HY8 : Hid (Bytes8 y) := fun z hz => H8.out z (hy.perm.mem_iff.1 hz)
  have HY5 : Hid (y.length ≤ 100000) := by show _ ≤ _; rw [hy.len]; exact HS5.out
  clear ho he hy P4 O4 X4
  go_wp2_with fail
  refine (bjTurn_any _ y w5 O5.out HY8.out HY5.out).mono ?_
  rintro e w6 ⟨z, u6, rfl, hz, ho, he⟩
  have hzs := HI5.out.turn hz
  subst hzs
  have X6 := hide' (X5.out.trans he)
  have s1 := (P5.out.ext he).str (P := Tryz.prog) 22 5 9 Tryz.underlying22 Tryz.underlying5 Tryz.underlying9
  have s2 := (HV.out.ext X6.out).str (P := Tryz.prog) 22 5 9 Tryz.underlying22 Tryz.underlying5 Tryz.underlying9
  have s3 := ho.sl.str (P := Tryz.prog) 22 5 9 Tryz.underlying22 Tryz.underlying5 Tryz.underlying9
  have s4 := (Q5.out.ext he).str (P := Tryz.prog) 22 5 9 Tryz.underlying22 Tryz.underlying5 Tryz.underlying9
  clear ho he hz X5 P5 Q5 O5
  go_wp2_with fail
  refine (topKnown_any _).mono ?_
  rintro e w7 ⟨rfl, he⟩
  have X7 := hide' (X6.out.trans he)
  clear he
  go_wp2
  go_ret
  exact ⟨rfl, X7.out⟩
end Go.Proofs.YtlmbdafilboblaaGreat
