/- PeriodTells: the walk. -/
import Derived.Test.YtbfcgfpdgadofaaPerKnown
import Derived.Test.YtbfcgfpdgadofaaPerRef2
namespace Go.Proofs.Ytbfcgfpdgadofaa
set_option linter.unusedVariables false
set_option linter.unusedSimpArgs false
open Go.RowKit

set_option maxHeartbeats 400000 in
theorem lawTells (v : Value) (zs : List Int) (w : World) (hs : Sl .u8 w v zs) (hb : Bytes8 zs) :
    Calls Try.prog 3 #[v] w fun e w' => e = .returned (.bool true) ∧ Ext w w' := by
  have HS := hide' hs
  have HB := hide' hb
  clear hb
  obtain ⟨a, cap, rfl, hm2, hm3, _⟩ := hs
  unfold maxLen at hm3
  by_cases h1 : (150 : Int) < (zs.length : Int)
  · go_enter Try.func3, Try.ntmps3
    go_wp2
    go_ret
    exact ⟨rfl, Ext.refl _⟩
  have d1 : decide ((150 : Int) < (zs.length : Int)) = false := by simpa using h1
  have hlen : zs.length ≤ 1000000 := by omega
  clear h1
  obtain ⟨T, HT⟩ : ∃ t, Hid (zs.length / rootN zs = t) := ⟨_, rfl⟩
  obtain ⟨R, HR⟩ : ∃ t, Hid (zs.take (rootN zs) = t) := ⟨_, rfl⟩
  obtain ⟨P, HP⟩ : ∃ t, Hid (leastI zs = t) := ⟨_, rfl⟩
  have HBL : Hid ((borsL zs).length ≤ 1000000) := by show _ ≤ _; rw [borsL_len]; exact hlen
  obtain ⟨bs, HBS⟩ : ∃ t, Hid (borsL zs = t) := ⟨_, rfl⟩
  rw [HBS.out] at HBL
  go_enter Try.func3, Try.ntmps3
  go_wp2_with fail
  refine (root_any _ zs w HS.out hlen).mono ?_
  rw [HT.out, HR.out]
  rintro e w1 ⟨s1, rfl, ho, he⟩
  have HR1 := hide' ho.sl
  have X1 := hide' he
  clear ho he
  go_wp2_with fail
  refine (rroot_any _ zs w1 (HS.out.ext X1.out) HB.out hlen).mono ?_
  rw [HT.out, HR.out]
  rintro e w2 ⟨s2, rfl, ho, m, he⟩
  have HR2 := hide' ho
  have X2 : Hid (Ext w1 w2) := by rw [he]; exact Ext.drewN _ _
  have Y2 := hide' (X1.out.trans X2.out)
  clear ho he
  go_wp2_with fail
  refine (borders_any _ zs w2 (HS.out.ext Y2.out) hlen).mono ?_
  rw [HBS.out]
  rintro e w3 ⟨s3, rfl, ho, he⟩
  have HO3 := hide' ho.sl
  have X3 := hide' he
  have Y3 := hide' (Y2.out.trans he)
  clear ho he
  go_wp2_with fail
  refine (rborders_any _ zs w3 (HS.out.ext Y3.out) HB.out hlen).mono ?_
  rw [HBS.out]
  rintro e w4 ⟨s4, rfl, ho, he⟩
  have HO4 := hide' ho.sl
  have X4 := hide' he
  have Y4 := hide' (Y3.out.trans he)
  clear ho he
  go_wp2_with fail
  refine (ints_same _ _ bs w4 (HO3.out.ext X4.out) HO4.out HBL.out).mono ?_
  rintro e w5 ⟨rfl, he⟩
  have X5 := hide' he
  have Y5 := hide' (Y4.out.trans he)
  clear he
  go_wp2_with fail
  refine (least_any _ zs w5 (HS.out.ext Y5.out) hlen).mono ?_
  rw [HP.out]
  rintro e w6 ⟨rfl, he⟩
  have X6 := hide' he
  have Y6 := hide' (Y5.out.trans he)
  clear he
  go_wp2_with fail
  refine (toExt (rleast_any _ zs w6 (HS.out.ext Y6.out) HB.out hlen)).mono ?_
  rw [HP.out]
  rintro e w7 ⟨rfl, he⟩
  have Y7 := hide' (Y6.out.trans he)
  have Z7 := hide' ((((X3.out.trans X4.out).trans X5.out).trans X6.out).trans he)
  clear he
  have hq : ((strOfNums R).toList == (strOfNums R).toList) = true := by simp
  have st1 := ((HR1.out.ext X2.out).ext Z7.out).str (P := Try.prog) 22 5 9 Try.underlying22 Try.underlying5 Try.underlying9
  have st2 := (HR2.out.ext Z7.out).str (P := Try.prog) 22 5 9 Try.underlying22 Try.underlying5 Try.underlying9
  go_wp2_with fail
  refine (known_any _).mono ?_
  rintro e w8 ⟨rfl, he⟩
  have Y8 := hide' (Y7.out.trans he)
  clear he st1 st2
  go_wp2
  go_ret
  exact ⟨rfl, Y8.out⟩
end Go.Proofs.Ytbfcgfpdgadofaa
