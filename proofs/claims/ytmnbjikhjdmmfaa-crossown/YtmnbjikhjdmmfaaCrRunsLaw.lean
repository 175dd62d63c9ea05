/- CrossRuns: the walk. -/
import Derived.Test.YtmnbjikhjdmmfaaCrKnown
namespace Go.Proofs.Ytmnbjikhjdmmfaa
set_option linter.unusedVariables false
set_option linter.unusedSimpArgs false
open Go.RowKit

theorem crCells {w w' : World} {a b c : Value} {T : TypeId} (he : Ext (w.alloc (.cells #[a, b, c] T (0, 0))) w') : w'.cell? ⟨w.heap.size, 0, none⟩ = some a ∧ w'.cell? ⟨w.heap.size, 1, none⟩ = some b ∧ w'.cell? ⟨w.heap.size, 2, none⟩ = some c :=
  ⟨he.cellOf (by simp only [World.cell?, heap_alloc_top]; rfl), he.cellOf (by simp only [World.cell?, heap_alloc_top]; rfl), he.cellOf (by simp only [World.cell?, heap_alloc_top]; rfl)⟩

set_option maxHeartbeats 2000000 in
theorem lawRuns (v : Value) (s : List Int) (w : World) (hv : Sl .u8 w v s) (h8 : Bytes8 s) :
    Calls Try.prog 3 #[v] w fun e w' => e = .returned (.bool true) ∧ Ext w w' := by
  have HV := hide' hv
  have H8 := hide' h8
  obtain ⟨va, vc, rfl, _⟩ := hv
  by_cases h1 : (150 : Int) < (s.length : Int)
  · go_enter Try.func3, Try.ntmps3
    go_wp2
    go_ret
    exact ⟨rfl, Ext.refl _⟩
  have d1 : decide ((150 : Int) < (s.length : Int)) = false := by simpa using h1
  have HL : Hid (s.length ≤ 500) := by show _ ≤ _; omega
  clear h1 h8
  go_enter Try.func3, Try.ntmps3
  go_wp2_with fail
  refine (crsNew_any w).mono ?_
  rintro e w1 ⟨v, fp, rfl, hm, hn, he⟩
  have M1 := hide' hm
  have N1 := hide' hn
  have X1 := hide' he
  clear hm hn he
  obtain ⟨m, rfl⟩ := M1.out.ptr
  go_wp2_with fail
  refine (crsRun_ok _ _ s 0 0 0 fp _ M1.out (HV.out.ext X1.out) H8.out HL.out (by decide)).mono ?_
  rintro e w2 ⟨a, r, L, rfl, hR, ha, hr, _, hm, hb⟩
  have R2 := hide' hR
  have A2 := hide' ha.sl
  have B2 := hide' hr.sl
  have X2 := hide' (ButF.ext X1.out hb N1.out)
  have HLL : Hid (L.length ≤ 500) := by show _ ≤ _; have h1 := hR.len; have h2 := HL.out; omega
  have HCL : Hid ((lcpL s L).length ≤ 500) := by show _ ≤ _; have h1 := lcpL_le s L; have h2 := HLL.out; omega
  obtain ⟨aa, ac, rfl, _⟩ := ha.sl
  obtain ⟨ra, rc, rfl, _⟩ := hr.sl
  clear hm ha hr hb hR M1 N1 X1
  obtain ⟨C, HC⟩ : ∃ C, Hid (lcpL s L = C) := ⟨_, rfl⟩
  rw [HC.out] at B2 HCL ⊢
  have V2 := hide' (HV.out.ext (X2.out.trans (ext_alloc w2 (.cells #[.slice aa L.length ac, .slice ra C.length rc, .bool true] 27 (0, 0)))))
  go_wp2_with fail
  refine (srBytes_any _ s _ V2.out H8.out (by have := HL.out; omega)).mono ?_
  rintro e w3 ⟨u, L', rfl, hR, ho, he⟩
  obtain rfl := (hR.eq R2.out).1
  have O3 := hide' ho.sl
  have X3 := hide' he
  have V3 := hide' (V2.out.ext he)
  clear hR ho he R2
  go_wp2_with fail
  refine (rlcp_any _ _ s L' _ V3.out O3.out (by have := HL.out; omega) (by have := HLL.out; omega)).mono ?_
  rw [HC.out]
  rintro e w4 ⟨r4, rfl, ho, he⟩
  have O4 := hide' ho.sl
  have X4 := hide' (X3.out.trans he)
  have O34 := hide' (O3.out.ext he)
  have A4 := hide' (A2.out.ext ((ext_alloc _ _).trans X4.out))
  have B4 := hide' (B2.out.ext ((ext_alloc _ _).trans X4.out))
  obtain ⟨k0, k1, k2⟩ := crCells X4.out
  clear ho he X3 V3 V2 O3
  go_wp2_with fail
  refine (ints_same _ _ L' _ A4.out O34.out (by have := HLL.out; omega)).mono ?_
  rintro e w5 ⟨rfl, he⟩
  have X5 := hide' (X4.out.trans he)
  obtain ⟨i0, i1, i2⟩ := crCells X5.out
  have B5 := hide' (B4.out.ext he)
  have O5 := hide' (O4.out.ext he)
  clear he k0 k1 k2
  go_wp2_with fail
  refine (ints_same _ _ C _ B5.out O5.out (by have := HCL.out; omega)).mono ?_
  rintro e w6 ⟨rfl, he⟩
  have X6 := hide' (X5.out.trans he)
  clear he i0 i1 i2
  go_wp2_with fail
  refine (known_any w6).mono ?_
  rintro e w7 ⟨rfl, he⟩
  have X7 := hide' (X2.out.trans ((ext_alloc _ _).trans (X6.out.trans he)))
  clear he
  go_wp2
  go_ret
  exact ⟨rfl, X7.out⟩
end Go.Proofs.Ytmnbjikhjdmmfaa
