/- CrossOwn: the walk. -/
import Derived.Test.YtmnbjikhjdmmfaaCrRunsLaw
import Derived.Test.YtmnbjikhjdmmfaaKripOwn
namespace Go.Proofs.Ytmnbjikhjdmmfaa
set_option linter.unusedVariables false
set_option linter.unusedSimpArgs false
open Go.RowKit

theorem emptyOwn (k : IntKind) (e : TypeId) (w : World) : Own k e w.heap.size (w.alloc (.cells #[] e)) (.slice (some ⟨w.heap.size, 0, none⟩) 0 0) [] := ⟨rfl, .inr ⟨w.heap.size, 0, _, rfl, Nat.le_refl _, heap_alloc_top _ _, Nat.le_refl _, by decide, rfl, rfl⟩⟩
/-- What a Verdict's rows are. -/
theorem cr_rows {s L : List Int} (h8 : Bytes8 s) (hl : s.length ≤ 500) (h : ResI s 256 L 0) : L.length = s.length ∧ (lcpL s L).length = s.length ∧ (lcpL s L).getD 0 0 = 0 := by
  obtain ⟨_, R, h2, rfl⟩ := h.ok (by omega) (fit256 h8)
  have hn : (natL R).length = s.length := by rw [natL_len, h2.len]
  have e := lcpL_yes (lcpOk_yes hn (ordB_nat h2.1))
  rw [toN_nat] at e
  refine ⟨hn, ?_, ?_⟩
  · rw [e, natL_len, lcpN_len, h2.len]
  · rw [e, natL_at, lcpN_zero]
    rfl

set_option maxHeartbeats 2000000 in
set_option maxRecDepth 100000 in
theorem lawOwn (v : Value) (s : List Int) (w : World) (hv : Sl .u8 w v s) (h8 : Bytes8 s) :
    Calls Try.prog 6 #[v] w fun e w' => e = .returned (.bool true) ∧ Ext w w' := by
  have HV := hide' hv
  have H8 := hide' h8
  obtain ⟨va, vc, rfl, _⟩ := hv
  by_cases h1 : (s.length : Int) < 1
  · go_enter Try.func6, Try.ntmps6
    go_wp2
    go_ret
    exact ⟨rfl, Ext.refl _⟩
  have d1 : decide ((s.length : Int) < 1) = false := decide_eq_false h1
  by_cases h2 : (100 : Int) < (s.length : Int)
  · go_enter Try.func6, Try.ntmps6
    go_wp2
    go_ret
    exact ⟨rfl, Ext.refl _⟩
  have d2 : decide ((100 : Int) < (s.length : Int)) = false := decide_eq_false h2
  obtain ⟨n, HN⟩ : ∃ n, Hid (s.length = n) := ⟨_, rfl⟩
  have hn1 : 1 ≤ n := by have := HN.out; omega
  have hn2 : n ≤ 100 := by have := HN.out; omega
  have HL : Hid (s.length ≤ 500) := by show _ ≤ _; omega
  have dn : ((n : Int) != (n : Int)) = false := by simp
  have dp : decide ((0 : Int) < (n : Int)) = true := decide_eq_true (by omega)
  have dp' : decide (0 < n) = true := decide_eq_true (by omega)
  rw [HN.out] at HV d1 d2 ⊢
  clear h1 h2 h8
  go_enter Try.func6, Try.ntmps6
  go_wp2_with fail
  refine (crsNew_any w).mono ?_
  rintro e w1 ⟨v, fp, rfl, hm, hn, he⟩
  have M1 := hide' hm
  have N1 := hide' hn
  have X1 := hide' he
  clear hm hn he
  obtain ⟨m, rfl⟩ := M1.out.ptr
  go_wp2_with (at_builtin; refine wpList_join _ rfl _ _ 22 rfl 5 .u8 1 Try.underlying22 infoU8 w1.heap.size (.slice (some ⟨w1.heap.size, 0, none⟩) 0 0) _ [] s rfl rfl (emptyOwn .u8 _ w1) (HV.out.ext (X1.out.trans (ext_alloc _ _))) ?c3 ?c5 ?_)
  case c3 => have := HN.out; simp only [List.length_nil]; unfold maxLen; omega
  case c5 => exact (ext_alloc _ _).size
  intro v2 w2 ho1 hb1
  have S2 : Hid (Own .u8 5 w1.heap.size w2 v2 s) := by
    show Own _ _ _ _ _ _
    simpa using ho1
  have X12 : Hid (Ext w1 w2) := Below.trans (ext_alloc _ _) hb1
  clear ho1 hb1
  go_wp2_with fail
  refine (crsRun_ok _ _ s 0 0 0 fp w2 (M1.out.ext X12.out) S2.out.sl H8.out HL.out (by decide)).mono ?_
  rintro e w3 ⟨a, r, L, rfl, hR, ha, hr, hap, hm, hb⟩
  have hfp : ∀ k ∈ fp, k < w1.heap.size := M1.out.lts
  have hz12 := X12.out.size
  have HFP : Hid (∀ k ∈ fp, k < w2.heap.size) := fun k hk => by have := hfp k hk; omega
  have HF1 := hide' hfp
  have HN1 := hide' N1.out
  have M3 : Hid (Cro w3 (.pointer (some ⟨m, 0, none⟩)) 1 1 1 fp) := hm
  have S3 := hide' (ButF.own S2.out hb (fun j hj hk => by have := (World.ownsRow.lt S2.out j hj).1; have := hfp j hk; omega))
  have SB2 := hide' S2.out.lts
  have X3 := hide' (ButF.ext (X1.out.trans X12.out) hb N1.out)
  have HXW : Hid (w.heap.size ≤ w2.heap.size) := by show _ ≤ _; have := X1.out.size; omega
  obtain ⟨l1, l2, l3⟩ := cr_rows H8.out HL.out hR
  have RR := hide' hR
  obtain ⟨C, HC⟩ : ∃ C, Hid (lcpL s L = C) := ⟨_, rfl⟩
  rw [HC.out] at hr l2 l3
  rw [HN.out] at l1 l2
  have L1 := hide' l1
  have L2 := hide' l2
  have L3 := hide' l3
  obtain ⟨ga, ac, rfl, hga, _, hac⟩ := ha.shape (fun e => by rw [e] at l1; simp at l1; omega)
  obtain ⟨gr, rc, rfl, hgr, _, hrc⟩ := hr.shape (fun e => by rw [e] at l2; simp at l2; omega)
  have HGA : Hid (w2.heap.size ≤ ga ∧ ga < w3.heap.size) := World.ownsRow.lt ha ga rfl
  have HGR : Hid (w2.heap.size ≤ gr ∧ gr < w3.heap.size) := World.ownsRow.lt hr gr rfl
  have HGN : Hid (gr ≠ ga) := fun e => hap ga rfl (by simp [Value.ownBlock, e])
  have A3 := hide' ha
  have B3 := hide' hr
  rw [L1.out] at A3 ⊢
  rw [L2.out] at B3 ⊢
  clear hm hb ha hr hap hR l1 l2 l3 hga hgr M1 N1 X1 X12 hfp hz12 S2 hac hrc
  have HM : Hid (Own .i64 3 (w3.heap.size + 1) ((w3.alloc (.cells #[.slice (some ⟨ga, 0, none⟩) n ac, .slice (some ⟨gr, 0, none⟩) n rc, .bool true] 27 (0, 0))).alloc (.cells #[] 3)) (.slice (some ⟨w3.heap.size + 1, 0, none⟩) 0 0) []) := by
    have := emptyOwn .i64 3 (w3.alloc (.cells #[.slice (some ⟨ga, 0, none⟩) n ac, .slice (some ⟨gr, 0, none⟩) n rc, .bool true] 27 (0, 0)))
    rwa [show (w3.alloc (.cells #[.slice (some ⟨ga, 0, none⟩) n ac, .slice (some ⟨gr, 0, none⟩) n rc, .bool true] 27 (0, 0))).heap.size = w3.heap.size + 1 by simp] at this
  go_wp2_with (at_builtin; refine wpList_join _ rfl _ _ 25 rfl 3 .i64 8 Try.underlying25 infoI64 (w3.heap.size + 1) (.slice (some ⟨w3.heap.size + 1, 0, none⟩) 0 0) _ [] L rfl rfl HM.out ((A3.out.sl.ext (ext_alloc _ _)).ext (ext_alloc _ _)) ?c3 ?c5 ?_)
  case c3 => have := L1.out; simp only [List.length_nil]; unfold maxLen; omega
  case c5 => simp
  intro v4 w4 ho1 hb1
  have O4 : Hid (Own .i64 3 (w3.heap.size + 1) w4 v4 L) := by
    show Own _ _ _ _ _ _
    simpa using ho1
  have X4 : Hid (Ext (w3.alloc (.cells #[.slice (some ⟨ga, 0, none⟩) n ac, .slice (some ⟨gr, 0, none⟩) n rc, .bool true] 27 (0, 0))) w4) := by
    refine Below.trans (ext_alloc _ (.cells #[] 3)) (Below.mono hb1 ?_)
    simp
  obtain ⟨k0, k1, k2⟩ := crCells X4.out
  have X34 := hide' ((ext_alloc w3 (.cells #[.slice (some ⟨ga, 0, none⟩) n ac, .slice (some ⟨gr, 0, none⟩) n rc, .bool true] 27 (0, 0))).trans X4.out)
  have A4 := hide' (A3.out.ext X34.out)
  have B4 := hide' (B3.out.ext X34.out)
  clear ho1 hb1 HM A3 B3
  obtain ⟨x, HX⟩ : ∃ x, Hid (L.getD 0 0 = x) := ⟨_, rfl⟩
  obtain ⟨z, HZ⟩ : ∃ z, Hid (C.getD 0 0 = z) := ⟨_, rfl⟩
  obtain ⟨x', hx'⟩ : ∃ x', IntKind.i64.wrap (x + 1) = x' := ⟨_, rfl⟩
  obtain ⟨z', hz'⟩ : ∃ z', IntKind.i64.wrap (z + 1) = z' := ⟨_, rfl⟩
  have ca := A4.out.cell L1.out 0 (by omega)
  have fa := A4.out.frozen L1.out 0
  have B4' := hide' (Own.keep B4.out HGN.out (but_set w4 ga 0 (.int .i64 x')))
  have cb := B4'.out.cell L2.out 0 (by omega)
  have fb := B4'.out.frozen L2.out 0
  rw [HX.out] at ca
  rw [HZ.out] at cb
  have k1' := (but_set w4 ga 0 (.int .i64 x')).cell k1 (by simp; have := HGA.out; omega)
  have BB := hide' ((ButF.ofBut (fp := [ga, gr]) (by simp) (but_set w4 ga 0 (.int .i64 x'))).trans (Grows.refl _ _) (ButF.ofBut (fp := [ga, gr]) (by simp) (but_set (w4.setCell ⟨ga, 0, none⟩ (.int .i64 x')) gr 0 (.int .i64 z'))))
  clear A4 B4 B4'
  go_wp2_with fail
  generalize ((w4.setCell ⟨ga, 0, none⟩ (.int .i64 x')).setCell ⟨gr, 0, none⟩ (.int .i64 z')) = W at *
  have M5 := hide' ((M3.out.ext X34.out).butF BB.out (fun k hk hj => by
    have h1 := HFP.out k hk
    have h2 := HGA.out
    have h3 := HGR.out
    simp only [List.mem_cons, List.not_mem_nil, or_false] at hj
    rcases hj with e | e <;> omega))
  have S5 := hide' (ButF.own (S3.out.ext X34.out) BB.out (fun j hj hk => by
    have h1 := SB2.out j hj
    have h2 := HGA.out
    have h3 := HGR.out
    simp only [List.mem_cons, List.not_mem_nil, or_false] at hk
    rcases hk with e | e <;> omega))
  have O5 := hide' (ButF.own O4.out BB.out (fun j hj hk => by
    have h1 := (World.ownsRow.lt O4.out j hj).1
    have h2 := HGA.out
    have h3 := HGR.out
    simp only [List.mem_cons, List.not_mem_nil, or_false] at hk
    rcases hk with e | e <;> omega))
  have X5 := hide' (ButF.ext (X3.out.trans X34.out) BB.out (fun k hk => by
    have h0 := HXW.out
    have h2 := HGA.out
    have h3 := HGR.out
    simp only [List.mem_cons, List.not_mem_nil, or_false] at hk
    rcases hk with e | e <;> omega))
  have HSB : Hid (∀ j, v2.ownBlock = some j → w1.heap.size ≤ j) := fun j hj => (World.ownsRow.lt S5.out j hj).1
  clear ca fa cb fb k0 k1 k2 k1' BB M3 S3 O4 X3 X4 X34
  refine (crsRun_ok _ _ s 1 1 1 fp W M5.out S5.out.sl H8.out HL.out (by decide)).mono ?_
  rintro e w6 ⟨a6, r6, L6, rfl, hR, ha, hr, hap, hm, hb⟩
  obtain ⟨l1, l2, l3⟩ := cr_rows H8.out HL.out hR
  obtain rfl := (hR.eq RR.out).1
  rw [HC.out] at hr l2 l3
  rw [HN.out] at l1 l2
  obtain ⟨ga6, ac6, rfl, _⟩ := ha.shape (fun e => by rw [e] at l1; simp at l1; omega)
  obtain ⟨gr6, rc6, rfl, _⟩ := hr.shape (fun e => by rw [e] at l2; simp at l2; omega)
  have O6 := hide' (ButF.own O5.out hb (fun j hj hk => by
    have h1 := (World.ownsRow.lt O5.out j hj).1
    have h2 := HFP.out j hk
    have h3 := HGA.out
    omega))
  have S6 := hide' (ButF.own S5.out hb (fun j hj hk => by
    have h1 := HSB.out j hj
    have h2 := HF1.out j hk
    omega))
  have X6 := hide' (ButF.ext X5.out hb HN1.out)
  have A6 := hide' ha.sl
  have B6 := hide' hr
  rw [L1.out] at A6 ⊢
  rw [L2.out] at B6 ⊢
  clear hR ha hr hap hm hb l1 l2 O5 S5 M5 X5
  go_wp2_with fail
  refine (ints_same _ _ L6 _ (A6.out.ext (ext_alloc _ _)) (O6.out.sl.ext (ext_alloc _ _)) (by have := L1.out; omega)).mono ?_
  rintro e w7 ⟨rfl, he⟩
  obtain ⟨j0, j1, j2⟩ := crCells he
  have X67 := hide' ((ext_alloc _ _).trans he)
  have c0 := (B6.out.ext X67.out).cell L2.out 0 (by omega)
  rw [l3] at c0
  have sv := (S6.out.sl.ext X67.out).str (P := Try.prog) 22 5 9 Try.underlying22 Try.underlying5 Try.underlying9
  have ss := (HV.out.ext (X6.out.trans X67.out)).str (P := Try.prog) 22 5 9 Try.underlying22 Try.underlying5 Try.underlying9
  have q1 : ((strOfNums s).toList == (strOfNums s).toList) = true := by simp
  clear he
  go_wp2_with fail
  refine (known_any w7).mono ?_
  rintro e w8 ⟨rfl, he⟩
  have X8 := hide' (X6.out.trans (X67.out.trans he))
  clear he
  go_wp2
  go_ret
  exact ⟨rfl, X8.out⟩
end Go.Proofs.Ytmnbjikhjdmmfaa
