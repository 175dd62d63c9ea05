/- Texts laid together: CrObj, CrVer, CrOp, RefInts, TopKnown, BwtMore, BwtMath2, BwOfOp, BwCnt, Lit, Tab6, BwTab, BwRows, BwOp, LynMath, LynFac, FacMath, PerMath, OmMath, RkMath, OmInMath. -/
import Derived.Test.YtlmbdafilboblaaGreatPart4
import Derived.Test.YtlmbdafilboblaaGreatPart2
import Derived.Test.YtlmbdafilboblaaGreatProg
import Derived.Laws.LoneSync
import Derived.BigRegion
import Derived.Test.YtlmbdafilboblaaGreatPart3
import Derived.Test.YtlmbdafilboblaaGreatPart1
import Derived.Lib.SlBytesConst
import Derived.OwnWalk
import Derived.Laws.OwnMore
/- The program's Cross in memory; its counters by sync/atomic; contract of New. -/
namespace Go.Proofs.YtlmbdafilboblaaGreat
set_option linter.unusedVariables false
set_option linter.unusedSimpArgs false
open Go.RowKit

/-- v is a Cross that was asked so often; its blocks are fp. -/
def Cro (w : World) (v : Value) (x0 x1 x2 : Nat) (fp : List Nat) : Prop :=
  ∃ m, v = .pointer (some ⟨m, 0, none⟩) ∧ w.heap[m]? = some (.cells #[.int .i64 x0, .int .i64 x1, .int .i64 x2] 70 (0, 0)) ∧ fp = [m]
section
variable {w w' : World} {v : Value} {x0 x1 x2 : Nat} {fp : List Nat}
theorem Cro.ptr (h : Cro w v x0 x1 x2 fp) : ∃ m, v = .pointer (some ⟨m, 0, none⟩) := by obtain ⟨m, h, _⟩ := h; exact ⟨m, h⟩
theorem Cro.same (h : Cro w v x0 x1 x2 fp) (hs : ∀ k ∈ fp, w'.heap[k]? = w.heap[k]?) : Cro w' v x0 x1 x2 fp := by
  obtain ⟨m, h1, h2, rfl⟩ := h
  exact ⟨m, h1, (hs m (by simp)).trans h2, rfl⟩
theorem Cro.lts (h : Cro w v x0 x1 x2 fp) : Lts fp w := by
  obtain ⟨m, h1, h2, rfl⟩ := h
  intro k hk
  rw [List.mem_singleton.1 hk]
  exact (Array.getElem?_eq_some_iff.1 h2).1
theorem Cro.ext (h : Cro w v x0 x1 x2 fp) (he : Ext w w') : Cro w' v x0 x1 x2 fp := h.same (he.same h.lts)
theorem Cro.butF {gp : List Nat} (h : Cro w v x0 x1 x2 fp) (hb : ButF gp w w') (hd : Dis fp gp) : Cro w' v x0 x1 x2 fp := h.same (hb.same h.lts hd)
end
theorem set3_0 {w : World} {b : Nat} {x0 x1 x2 v : Value} {T : TypeId} (h : w.heap[b]? = some (.cells #[x0, x1, x2] T (0, 0))) : (w.setCell ⟨b, 0, none⟩ v).heap[b]? = some (.cells #[v, x1, x2] T (0, 0)) := by
  simp only [World.setCell, Array.getElem?_modify]
  rw [if_pos trivial, h]
  simp
theorem set3_1 {w : World} {b : Nat} {x0 x1 x2 v : Value} {T : TypeId} (h : w.heap[b]? = some (.cells #[x0, x1, x2] T (0, 0))) : (w.setCell ⟨b, 1, none⟩ v).heap[b]? = some (.cells #[x0, v, x2] T (0, 0)) := by
  simp only [World.setCell, Array.getElem?_modify]
  rw [if_pos trivial, h]
  simp
theorem set3_2 {w : World} {b : Nat} {x0 x1 x2 v : Value} {T : TypeId} (h : w.heap[b]? = some (.cells #[x0, x1, x2] T (0, 0))) : (w.setCell ⟨b, 2, none⟩ v).heap[b]? = some (.cells #[x0, x1, v] T (0, 0)) := by
  simp only [World.setCell, Array.getElem?_modify]
  rw [if_pos trivial, h]
  simp
theorem cells3 {w : World} {b : Nat} {x0 x1 x2 : Value} {T : TypeId} (h : w.heap[b]? = some (.cells #[x0, x1, x2] T (0, 0))) : w.cell? ⟨b, 0, none⟩ = some x0 ∧ w.cell? ⟨b, 1, none⟩ = some x1 ∧ w.cell? ⟨b, 2, none⟩ = some x2 ∧ w.frozen? ⟨b, 0, none⟩ = false ∧ w.frozen? ⟨b, 1, none⟩ = false ∧ w.frozen? ⟨b, 2, none⟩ = false := by
  refine ⟨by simp [World.cell?, h], by simp [World.cell?, h], by simp [World.cell?, h], by simp [World.frozen?, h], by simp [World.frozen?, h], by simp [World.frozen?, h]⟩

theorem results_agg_tmp {P : Program} {fn : Func} {p u : Tmp} {ty : TypeId} (h : fn.results = #[.cell p ty, .tmp u]) (tmps : Array Value) (w : World) (g : Nat) (t : TypeId) (cs : Array Value) (fr : Nat × Nat) (d : TypeDesc)
    (hp : tmps.getD p undef = .pointer (some ⟨g, 0, none⟩)) (hg : w.heap[g]? = some (.cells cs t fr)) (hu : P.underlying ty = some d) (hd : (match d with | .struct _ | .array _ _ => true | _ => false) = true) (hi : (P.info? ty).map (·.size) = some cs.size) :
    (results fn tmps).run P w = .ok (.tuple #[.agg cs, tmps.getD u undef]) w := by
  have hp' : tmps[p]?.getD undef = .pointer (some ⟨g, 0, none⟩) := by simpa using hp
  rw [results_cell_tmp h]
  simp [hp', asAddr, run_loadVar_row w g t ty cs fr d hg hu hd hi, Result.andThen]

/-- Which one is asked is counted. -/
def up1 (i j x : Nat) : Nat := if i = j then x + 1 else x

theorem noByte3 {w : World} {m : Nat} {x0 x1 x2 : Int} {T : TypeId} (h : w.heap[m]? = some (.cells #[.int .i64 x0, .int .i64 x1, .int .i64 x2] T (0, 0))) : ∀ j x, w.cell? ⟨m, j, none⟩ ≠ some (.int .u8 x) := by
  intro j x hc
  simp only [World.cell?, h] at hc
  match j, hc with
  | 0, hc => simp at hc
  | 1, hc => simp at hc
  | 2, hc => simp at hc
  | j + 3, hc => simp at hc


/-- The i-th of three. -/
def x3 (x0 x1 x2 i : Nat) : Nat := if i = 0 then x0 else if i = 1 then x1 else x2
theorem x3_le {x0 x1 x2 i n : Nat} (h0 : x0 ≤ n) (h1 : x1 ≤ n) (h2 : x2 ≤ n) : x3 x0 x1 x2 i ≤ n := by
  unfold x3
  repeat' split
  all_goals assumption
theorem cells3i {w : World} {m x0 x1 x2 i : Nat} {T : TypeId} (h : w.heap[m]? = some (.cells #[.int .i64 x0, .int .i64 x1, .int .i64 x2] T (0, 0))) (hi : i < 3) :
    w.cell? ⟨m, i, none⟩ = some (.int .i64 (x3 x0 x1 x2 i)) ∧ w.frozen? ⟨m, i, none⟩ = false := by
  obtain ⟨c0, c1, c2, f0, f1, f2⟩ := cells3 h
  have hi3 : i = 0 ∨ i = 1 ∨ i = 2 := by omega
  rcases hi3 with rfl | rfl | rfl
  · exact ⟨c0, f0⟩
  · exact ⟨c1, f1⟩
  · exact ⟨c2, f2⟩
theorem set3i {w : World} {m x0 x1 x2 i : Nat} {T : TypeId} (h : w.heap[m]? = some (.cells #[.int .i64 x0, .int .i64 x1, .int .i64 x2] T (0, 0))) (hi : i < 3) :
    (w.setCell ⟨m, i, none⟩ (.int .i64 ((x3 x0 x1 x2 i : Nat) + 1 : Int))).heap[m]? = some (.cells #[.int .i64 (up1 i 0 x0), .int .i64 (up1 i 1 x1), .int .i64 (up1 i 2 x2)] T (0, 0)) := by
  have hi3 : i = 0 ∨ i = 1 ∨ i = 2 := by omega
  rcases hi3 with rfl | rfl | rfl
  · rw [set3_0 h]; simp [up1, x3]
  · rw [set3_1 h]; simp [up1, x3]
  · rw [set3_2 h]; simp [up1, x3]

theorem atAdd_any (m i x : Nat) (w : World) (hx : x ≤ 2000) (hc : w.cell? ⟨m, i, none⟩ = some (.int .i64 (x : Int))) (hz : w.frozen? ⟨m, i, none⟩ = false) :
    Calls Tryz.prog 51 #[.pointer (some ⟨m, i, none⟩), .int .i64 1] w fun e w' => (∃ u, e = .returned u) ∧ w' = w.setCell ⟨m, i, none⟩ (.int .i64 ((x : Int) + 1)) := by
  have hadd := run_call_add (P := Tryz.prog) Tryz.func61 (by kernel_rfl) (by kernel_rfl) (by kernel_rfl) .i64 (by kernel_rfl) (x := (x : Int)) (y := 1) (s := (x : Int) + 1) hc hz (by
    have hw : IntKind.i64.wrap ((x : Int) + 1) = (x : Int) + 1 := by rw [IntKind.wrap_i64]; omega
    simp [go_sem, hw])
  go_enter Tryz.func51, Tryz.ntmps51
  go_wp2
  go_ret
  exact ⟨⟨_, rfl⟩, rfl⟩
theorem crsNew_any (w : World) : Calls Tryz.prog 21 #[] w fun e w' => ∃ v fp, e = .returned v ∧ Cro w' v 0 0 0 fp ∧ (∀ k ∈ fp, w.heap.size ≤ k) ∧ Ext w w' := by
  go_enter Tryz.func21, Tryz.ntmps21
  go_wp2
  go_ret
  exact ⟨_, _, rfl, ⟨w.heap.size, rfl, heap_alloc_top _ _, rfl⟩, fun k hk => by rw [List.mem_singleton.1 hk]; exact Nat.le_refl _, ext_alloc _ _⟩
end Go.Proofs.YtlmbdafilboblaaGreat

/- Contracts of cross.ask and cross.verdict. -/
namespace Go.Proofs.YtlmbdafilboblaaGreat
set_option linter.unusedVariables false
set_option linter.unusedSimpArgs false
open Go.RowKit

theorem crsAsk_arg (s : Value) (i : Int) (w : World) (h : i < 0 ∨ 2 < i) :
    Calls Tryz.prog 50 #[.int .i64 i, s] w fun e w' => e = .returned (.tuple #[.slice none 0 0, .int .i64 1]) ∧ w' = w := by
  have e0 : (i == 0) = false := by simp; omega
  have e1 : (i == 1) = false := by simp; omega
  have e2 : (i == 2) = false := by simp; omega
  clear h
  go_enter Tryz.func50, Tryz.ntmps50
  go_wp2
  go_ret2
  exact ⟨rfl, rfl⟩
set_option maxHeartbeats 1000000 in
theorem crsAsk_any (s : Value) (i : Nat) (zs : List Int) (w : World) (hi : i < 3) (hv : Sl .u8 w s zs) (h8 : Bytes8 zs) (hlen : zs.length ≤ 1000000) :
    Calls Tryz.prog 50 #[.int .i64 i, s] w fun e w' => ∃ u L c, e = .returned (.tuple #[u, .int .i64 c]) ∧ ResI zs 256 L c ∧ Own .i64 3 w.heap.size w' u L ∧ Ext w w' := by
  have hi3 : i = 0 ∨ i = 1 ∨ i = 2 := by omega
  have C0 := hide' (saBytes_any s zs w hv h8 hlen)
  have C1 := hide' (skBytes_any s zs w hv h8 hlen)
  have C2 := hide' (dbBytes_any s zs w hv h8 hlen)
  rcases hi3 with rfl | rfl | rfl
  · go_enter Tryz.func50, Tryz.ntmps50
    go_wp2_with fail
    refine C0.out.mono ?_
    rintro e w1 ⟨u, L, c, rfl, hr, ho, he⟩
    have R1 := hide' hr
    have O1 := hide' ho
    have X1 := hide' he
    clear hr ho he C0 C1 C2
    go_wp2
    go_ret2
    exact ⟨_, _, _, rfl, R1.out, O1.out, X1.out⟩
  · go_enter Tryz.func50, Tryz.ntmps50
    go_wp2_with fail
    refine C1.out.mono ?_
    rintro e w1 ⟨u, L, c, rfl, hr, ho, he⟩
    have R1 := hide' hr
    have O1 := hide' ho
    have X1 := hide' he
    clear hr ho he C0 C1 C2
    go_wp2
    go_ret2
    exact ⟨_, _, _, rfl, R1.out, O1.out, X1.out⟩
  · go_enter Tryz.func50, Tryz.ntmps50
    go_wp2_with fail
    refine C2.out.mono ?_
    rintro e w1 ⟨u, L, c, rfl, hr, ho, he⟩
    have R1 := hide' hr
    have O1 := hide' ho
    have X1 := hide' he
    clear hr ho he C0 C1 C2
    go_wp2
    go_ret2
    exact ⟨_, _, _, rfl, R1.out, O1.out, X1.out⟩

set_option maxHeartbeats 1000000 in
theorem crsVerdict_any (s : Value) (zs L : List Int) (a0 a1 a2 : Option Addr) (c0 c1 c2 : Nat) (w : World) (hv : Sl .u8 w s zs) (h8 : Bytes8 zs) (hl : zs.length ≤ 500) (hR : ResI zs 256 L 0)
    (h0 : Sl .i64 w (.slice a0 L.length c0) L) (h1 : Sl .i64 w (.slice a1 L.length c1) L) (h2 : Sl .i64 w (.slice a2 L.length c2) L) :
    Calls Tryz.prog 38 #[s, .agg #[.slice a0 L.length c0, .slice a1 L.length c1, .slice a2 L.length c2]] w fun e w' => ∃ r, e = .returned (.agg #[.slice a0 L.length c0, r, .bool true]) ∧ Own .i64 3 w.heap.size w' r (lcpL zs L) ∧ Ext w w' := by
  have HCH : Hid (chkB zs L (lcpL zs L) = true) := by
    obtain ⟨_, R, hR1, hR2⟩ := hR.ok (by omega) (fit256 h8)
    rw [hR2]
    exact chkB_yes (saB_yes hR1)
  have HLL : Hid (L.length ≤ 500) := by show _ ≤ _; have h1 := hR.len; omega
  have HP : Hid ((lcpL zs L).length ≤ 500) := by show _ ≤ _; have h1 := lcpL_le zs L; have := HLL.out; omega
  have HV := hide' hv
  have H8 := hide' h8
  have HL := hide' hl
  have H0 := hide' h0
  have H1 := hide' h1
  have H2 := hide' h2
  clear hR hv h8 hl h0 h1 h2
  have HG : Hid (∀ o o' : Obj, ((w.alloc o).alloc o').heap[w.heap.size]? = some o) := fun o o' => (heap_alloc_old _ _ (by simp)).trans (heap_alloc_top w o)
  have HG1 : Hid (∀ o o' : Obj, ((w.alloc o).alloc o').heap[w.heap.size + 1]? = some o') := fun o o' => by
    have := heap_alloc_top (w.alloc o) o'
    rwa [show (w.alloc o).heap.size = w.heap.size + 1 by simp] at this
  have HX : Hid (∀ o o' : Obj, Ext w ((w.alloc o).alloc o')) := fun o o' => (ext_alloc _ _).trans (ext_alloc _ _)
  have EQL : Hid (∀ (u : Value) (W : World) (x : List Int) (u' : Value), Sl .i64 W u x → Sl .i64 W u' x → x.length ≤ 500 → Calls Tryz.prog 54 #[u, u'] W fun e w' => e = .returned (.bool true) ∧ Ext W w') := fun u W x u' q1 q2 q3 => by
    refine (equalI_any u u' x x W q1 q2 (by omega) (by omega)).mono ?_
    rintro e w' ⟨rfl, m, rfl⟩
    exact ⟨by simp, Ext.drewN W m⟩
  go_enter Tryz.func38, Tryz.ntmps38
  go_wp2_with fail
  refine (klcp_any _ _ zs L _ (HV.out.ext (HX.out _ _)) (H0.out.ext (HX.out _ _)) HL.out (by have := HLL.out; omega)).mono ?_
  rintro e w1 ⟨r, rfl, ho, he⟩
  obtain ⟨ra, rc, hrs, _⟩ := ho.sl
  subst hrs
  have O1 := hide' ho
  have X1 := hide' ((HX.out _ _).trans he)
  have HB1 := hide' ((he.block w.heap.size (by simp; omega)).trans (HG.out _ _))
  have HV1 := hide' ((he.block (w.heap.size + 1) (by simp)).trans (HG1.out _ _))
  have hz1 := he.size
  clear ho he
  go_wp2_with fail
  refine (phLcp_any _ _ zs L w1 (HV.out.ext X1.out) (H0.out.ext X1.out) HL.out (by have := HLL.out; omega)).mono ?_
  rintro e w2 ⟨r2, rfl, ho, he⟩
  have O2 := hide' ho
  have O12 := hide' (O1.out.ext he)
  have X2 := hide' (X1.out.trans he)
  have HB2 := hide' ((he.block w.heap.size (Array.getElem?_eq_some_iff.1 HB1.out).1).trans HB1.out)
  have HV2 := hide' ((he.block (w.heap.size + 1) (Array.getElem?_eq_some_iff.1 HV1.out).1).trans HV1.out)
  clear ho he HB1 HV1
  obtain ⟨e0, e1, e2, _⟩ := cells3 HB2.out
  go_wp2_with fail
  refine (EQL.out _ w2 L _ (H0.out.ext X2.out) (H1.out.ext X2.out) HLL.out).mono ?_
  rintro e w3 ⟨rfl, he⟩
  have O13 := hide' (O12.out.ext he)
  have O23 := hide' (O2.out.ext he)
  have X3 := hide' (X2.out.trans he)
  have HB3 := hide' ((he.block w.heap.size (Array.getElem?_eq_some_iff.1 HB2.out).1).trans HB2.out)
  have HV3 := hide' ((he.block (w.heap.size + 1) (Array.getElem?_eq_some_iff.1 HV2.out).1).trans HV2.out)
  clear he HB2 HV2 e0 e1 e2
  obtain ⟨e0, e1, e2, _⟩ := cells3 HB3.out
  go_wp2_with fail
  refine (EQL.out _ w3 L _ (H0.out.ext X3.out) (H2.out.ext X3.out) HLL.out).mono ?_
  rintro e w4 ⟨rfl, he⟩
  have O14 := hide' (O13.out.ext he)
  have O24 := hide' (O23.out.ext he)
  have X4 := hide' (X3.out.trans he)
  have HV4 := hide' ((he.block (w.heap.size + 1) (Array.getElem?_eq_some_iff.1 HV3.out).1).trans HV3.out)
  clear he HB3 HV3 e0 e1 e2
  go_wp2_with fail
  refine (EQL.out _ w4 (lcpL zs L) _ O14.out.sl O24.out.sl HP.out).mono ?_
  rintro e w5 ⟨rfl, he⟩
  have O15 := hide' (O14.out.ext he)
  have X5 := hide' (X4.out.trans he)
  have HV5 := hide' ((he.block (w.heap.size + 1) (Array.getElem?_eq_some_iff.1 HV4.out).1).trans HV4.out)
  clear he HV4 O24
  go_wp2_with fail
  refine (chLcp_any _ _ _ zs L (lcpL zs L) w5 (HV.out.ext X5.out) H8.out (H0.out.ext X5.out) O15.out.sl HL.out (by have := HLL.out; omega) (by have := HP.out; omega)).mono ?_
  rw [HCH.out]
  rintro e w6 ⟨rfl, he⟩
  have O16 := hide' (O15.out.ext he)
  have X6 := hide' (X5.out.trans he)
  have HV6 := hide' ((he.block (w.heap.size + 1) (Array.getElem?_eq_some_iff.1 HV5.out).1).trans HV5.out)
  clear he HV5
  obtain ⟨e0, e1, e2, f0, f1, f2⟩ := cells3 HV6.out
  go_wp2
  have HVE := hide' (set3_2 (v := .bool true) (set3_1 (v := .slice ra (lcpL zs L).length rc) (set3_0 (v := .slice a0 L.length c0) HV6.out)))
  have B5 := hide' ((ButF.ofBut (fp := [w.heap.size + 1]) (by simp) (but_set w6 (w.heap.size + 1) 0 (.slice a0 L.length c0))).trans (Grows.refl _ _) ((ButF.ofBut (fp := [w.heap.size + 1]) (by simp) (but_set _ (w.heap.size + 1) 1 (.slice ra (lcpL zs L).length rc))).trans (Grows.refl _ _) (ButF.ofBut (fp := [w.heap.size + 1]) (by simp) (but_set _ (w.heap.size + 1) 2 (.bool true)))))
  (try simp only [Exit.inBlock, Exit.then])
  refine bodyPost_ret (results_cell_row rfl _ _ (w.heap.size + 1) 50 _ (0, 0) _ rfl HVE.out Tryz.underlying50 rfl (by kernel_rfl)) rfl ⟨_, rfl, ?_, ButF.ext X6.out B5.out (by simp)⟩
  refine (ButF.own O16.out B5.out fun j hj e => ?_).low (by simp; omega)
  have := (World.ownsRow.lt O16.out j hj).1
  simp only [List.mem_singleton] at e
  simp at this
  omega
end Go.Proofs.YtlmbdafilboblaaGreat

/- Contracts of Cross.Sort and Cross.Run. -/
namespace Go.Proofs.YtlmbdafilboblaaGreat
set_option linter.unusedVariables false
set_option linter.unusedSimpArgs false
open Go.RowKit

theorem crsSort_arg (v s : Value) (i : Int) (w : World) (h : i < 0 ∨ 2 < i) (hv : ∃ m, v = .pointer (some ⟨m, 0, none⟩)) :
    Calls Tryz.prog 37 #[v, .int .i64 i, s] w fun e w' => ∃ u, e = .returned (.tuple #[u, .int .i64 1]) ∧ Own .i64 3 w.heap.size w' u [] ∧ Ext w w' := by
  obtain ⟨m, rfl⟩ := hv
  have C := hide' (crsAsk_arg s i w h)
  clear h
  go_enter Tryz.func37, Tryz.ntmps37
  go_wp2_with fail
  refine C.out.mono ?_
  rintro e w1 ⟨rfl, rfl⟩
  clear C
  go_wp2
  go_ret2
  exact ⟨_, rfl, Own.nil _ _ _ _, Ext.refl _⟩
theorem crsSort_nil (s : Value) (i : Int) (w : World) :
    Calls Tryz.prog 37 #[.pointer none, .int .i64 i, s] w fun e w' => ∃ u, e = .returned (.tuple #[u, .int .i64 1]) ∧ Ext w w' := by
  go_enter Tryz.func37, Tryz.ntmps37
  go_wp2
  go_ret2
  exact ⟨_, rfl, Ext.refl _⟩
theorem crsSort_long (v s : Value) (zs : List Int) (i : Nat) (x0 x1 x2 : Nat) (fp : List Nat) (w : World) (h : Cro w v x0 x1 x2 fp) (hi : i < 3) (hs : Sl .u8 w s zs) (hz : ∀ z ∈ zs, z = 0) (hl : 100000 < zs.length) (hl2 : zs.length ≤ 100003) :
    Calls Tryz.prog 37 #[v, .int .i64 i, s] w fun e w' => ∃ u, e = .returned (.tuple #[u, .int .i64 2]) ∧ Ext w w' := by
  obtain ⟨m, rfl⟩ := h.ptr
  have h8 : Bytes8 zs := fun z hm => by rw [hz z hm]; omega
  have C := hide' (crsAsk_any s i zs w hi hs h8 (by omega))
  have HLO := hide' hl
  clear h hz hi hs h8 hl hl2
  go_enter Tryz.func37, Tryz.ntmps37
  go_wp2_with fail
  refine C.out.mono ?_
  rintro e w1 ⟨u, L, c, rfl, hr, _, he⟩
  obtain ⟨rfl, rfl⟩ := hr.long HLO.out
  have X1 := hide' he
  clear hr he C
  go_wp2
  go_ret2
  exact ⟨_, rfl, X1.out⟩

theorem But.ofFoot {m : Nat} {w w' : World} (h : ButF [m] w w') : But m w w' := ⟨h.os, h.tape, h.output, h.size, fun k hk hn => h.block k hk (fun e => hn (by rw [List.mem_singleton.1 e]))⟩

set_option maxHeartbeats 1000000 in
theorem crsSort_two (v s : Value) (zs : List Int) (i x0 x1 x2 : Nat) (fp : List Nat) (w : World) (h : Cro w v x0 x1 x2 fp) (hi : i < 3) (hs : Sl .u8 w s zs) (h8 : Bytes8 zs) (hl : zs.length ≤ 500) (hb : x0 ≤ 2000 ∧ x1 ≤ 2000 ∧ x2 ≤ 2000) :
    Calls Tryz.prog 37 #[v, .int .i64 i, s] w fun e w' => ∃ u L, e = .returned (.tuple #[u, .int .i64 0]) ∧ ResI zs 256 L 0 ∧ Own .i64 3 w.heap.size w' u L ∧ Cro w' v (up1 i 0 x0) (up1 i 1 x1) (up1 i 2 x2) fp ∧ ButF fp w w' := by
  obtain ⟨m, rfl, h2, rfl⟩ := h
  have C := hide' (crsAsk_any s i zs w hi hs h8 (by omega))
  have HB : Hid (x3 x0 x1 x2 i ≤ 2000) := x3_le hb.1 hb.2.1 hb.2.2
  have H2 := hide' h2
  have H8 := hide' h8
  have HL := hide' hl
  have HI := hide' hi
  have HM : Hid (m < w.heap.size) := (Array.getElem?_eq_some_iff.1 h2).1
  have HIF : Hid (decide ((i : Int) < 0) = false ∧ decide ((i : Int) < 3) = true) := ⟨by simp, by simp; omega⟩
  clear h2 h8 hl hi hb hs
  go_enter Tryz.func37, Tryz.ntmps37
  go_wp2_with fail
  refine C.out.mono ?_
  rintro e w1 ⟨u, L, c, rfl, hr, ho, he⟩
  obtain ⟨hc, _⟩ := hr.ok (by have := HL.out; omega) (fit256 H8.out)
  subst hc
  have R1 := hide' hr
  have O1 := hide' ho
  have X1 := hide' he
  have M1 := hide' ((he.block m HM.out).trans H2.out)
  obtain ⟨cc, ff⟩ := cells3i M1.out HI.out
  have HA := hide' (atAdd_any m i _ w1 HB.out cc ff)
  have S1 := hide' (set3i M1.out HI.out)
  have hlt := HI.out
  clear hr ho he C cc ff
  go_wp2_with fail
  refine HA.out.mono ?_
  rintro e w2 ⟨⟨y, rfl⟩, rfl⟩
  have B1 : Hid (ButF [m] w1 (w1.setCell ⟨m, i, none⟩ (.int .i64 ((x3 x0 x1 x2 i : Nat) + 1 : Int)))) := ButF.ofBut (by simp) (but_set _ _ _ _)
  clear HA
  go_wp2
  go_ret2
  refine ⟨u, L, rfl, R1.out, ButF.own O1.out B1.out (fun j hj e => ?_), ⟨m, rfl, S1.out, rfl⟩, (ButF.ofExt X1.out).trans (Grows.refl _ _) B1.out⟩
  have := (World.ownsRow.lt O1.out j hj).1
  have := HM.out
  simp only [List.mem_singleton] at e
  omega
theorem crsSort_ok (v s : Value) (zs : List Int) (i x0 x1 x2 : Nat) (fp : List Nat) (w : World) (h : Cro w v x0 x1 x2 fp) (hi : i < 3) (hs : Sl .u8 w s zs) (h8 : Bytes8 zs) (hl : zs.length ≤ 500) (hb : x0 ≤ 1000 ∧ x1 ≤ 1000 ∧ x2 ≤ 1000) :
    Calls Tryz.prog 37 #[v, .int .i64 i, s] w fun e w' => ∃ u L, e = .returned (.tuple #[u, .int .i64 0]) ∧ ResI zs 256 L 0 ∧ Own .i64 3 w.heap.size w' u L ∧ Cro w' v (up1 i 0 x0) (up1 i 1 x1) (up1 i 2 x2) fp ∧ ButF fp w w' :=
  crsSort_two v s zs i x0 x1 x2 fp w h hi hs h8 hl (by omega)

theorem crsRun_nil (s : Value) (w : World) :
    Calls Tryz.prog 22 #[.pointer none, s] w fun e w' => ∃ u, e = .returned (.tuple #[.agg #[.slice none 0 0, .slice none 0 0, .bool false], .int .i64 u]) ∧ u = 1 ∧ Ext w w' := by
  go_enter Tryz.func22, Tryz.ntmps22
  go_wp2
  (try simp only [Exit.inBlock, Exit.then])
  refine bodyPost_ret (results_agg_tmp rfl _ _ w.heap.size 50 _ (0, 0) _ rfl (heap_alloc_new _ _) Tryz.underlying50 rfl (by kernel_rfl)) rfl ⟨1, rfl, rfl, ext_alloc _ _⟩
theorem crsRun_long (v s : Value) (zs : List Int) (x0 x1 x2 : Nat) (fp : List Nat) (w : World) (h : Cro w v x0 x1 x2 fp) (hs : Sl .u8 w s zs) (hz : ∀ z ∈ zs, z = 0) (hl : 100000 < zs.length) (hl2 : zs.length ≤ 100003) :
    Calls Tryz.prog 22 #[v, s] w fun e w' => e = .returned (.tuple #[.agg #[.slice none 0 0, .slice none 0 0, .bool false], .int .i64 2]) ∧ Ext w w' := by
  obtain ⟨m, rfl⟩ := h.ptr
  obtain ⟨a, c, rfl, _⟩ := hs
  have d3 : decide ((100000 : Int) < (zs.length : Int)) = true := decide_eq_true (by omega)
  have d3' : decide (100000 < zs.length) = true := decide_eq_true (by omega)
  clear h hz
  go_enter Tryz.func22, Tryz.ntmps22
  go_wp2
  (try simp only [Exit.inBlock, Exit.then])
  refine bodyPost_ret (results_agg_tmp rfl _ _ w.heap.size 50 _ (0, 0) _ rfl (heap_alloc_new _ _) Tryz.underlying50 rfl (by kernel_rfl)) rfl ⟨rfl, ext_alloc _ _⟩

/-- How often one was asked, behind i rounds. -/
def upA (i j x : Nat) : Nat := if j < i then x + 1 else x
theorem upA_up {i j x : Nat} : up1 i j (upA i j x) = upA (i + 1) j x := by
  unfold up1 upA
  by_cases h1 : i = j
  · rw [if_pos h1, if_neg (by omega), if_pos (by omega)]
  · rw [if_neg h1]
    by_cases h2 : j < i
    · rw [if_pos h2, if_pos (by omega)]
    · rw [if_neg h2, if_neg (by omega)]
theorem upA_le {i j x n : Nat} (h : x ≤ n) : upA i j x ≤ n + 1 := by unfold upA; split <;> omega
/-- The j-th order, if i rounds are done. -/
def Got (B : Nat) (w : World) (L : List Int) (i j : Nat) (v : Value) : Prop := j < i → Own .i64 3 B w v L ∧ ∃ a c, v = .slice a L.length c
theorem Got.butF {B : Nat} {w w' : World} {L : List Int} {i j : Nat} {v : Value} {fp : List Nat} (h : Got B w L i j v) (hb : ButF fp w w') (hf : ∀ k ∈ fp, k < B) : Got B w' L i j v := fun hj => by
  obtain ⟨h1, h2⟩ := h hj
  refine ⟨ButF.own h1 hb (fun k hk e => ?_), h2⟩
  have := (World.ownsRow.lt h1 k hk).1
  have := hf k e
  omega
theorem Got.next {B : Nat} {w : World} {L : List Int} {i j : Nat} {v : Value} (h : Got B w L i j v) (hn : i ≠ j) : Got B w L (i + 1) j v := fun hj => h (by omega)
theorem Got.put {w : World} {L : List Int} {i m B : Nat} {v0 v1 v2 u : Value} {T : TypeId} (h : w.heap[m]? = some (.cells #[v0, v1, v2] T (0, 0))) (hi : i < 3) (h0 : Got B w L i 0 v0) (h1 : Got B w L i 1 v1) (h2 : Got B w L i 2 v2) (hu : Own .i64 3 B w u L ∧ ∃ a c, u = .slice a L.length c) (hm : m < B) :
    ∃ y0 y1 y2, (w.setCell ⟨m, i, none⟩ u).heap[m]? = some (.cells #[y0, y1, y2] T (0, 0)) ∧ Got B (w.setCell ⟨m, i, none⟩ u) L (i + 1) 0 y0 ∧ Got B (w.setCell ⟨m, i, none⟩ u) L (i + 1) 1 y1 ∧ Got B (w.setCell ⟨m, i, none⟩ u) L (i + 1) 2 y2 := by
  have hbf : ButF [m] w (w.setCell ⟨m, i, none⟩ u) := ButF.ofBut (by simp) (but_set _ _ _ _)
  have hf : ∀ k ∈ [m], k < B := fun k hk => by rw [List.mem_singleton.1 hk]; exact hm
  have hu' : ∀ n, Got B (w.setCell ⟨m, i, none⟩ u) L n i u := fun n => Got.butF (fun _ => hu) hbf hf
  have hi3 : i = 0 ∨ i = 1 ∨ i = 2 := by omega
  rcases hi3 with rfl | rfl | rfl
  · exact ⟨u, v1, v2, set3_0 h, hu' _, (h1.butF hbf hf).next (by omega), (h2.butF hbf hf).next (by omega)⟩
  · exact ⟨v0, u, v2, set3_1 h, (h0.butF hbf hf).next (by omega), hu' _, (h2.butF hbf hf).next (by omega)⟩
  · exact ⟨v0, v1, u, set3_2 h, (h0.butF hbf hf).next (by omega), (h1.butF hbf hf).next (by omega), hu' _⟩

set_option maxHeartbeats 2000000 in
theorem crsRun_ok (v s : Value) (zs : List Int) (x0 x1 x2 : Nat) (fp : List Nat) (w : World) (h : Cro w v x0 x1 x2 fp) (hs : Sl .u8 w s zs) (h8 : Bytes8 zs) (hl : zs.length ≤ 500) (hb : x0 ≤ 1000 ∧ x1 ≤ 1000 ∧ x2 ≤ 1000) :
    Calls Tryz.prog 22 #[v, s] w fun e w' => ∃ a r L, e = .returned (.tuple #[.agg #[a, r, .bool true], .int .i64 0]) ∧ ResI zs 256 L 0 ∧ Own .i64 3 w.heap.size w' a L ∧ Own .i64 3 w.heap.size w' r (lcpL zs L) ∧ (∀ j, a.ownBlock = some j → r.ownBlock ≠ some j) ∧ Cro w' v (x0 + 1) (x1 + 1) (x2 + 1) fp ∧ ButF fp w w' := by
  obtain ⟨m, rfl, h2, rfl⟩ := h
  have hR0 : ResI zs 256 (natL (sortE zs)) 0 := .inr (.inr ⟨by omega, fit256 h8, rfl, sortE zs, sortE_ord zs, rfl⟩)
  generalize natL (sortE zs) = L at hR0
  have HR := hide' hR0
  have H2 := hide' h2
  have H8 := hide' h8
  have HL := hide' hl
  have HBN := hide' hb
  have HM : Hid (m < w.heap.size) := (Array.getElem?_eq_some_iff.1 h2).1
  have HS := hide' hs
  obtain ⟨a, c, rfl, _⟩ := id hs
  have d3 : decide ((100000 : Int) < (zs.length : Int)) = false := decide_eq_false (by omega)
  have d3' : decide (100000 < zs.length) = false := decide_eq_false (by omega)
  have HG : Hid (∀ o o' : Obj, ((w.alloc o).alloc o').heap[w.heap.size]? = some o) := fun o o' => (heap_alloc_old _ _ (by simp)).trans (heap_alloc_top w o)
  have HG1 : Hid (∀ o o' : Obj, ((w.alloc o).alloc o').heap[w.heap.size + 1]? = some o') := fun o o' => by
    have := heap_alloc_top (w.alloc o) o'
    rwa [show (w.alloc o).heap.size = w.heap.size + 1 by simp] at this
  have HX : Hid (∀ o o' : Obj, Ext w ((w.alloc o).alloc o')) := fun o o' => (ext_alloc _ _).trans (ext_alloc _ _)
  have HSZ : Hid (∀ o o' : Obj, ((w.alloc o).alloc o').heap.size = w.heap.size + 2) := fun o o' => by simp
  clear h2 h8 hl hs hR0 hb
  go_enter Tryz.func22, Tryz.ntmps22
  go_wp2
  go_loopw [17] (fun iv wr => ∃ (i : Nat), i ≤ 3 ∧ iv = .int .i64 i ∧ ∃ v0 v1 v2, Hid (wr.heap[w.heap.size + 1]? = some (.cells #[v0, v1, v2] 71 (0, 0))) ∧ Hid (Got (w.heap.size + 2) wr L i 0 v0) ∧ Hid (Got (w.heap.size + 2) wr L i 1 v1) ∧ Hid (Got (w.heap.size + 2) wr L i 2 v2)
    ∧ Hid (wr.heap[w.heap.size]? = some (Obj.cells #[.slice none 0 0, .slice none 0 0, .bool false] 50 (0, 0)))
    ∧ Hid (wr.heap[m]? = some (.cells #[.int .i64 (upA i 0 x0 : Nat), .int .i64 (upA i 1 x1 : Nat), .int .i64 (upA i 2 x2 : Nat)] 70 (0, 0))) ∧ Hid (ButF [m] w wr) ∧ Hid (w.heap.size + 2 ≤ wr.heap.size)) (fun iv _ => 3 - (intOf iv).toNat)
  case atStart =>
    refine ⟨0, by omega, rfl, _, _, _, HG1.out _ _, fun h => absurd h (by omega), fun h => absurd h (by omega), fun h => absurd h (by omega), HG.out _ _, ?_, ButF.ofExt (HX.out _ _), Nat.le_of_eq (HSZ.out _ _).symm⟩
    show _ = _
    rw [(HX.out _ _).block m HM.out, H2.out]
    simp [upA]
  case round =>
    obtain ⟨i, hi, rfl, v0, v1, v2, HC, G0, G1, G2, HV, HCR, HBF, HWS⟩ := hrel
    by_cases hlt : i < 3
    · have d1 : decide ((i : Int) < 3) = true := by simp; omega
      have HSR := hide' (HS.out.but' (noByte3 H2.out) (But.ofFoot HBF.out))
      have C := hide' (crsSort_two (.pointer (some ⟨m, 0, none⟩)) _ zs i _ _ _ [m] wr ⟨m, rfl, HCR.out, rfl⟩ hlt HSR.out H8.out HL.out (by
        have h1 := HBN.out
        have h2 := @upA_le i 0 x0 1000 (by omega)
        have h3 := @upA_le i 1 x1 1000 (by omega)
        have h4 := @upA_le i 2 x2 1000 (by omega)
        omega))
      go_wp2_with fail
      refine C.out.mono ?_
      rintro e w1 ⟨u, L1, rfl, hr, ho, hcr, hbf⟩
      obtain ⟨rfl, _⟩ := HR.out.eq hr
      obtain ⟨m', hme, hcm, _⟩ := hcr
      have hmm : m' = m := by simp at hme; exact hme.symm
      rw [hmm] at hcm
      rw [upA_up, upA_up, upA_up] at hcm
      have hgs := HWS.out
      have hms := HM.out
      have hC1 : w1.heap[w.heap.size + 1]? = some (.cells #[v0, v1, v2] 71 (0, 0)) := (hbf.block _ (by omega) (by simp; omega)).trans HC.out
      have hV1 : w1.heap[w.heap.size]? = some (Obj.cells #[.slice none 0 0, .slice none 0 0, .bool false] 50 (0, 0)) := (hbf.block _ (by omega) (by simp; omega)).trans HV.out
      have hO := ho.low (show w.heap.size + 2 ≤ wr.heap.size from hgs)
      obtain ⟨ua, uc, rfl, _⟩ := hO.sl
      have hf : ∀ k ∈ [m], k < w.heap.size + 2 := fun k hk => by rw [List.mem_singleton.1 hk]; omega
      obtain ⟨y0, y1, y2, q, q0, q1, q2⟩ := Got.put hC1 hlt (G0.out.butF hbf hf) (G1.out.butF hbf hf) (G2.out.butF hbf hf) ⟨hO, _, _, rfl⟩ (by omega)
      have HC2 := hide' q
      have K0 := hide' q0
      have K1 := hide' q1
      have K2 := hide' q2
      have hbs : ButF [w.heap.size + 1] w1 (w1.setCell ⟨w.heap.size + 1, i, none⟩ (.slice ua L.length uc)) := ButF.ofBut (by simp) (but_set _ _ _ _)
      have HV2 := hide' ((hbs.block w.heap.size (Array.getElem?_eq_some_iff.1 hV1).1 (by simp)).trans hV1)
      have HCR2 := hide' ((hbs.block m (Array.getElem?_eq_some_iff.1 hcm).1 (by simp; omega)).trans hcm)
      have HBF2 : Hid (ButF [m] w (w1.setCell ⟨w.heap.size + 1, i, none⟩ (.slice ua L.length uc))) := (HBF.out.trans (Grows.refl _ _) hbf).trans (fun k hk => .inr (by rw [List.mem_singleton.1 hk]; omega)) hbs
      have HWS2 : Hid (w.heap.size + 2 ≤ (w1.setCell ⟨w.heap.size + 1, i, none⟩ (.slice ua L.length uc)).heap.size) := Nat.le_trans hgs (Nat.le_trans hbf.size hbs.size)
      obtain ⟨fc, ff⟩ : (∃ y, w1.cell? ⟨w.heap.size + 1, i, none⟩ = some y) ∧ w1.frozen? ⟨w.heap.size + 1, i, none⟩ = false := by
        obtain ⟨c0, c1, c2, f0, f1, f2⟩ := cells3 hC1
        have hi3 : i = 0 ∨ i = 1 ∨ i = 2 := by omega
        rcases hi3 with rfl | rfl | rfl
        · exact ⟨⟨_, c0⟩, f0⟩
        · exact ⟨⟨_, c1⟩, f1⟩
        · exact ⟨⟨_, c2⟩, f2⟩
      obtain ⟨y, fy⟩ := fc
      clear C HC G0 G1 G2 HV HCR HBF HWS HSR hr ho hcm hbf hgs hms hC1 hV1 hO hf q q0 q1 q2 hbs hmm hme
      go_wp2
      go_roundw
      case rel => exact ⟨i + 1, by omega, by go_num, y0, y1, y2, HC2, K0, K1, K2, HV2, HCR2, HBF2, HWS2⟩
      case measure => simp [intOf]; omega
    · have d1 : decide ((i : Int) < 3) = false := by simp; omega
      have hi3 : i = 3 := by omega
      have g0 := G0.out
      have g1 := G1.out
      have g2 := G2.out
      have hcr := HCR.out
      rw [hi3] at g0 g1 g2 hcr
      obtain ⟨o0, a0, k0, rfl⟩ := g0 (by omega)
      obtain ⟨o1, a1, k1, rfl⟩ := g1 (by omega)
      obtain ⟨o2, a2, k2, rfl⟩ := g2 (by omega)
      have HC4 : Hid (wr.heap[m]? = some (.cells #[.int .i64 (x0 + 1 : Nat), .int .i64 (x1 + 1 : Nat), .int .i64 (x2 + 1 : Nat)] 70 (0, 0))) := hcr
      have O0 := hide' o0
      have HSR := hide' (HS.out.but' (noByte3 H2.out) (But.ofFoot HBF.out))
      have C := hide' (crsVerdict_any _ zs L a0 a1 a2 k0 k1 k2 wr HSR.out H8.out HL.out HR.out o0.sl o1.sl o2.sl)
      obtain ⟨e0, e1, e2, _⟩ := cells3 HC.out
      clear g0 g1 g2 hcr o0 o1 o2 G0 G1 G2 HCR HC hi3 HSR
      go_wp2_with fail
      refine C.out.mono ?_
      rintro e w4 ⟨r, rfl, ho, he⟩
      have O4 := hide' ho
      have E4 := hide' he
      have HAP : Hid (∀ j, (Value.slice a0 L.length k0).ownBlock = some j → r.ownBlock ≠ some j) := fun j h1 h2 => by
        have a1 := O0.out.lts j h1
        have a2 := (World.ownsRow.lt ho j h2).1
        omega
      have O34 := hide' (O0.out.ext he)
      have HV4 := hide' ((he.block w.heap.size (Array.getElem?_eq_some_iff.1 HV.out).1).trans HV.out)
      have HC5 := hide' ((he.block m (Array.getElem?_eq_some_iff.1 HC4.out).1).trans HC4.out)
      obtain ⟨ra, rc, hrs, _⟩ := ho.sl
      subst hrs
      clear ho he C e0 e1 e2
      obtain ⟨c0, c1, c2, f0, f1, f2⟩ := cells3 HV4.out
      go_wp2
      have HVE := hide' (set3_2 (v := .bool true) (set3_1 (v := .slice ra (lcpL zs L).length rc) (set3_0 (v := .slice a0 L.length k0) HV4.out)))
      have B5 := hide' ((ButF.ofBut (fp := [w.heap.size]) (by simp) (but_set w4 w.heap.size 0 (.slice a0 L.length k0))).trans (Grows.refl _ _) ((ButF.ofBut (fp := [w.heap.size]) (by simp) (but_set _ w.heap.size 1 (.slice ra (lcpL zs L).length rc))).trans (Grows.refl _ _) (ButF.ofBut (fp := [w.heap.size]) (by simp) (but_set _ w.heap.size 2 (.bool true)))))
      (try simp only [Exit.inBlock, Exit.then])
      have hms := HM.out
      have hgs := HWS.out
      refine bodyPost_ret (results_agg_tmp rfl _ _ w.heap.size 50 _ (0, 0) _ rfl HVE.out Tryz.underlying50 rfl (by kernel_rfl)) rfl ⟨_, _, L, rfl, HR.out, ?_, ?_, HAP.out, ⟨m, rfl, ?_, rfl⟩, ?_⟩
      · refine (ButF.own O34.out B5.out fun j hj e => ?_).low (by omega)
        have := (World.ownsRow.lt O34.out j hj).1
        simp only [List.mem_singleton] at e
        omega
      · refine (ButF.own O4.out B5.out fun j hj e => ?_).low (by omega)
        have := (World.ownsRow.lt O4.out j hj).1
        simp only [List.mem_singleton] at e
        omega
      · rw [B5.out.block m (Array.getElem?_eq_some_iff.1 HC5.out).1 (by simp; omega)]
        exact HC5.out
      · exact (HBF.out.trans (Grows.refl _ _) (ButF.ofExt E4.out)).trans (fun k hk => .inr (by rw [List.mem_singleton.1 hk]; exact Nat.le_refl _)) B5.out
end Go.Proofs.YtlmbdafilboblaaGreat

/- The contract of whorlref4.Ints: are two rows of numbers one? -/
namespace Go.Proofs.YtlmbdafilboblaaGreat
set_option linter.unusedVariables false
set_option linter.unusedSimpArgs false
open Go.RowKit

set_option maxHeartbeats 400000 in
theorem ints_any (u v : Value) (x y : List Int) (w : World) (hu : Sl .i64 w u x) (hv : Sl .i64 w v y) (hx : x.length ≤ 1000000) (hy : y.length ≤ 1000000) :
    Calls Tryz.prog 23 #[u, v] w fun e w' => e = .returned (.bool (decide (x = y))) ∧ ∃ m, w' = w.drewN m := by
  have HU := hide' hu
  have HV := hide' hv
  obtain ⟨a, c, rfl, _⟩ := hu
  obtain ⟨a', c', rfl, _⟩ := hv
  by_cases hl : x.length = y.length
  · obtain ⟨n, hn1⟩ : ∃ n, x.length = n := ⟨_, rfl⟩
    have hn2 : y.length = n := by omega
    rw [hn1] at HU hx ⊢
    rw [hn2] at HV hy ⊢
    have HXL := hide' hn1
    have HYL := hide' hn2
    clear hn1 hn2 hl
    go_enter Tryz.func23, Tryz.ntmps23
    go_wp2
    go_loopw [5] (fun vk wr => ∃ (k : Nat), k ≤ n ∧ vk = .int .i64 k ∧ Hid (x.take k = y.take k) ∧ ∃ m, wr = w.drewN m) (fun vk _ => n - (intOf vk).toNat)
    case atStart => exact ⟨0, Nat.zero_le _, rfl, (show _ = _ by simp), 0, rfl⟩
    case round =>
      obtain ⟨k, hk, rfl, HK, m, rfl⟩ := hrel
      by_cases l1 : k < n
      · have hne1 : x ≠ [] := fun h => by have := HXL.out; rw [h] at this; simp at this; omega
        have hne2 : y ≠ [] := fun h => by have := HYL.out; rw [h] at this; simp at this; omega
        obtain ⟨_, b1, o1, e1, c1⟩ := HU.out.at hne1
        obtain ⟨_, b2, o2, e2, c2⟩ := HV.out.at hne2
        have c1' := c1 k l1
        have c2' := c2 k l1
        obtain ⟨p, HP⟩ : ∃ p, Hid (x.getD k 0 = p) := ⟨_, rfl⟩
        obtain ⟨q, HQ⟩ : ∃ q, Hid (y.getD k 0 = q) := ⟨_, rfl⟩
        rw [HP.out] at c1'
        rw [HQ.out] at c2'
        subst e1 e2
        clear c1 c2 hne1 hne2
        have l1' : (k : Int) < n := by omega
        by_cases hpq : p = q
        · have HK' : Hid (x.take (k + 1) = y.take (k + 1)) := take_ext_succ (by rw [HXL.out]; exact l1) (by rw [HYL.out]; exact l1) HK.out (by rw [HP.out, HQ.out, hpq])
          subst hpq
          go_wp2_with fail
          go_quiet (fail)
          go_wp2
          go_roundw
          case rel => exact ⟨k + 1, by omega, by go_num, HK', _, rfl⟩
          case measure => simp [intOf]; omega
        · have hpq' : (p == q) = false := by simpa using hpq
          have HD : Hid (decide (x = y) = false) := by
            show _ = _
            refine decide_eq_false fun h => hpq ?_
            rw [← HP.out, ← HQ.out, h]
          clear hpq
          go_wp2_with fail
          go_quiet (fail)
          go_wp2
          go_ret
          rw [HD.out]
          exact ⟨rfl, _, by first | rfl | rw [World.drewN_drewN]⟩
      · have l1' : decide ((k : Int) < n) = false := by simp; omega
        have HD : Hid (decide (x = y) = true) := by
          show _ = _
          refine decide_eq_true ?_
          have := HK.out
          rwa [List.take_of_length_le (by rw [HXL.out]; omega), List.take_of_length_le (by rw [HYL.out]; omega)] at this
        go_wp2
        go_ret
        rw [HD.out]
        exact ⟨rfl, _, rfl⟩
  · have hd : ((x.length : Int) == (y.length : Int)) = false := by simp; omega
    have HD : Hid (decide (x = y) = false) := by
      show _ = _
      exact decide_eq_false fun h => hl (by rw [h])
    clear hl
    go_enter Tryz.func23, Tryz.ntmps23
    go_wp2
    go_ret
    rw [HD.out]
    exact ⟨rfl, 0, rfl⟩

theorem ints_same (u v : Value) (x : List Int) (w : World) (hu : Sl .i64 w u x) (hv : Sl .i64 w v x) (hx : x.length ≤ 1000000) :
    Calls Tryz.prog 23 #[u, v] w fun e w' => e = .returned (.bool true) ∧ Ext w w' := by
  have := toExt (ints_any u v x x w hu hv hx hx)
  rwa [decide_eq_true rfl] at this
end Go.Proofs.YtlmbdafilboblaaGreat

/- whorltop's own known answer: banana, by all three sorters. -/
namespace Go.Proofs.YtlmbdafilboblaaGreat
set_option linter.unusedVariables false
set_option linter.unusedSimpArgs false
open Go.RowKit

set_option maxHeartbeats 2000000 in
theorem topKnown_any (w : World) : Calls Tryz.prog 9 #[] w fun e w' => e = .returned (.bool true) ∧ Ext w w' := by
  have hc6 := fun w => Go.Lib.run_convert_bytes_const (P := Tryz.prog) w 22 5 #[.int .u8 98, .int .u8 97, .int .u8 110, .int .u8 97, .int .u8 110, .int .u8 97] 6 6 Tryz.underlying22 Tryz.underlying5
  have H6 : Hid (∀ w : World, Sl .u8 (w.alloc (.cells (([98, 97, 110, 97, 110, 97] : List Int).map (Value.int .u8)).toArray 5 (6, 7))) (.slice (some ⟨w.heap.size, 0, none⟩) 6 6) [98, 97, 110, 97, 110, 97]) := fun w => Sl.lit' (k := .u8) (e := 5) (fr := (6, 7)) w [98, 97, 110, 97, 110, 97] 6 rfl (by decide)
  have H1 : Hid (∀ (w : World), Sl .i64 (w.alloc (.cells (([5, 3, 1, 0, 4, 2] : List Int).map (Value.int .i64)).toArray 3)) (.slice (some ⟨w.heap.size, 0, none⟩) 6 6) [5, 3, 1, 0, 4, 2]) := fun w => Sl.lit (k := .i64) (e := 3) w _ 6 rfl (by decide)
  have J1 : Hid (∀ (w : World) (o : Obj), Sl .i64 ((w.alloc o).alloc (.cells (([5, 3, 1, 0, 4, 2] : List Int).map (Value.int .i64)).toArray 3)) (.slice (some ⟨w.heap.size + 1, 0, none⟩) 6 6) [5, 3, 1, 0, 4, 2]) := fun w o => by
    have := H1.out (w.alloc o)
    rwa [show (w.alloc o).heap.size = w.heap.size + 1 by simp] at this
  have E2 : Hid (∀ (w : World) (o o' : Obj), Ext w ((w.alloc o).alloc o')) := fun w o o' => (ext_alloc w o).trans (ext_alloc _ o')
  go_enter Tryz.func9, Tryz.ntmps9
  go_wp2_with fail
  refine (crsNew_any w).mono ?_
  rintro e w1 ⟨v, fp, rfl, hm, hn, he⟩
  have M1 := hide' hm
  have N1 := hide' hn
  have X1 := hide' he
  clear hm hn he
  obtain ⟨m, rfl⟩ := M1.out.ptr
  go_wp2_with fail
  refine (crsRun_ok _ _ [98, 97, 110, 97, 110, 97] 0 0 0 fp _ (M1.out.ext (ext_alloc _ _)) (H6.out w1) banana_bytes (by decide) (by decide)).mono ?_
  rintro e w3 ⟨a, r, L, rfl, hR, ha, hr, _, hm, hb⟩
  obtain ⟨_, R, hR1, rfl⟩ := hR.ok (by decide) (fit256 banana_bytes)
  obtain rfl := hR1.eq banana_ord
  have A3 := hide' ha.sl
  have X3 := hide' (ButF.ext (X1.out.trans (ext_alloc _ _)) hb N1.out)
  obtain ⟨aa, ac, rfl, _⟩ := ha.sl
  obtain ⟨ra, rc, rfl, _⟩ := hr.sl
  clear hm ha hr hb hR hR1 M1 N1 X1
  go_wp2_with fail
  refine (ints_same _ _ [5, 3, 1, 0, 4, 2] _ (A3.out.ext (E2.out w3 _ _)) (J1.out w3 _) (by decide)).mono ?_
  rintro e w4 ⟨rfl, he⟩
  have X4 := hide' (X3.out.trans ((E2.out w3 _ _).trans he))
  clear he
  go_wp2
  go_ret
  exact ⟨rfl, X4.out⟩
end Go.Proofs.YtlmbdafilboblaaGreat

/- A text turned: its letters; a walk through all rows is a text's. Plain numbers, no conditions. -/
namespace Go.Proofs.YtlmbdafilboblaaGreat
set_option linter.unusedVariables false
set_option linter.unusedSimpArgs false

theorem map_getI (l : List Int) : (List.range l.length).map (fun p => l.getD p 0) = l := by
  refine List.ext_getElem (by simp) fun k h1 h2 => ?_
  simp [List.getD, List.getElem?_eq_getElem h2]
/-- It has as many of each byte as the text. -/
theorem bw_perm {s : List Int} {A : List Nat} (hA : A.Perm (List.range s.length)) : (bwL s A).Perm s := by
  have h := (ahead_perm hA).map fun p => s.getD p 0
  rw [map_getI, List.map_map] at h
  refine List.Perm.trans (List.Perm.of_eq ?_) h
  refine rowI_ext (by rw [bw_len hA]; simp) fun k hk => ?_
  rw [bw_len hA] at hk
  rw [bw_at hA hk, mapI_at _ _ hk]
  rfl
theorem bw_first {s : List Int} {A : List Nat} (hA : A.Perm (List.range s.length)) (h0 : 0 < s.length) : (bwL s A).getD 0 0 = s.getD (s.length - 1) 0 ∧ 0 < bwAt s A := by
  have hat : 0 < bwAt s A := by
    rcases Nat.eq_zero_or_pos (bwAt s A) with e | e
    · have := (at_is hA (Nat.zero_le _)).2 e.symm
      have h2 : s.length = 0 := this
      omega
    · exact e
  refine ⟨?_, hat⟩
  rw [bw_at hA h0, ahead_at hA]
  have : rowOf ((s.length :: A).idxOf 0) 0 = 0 := by
    unfold rowOf
    exact if_pos hat
  rw [this]
  rfl

theorem byte_row {at' k : Nat} : byteOf at' (rowOf at' k) = k := by
  unfold rowOf byteOf
  split <;> split <;> omega
theorem row_ne {at' k : Nat} : rowOf at' k ≠ at' := by
  unfold rowOf
  split <;> omega
theorem count_lt {n x : Nat} (h : x ≤ n) : ((List.range n).filter fun j => decide (j < x)).length = x := by
  induction n with
  | zero => simp; omega
  | succ n ih =>
    rw [List.range_succ, List.filter_append, List.length_append]
    by_cases e : x = n + 1
    · subst e
      have : (List.range n).filter (fun j => decide (j < n + 1)) = List.range n := by
        rw [List.filter_eq_self]
        intro a ha
        have := List.mem_range.1 ha
        exact decide_eq_true (by omega)
      rw [this]
      simp
    · rw [ih (by omega)]
      simp
      omega
/-- A walk through all rows. -/
structure Walk (l : List Int) (at' : Nat) (r : Nat → Nat) (out : List Int) : Prop where
  len : out.length = l.length
  start : r 0 = 0
  ne : ∀ t, t < l.length → r t ≠ at'
  le : ∀ t, t ≤ l.length → r t ≤ l.length
  next : ∀ t, t < l.length → r (t + 1) = rkN l (byteOf at' (r t)) + 1
  stop : r l.length = at'
  at' : ∀ t, t < l.length → out.getD (l.length - 1 - t) 0 = l.getD (byteOf at' (r t)) 0
theorem byte_inj {at' a b : Nat} (ha : a ≠ at') (hb : b ≠ at') (h : byteOf at' a = byteOf at' b) : a = b := by
  rw [← row_byte ha, h, row_byte hb]
theorem byte_mono {at' a b : Nat} (ha : a ≠ at') (hb : b ≠ at') : byteOf at' a < byteOf at' b ↔ a < b := by
  unfold byteOf
  split <;> split <;> omega
theorem Walk.inj {l out : List Int} {at' : Nat} {r : Nat → Nat} (h : Walk l at' r out) (ha : at' ≤ l.length) : ∀ a b, a ≤ l.length → b ≤ l.length → a < b → r a ≠ r b := by
  intro a
  induction a with
  | zero =>
    intro b _ hb hab e
    have := h.next (b - 1) (by omega)
    rw [show b - 1 + 1 = b by omega] at this
    rw [h.start] at e
    omega
  | succ a ih =>
    intro b h1 h2 hab e
    have e1 := h.next a (by omega)
    have e2 := h.next (b - 1) (by omega)
    rw [show b - 1 + 1 = b by omega] at e2
    have n1 := h.ne a (by omega)
    have n2 := h.ne (b - 1) (by omega)
    have l1 := byte_lt (h.le a (by omega)) ha n1
    have l2 := byte_lt (h.le (b - 1) (by omega)) ha n2
    exact ih (b - 1) (by omega) (by omega) (by omega) (byte_inj n1 n2 (rk_inj l1 l2 (by omega)))
theorem Walk.order {l out : List Int} {at' : Nat} {r : Nat → Nat} (h : Walk l at' r out) (ha : at' ≤ l.length) : ∀ (m a b : Nat), l.length - a ≤ m → a ≤ l.length → b ≤ l.length → a ≠ b → (r (l.length - a) < r (l.length - b) ↔ ltE out a b) := by
  intro m
  induction m with
  | zero =>
    intro a b hm h1 h2 hne
    have e : a = l.length := by omega
    subst e
    rw [Nat.sub_self, h.start]
    have h3 := h.inj ha 0 (l.length - b) (Nat.zero_le _) (by omega) (by omega)
    rw [h.start] at h3
    exact ⟨fun _ => ltE_end (by rw [h.len]; exact Nat.le_refl _) (by rw [h.len]; omega), fun _ => by omega⟩
  | succ m ih =>
    intro a b hm h1 h2 hne
    by_cases ea : a = l.length
    · exact ih a b (by omega) h1 h2 hne
    by_cases eb : b = l.length
    · subst eb
      rw [Nat.sub_self, h.start]
      exact ⟨fun g => by omega, fun g => (ltE_asymm g (ltE_end (by rw [h.len]; exact Nat.le_refl _) (by rw [h.len]; omega))).elim⟩
    obtain ⟨t, ht⟩ : ∃ t, l.length - a = t + 1 := ⟨l.length - a - 1, by omega⟩
    obtain ⟨u, hu⟩ : ∃ u, l.length - b = u + 1 := ⟨l.length - b - 1, by omega⟩
    have n1 := h.ne t (by omega)
    have n2 := h.ne u (by omega)
    have l1 := byte_lt (h.le t (by omega)) ha n1
    have l2 := byte_lt (h.le u (by omega)) ha n2
    have hi := ih (a + 1) (b + 1) (by omega) (by omega) (by omega) (by omega)
    rw [show l.length - (a + 1) = t by omega, show l.length - (b + 1) = u by omega] at hi
    have c1 := h.at' t (by omega)
    have c2 := h.at' u (by omega)
    rw [show l.length - 1 - t = a by omega] at c1
    rw [show l.length - 1 - u = b by omega] at c2
    rw [ht, hu, h.next t (by omega), h.next u (by omega)]
    have key : rkN l (byteOf at' (r t)) + 1 < rkN l (byteOf at' (r u)) + 1 ↔ Lt1 l (byteOf at' (r t)) (byteOf at' (r u)) := by
      rw [← rk_iff l1 l2]
      omega
    rw [key]
    unfold Lt1
    rw [byte_mono n1 n2, ← c1, ← c2, hi]
    have la : a < out.length := by rw [h.len]; omega
    have lb : b < out.length := by rw [h.len]; omega
    rcases Int.lt_trichotomy (out.getD a 0) (out.getD b 0) with g | g | g
    · exact ⟨fun _ => ltE_less la lb g, fun _ => .inl g⟩
    · rw [ltE_same la lb g]
      constructor
      · rintro (g2 | g2)
        · omega
        · exact g2.2
      · exact fun g2 => .inr ⟨g, g2⟩
    · constructor
      · rintro (g2 | g2) <;> omega
      · intro g2
        exact (ltE_asymm g2 (ltE_less lb la g)).elim
/-- Of a walk through all rows the text is turned to just these bytes and this row. -/
theorem Walk.turn {l out : List Int} {at' : Nat} {r : Nat → Nat} (h : Walk l at' r out) (ha : at' ≤ l.length) : turnB out = (l, (at' : Int)) := by
  have ho := sortE_ord out
  have hA := ho.1
  have hE : ∀ i, i ≤ l.length → (out.length :: sortE out).getD (r (l.length - i)) 0 = i := by
    intro i hi
    have hp : (out.length :: sortE out).Perm (List.range (l.length + 1)) := by
      refine nodup_permN (ends_nodup hA) (fun x hx => ?_) (by rw [ends_len hA, h.len, List.length_range]; exact Nat.le_refl _)
      have := (ends_mem hA).1 hx
      rw [h.len] at this
      exact List.mem_range.2 (by omega)
    have hs : (out.length :: sortE out).Pairwise fun a b => ltD out a b = true := by
      refine List.pairwise_cons.2 ⟨fun b hb => ltD_iff.2 (ltE_end (Nat.le_refl _) (List.mem_range.1 (hA.mem_iff.1 hb))), ho.2.imp fun g => ltD_iff.2 g⟩
    obtain ⟨m, hm, em⟩ := mem_getN (hp.mem_iff.2 (List.mem_range.2 (show i < l.length + 1 by omega)))
    rw [ends_len hA, h.len] at hm
    have e1 := rank_at (R := ltD out) hp hs (fun a => Bool.eq_false_iff.2 fun g => ltE_irrefl (ltD_iff.1 g)) (fun a b g => Bool.eq_false_iff.2 fun k => ltE_asymm (ltD_iff.1 g) (ltD_iff.1 k)) hm
    rw [em] at e1
    have hr : ((List.range (l.length + 1)).map fun j => r (l.length - j)).Perm (List.range (l.length + 1)) := by
      refine inj_permN (fun j _ => by have := h.le (l.length - j) (by omega); omega) (fun a b ha' hb' e => ?_)
      rcases Nat.lt_trichotomy a b with g | g | g
      · exact absurd e.symm (h.inj ha (l.length - b) (l.length - a) (by omega) (by omega) (by omega))
      · exact g
      · exact absurd e (h.inj ha (l.length - a) (l.length - b) (by omega) (by omega) (by omega))
    have e2 := (hr.filter fun x => decide (x < r (l.length - i))).length_eq
    rw [count_lt (by have := h.le (l.length - i) (by omega); omega), List.filter_map, List.length_map] at e2
    have e3 : (List.range (l.length + 1)).filter ((fun x => decide (x < r (l.length - i))) ∘ fun j => r (l.length - j)) = (List.range (l.length + 1)).filter fun j => ltD out j i := by
      refine List.filter_congr fun j hj => ?_
      have hj' := List.mem_range.1 hj
      rw [Function.comp, Bool.eq_iff_iff, decide_eq_true_eq, ltD_iff]
      by_cases e : j = i
      · subst e
        exact ⟨fun g => by omega, fun g => absurd g ltE_irrefl⟩
      · exact h.order ha _ j i (Nat.le_refl _) (by omega) hi e
    rw [e3, e1] at e2
    rw [← e2]
    exact em
  have hat : bwAt out (sortE out) = at' := by
    have h0 := hE 0 (Nat.zero_le _)
    rw [Nat.sub_zero, h.stop] at h0
    exact ((at_is hA (by rw [h.len]; exact ha)).1 h0).symm
  have hl : bwL out (sortE out) = l := by
    refine rowI_ext (by rw [bw_len hA, h.len]) fun k hk => ?_
    rw [bw_len hA] at hk
    have hk' : k < l.length := by rw [← h.len]; exact hk
    rw [bw_at hA hk, ahead_at hA]
    have e0 : rowOf ((out.length :: sortE out).idxOf 0) k = rowOf at' k := by
      have : (out.length :: sortE out).idxOf 0 = at' := hat
      rw [this]
    rw [e0]
    have hrow : rowOf at' k ≤ l.length := by unfold rowOf; split <;> omega
    have hmem := ends_le hA (r := rowOf at' k) (by rw [h.len]; exact hrow)
    obtain ⟨i, ei⟩ : ∃ i, (out.length :: sortE out).getD (rowOf at' k) 0 = i := ⟨_, rfl⟩
    rw [ei] at hmem ⊢
    rw [h.len] at hmem
    have hi2 := hE i hmem
    have hrr : r (l.length - i) = rowOf at' k := nodup_getN (ends_nodup hA) (by rw [ends_len hA, h.len]; have := h.le (l.length - i) (by omega); omega) (by rw [ends_len hA, h.len]; omega) (by rw [hi2, ei])
    have hi0 : i ≠ 0 := fun e => by
      subst e
      rw [Nat.sub_zero, h.stop] at hrr
      exact row_ne hrr.symm
    have hc := h.at' (l.length - i) (by omega)
    rw [show l.length - 1 - (l.length - i) = i - 1 by omega, hrr, byte_row] at hc
    exact hc
  unfold turnB
  rw [hat, hl]
end Go.Proofs.YtlmbdafilboblaaGreat

/- A text turned by any row; the document's own loops. Plain numbers, no conditions. -/
namespace Go.Proofs.YtlmbdafilboblaaGreat
set_option linter.unusedVariables false
set_option linter.unusedSimpArgs false

/-- Of any row: the bytes; which row the whole text is. -/
def bwI (s a : List Int) : List Int := if lcpOk s a = true then bwL s (toN a) else []
def bwAtI (s a : List Int) : Int := if lcpOk s a = true then (bwAt s (toN a) : Int) else 0
theorem bwI_no {s a : List Int} (h : lcpOk s a = false) : bwI s a = [] := by unfold bwI; rw [h]; rfl
theorem bwAtI_no {s a : List Int} (h : lcpOk s a = false) : bwAtI s a = 0 := by unfold bwAtI; rw [h]; rfl
theorem bwI_nat {s : List Int} {A : List Nat} (h : lcpOk s (natL A) = true) : bwI s (natL A) = bwL s A := by unfold bwI; rw [if_pos h, toN_nat]
theorem bwAtI_nat {s : List Int} {A : List Nat} (h : lcpOk s (natL A) = true) : bwAtI s (natL A) = (bwAt s A : Int) := by unfold bwAtI; rw [if_pos h, toN_nat]
theorem bwI_len {s a : List Int} : (bwI s a).length ≤ s.length := by
  unfold bwI
  split
  · rename_i h
    have h1 : a.length = s.length ∧ ordB a = true := by
      unfold lcpOk at h
      rw [Bool.and_eq_true, decide_eq_true_eq] at h
      exact h
    have h2 := (ordB_cast h1.2).2
    rw [h1.1] at h2
    rw [bw_len h2]
    exact Nat.le_refl _
  · exact Nat.zero_le _
/-- Of the first so many rows. -/
def bwP (s : List Int) (A : List Nat) (i : Nat) : List Int := ((s.length :: A.take i).filter fun p => decide (p ≠ 0)).map fun p => s.getD (p - 1) 0
def atP (A : List Nat) (i : Nat) : Nat := if 0 ∈ A.take i then A.idxOf 0 + 1 else 0
theorem bwP_zero {s : List Int} (A : List Nat) (h : s.length ≠ 0) : bwP s A 0 = [s.getD (s.length - 1) 0] := by
  unfold bwP
  rw [List.take_zero, List.filter_cons, if_pos (decide_eq_true h)]
  rfl
theorem bwP_nought {s : List Int} {A : List Nat} {i : Nat} (hi : i < A.length) (h : A.getD i 0 = 0) : bwP s A (i + 1) = bwP s A i := by
  unfold bwP
  rw [takeN_succ hi, h, ← List.cons_append, List.filter_append]
  simp
theorem bwP_other {s : List Int} {A : List Nat} {i : Nat} (hi : i < A.length) (h : A.getD i 0 ≠ 0) : bwP s A (i + 1) = bwP s A i ++ [s.getD (A.getD i 0 - 1) 0] := by
  unfold bwP
  rw [takeN_succ hi, ← List.cons_append, List.filter_append, List.map_append]
  congr 1
  rw [List.filter_cons, if_pos (decide_eq_true h)]
  rfl
theorem bwP_len {s : List Int} {A : List Nat} {i : Nat} : (bwP s A i).length ≤ i + 1 := by
  unfold bwP
  rw [List.length_map]
  refine Nat.le_trans (List.length_filter_le _ _) ?_
  rw [List.length_cons, List.length_take]
  omega
theorem bwP_all {s : List Int} {A : List Nat} : bwP s A A.length = bwL s A := by
  unfold bwP
  rw [List.take_length]
  rfl
theorem atP_zero (A : List Nat) : atP A 0 = 0 := by unfold atP; simp
theorem atP_nought {A : List Nat} {i : Nat} (hA : A.Nodup) (hi : i < A.length) (h : A.getD i 0 = 0) : atP A (i + 1) = i + 1 := by
  have hm : 0 ∈ A.take (i + 1) := by rw [takeN_succ hi, h]; simp
  have hx : A.idxOf 0 = i := by
    have h1 : (0 : Nat) ∈ A := List.mem_of_mem_take hm
    have h2 := List.idxOf_lt_length_of_mem h1
    refine nodup_getN hA h2 hi ?_
    rw [h, List.getD_eq_getElem?_getD, List.getElem?_eq_getElem h2]
    exact List.getElem_idxOf h2
  unfold atP
  rw [if_pos hm, hx]
theorem atP_other {A : List Nat} {i : Nat} (hi : i < A.length) (h : A.getD i 0 ≠ 0) : atP A (i + 1) = atP A i := by
  unfold atP
  rw [takeN_succ hi]
  have : (0 ∈ A.take i ++ [A.getD i 0]) ↔ 0 ∈ A.take i := by
    rw [List.mem_append, List.mem_singleton]
    exact ⟨fun g => g.resolve_right fun e => h e.symm, .inl⟩
  simp only [this]
theorem atP_le {A : List Nat} {i : Nat} (hi : i ≤ A.length) : atP A i ≤ A.length + 1 := by
  unfold atP
  split
  · have := List.idxOf_le_length (a := 0) (l := A)
    omega
  · omega
theorem atP_all {s : List Int} {A : List Nat} (hA : A.Perm (List.range s.length)) (h0 : s.length ≠ 0) : atP A A.length = bwAt s A := by
  have hm : 0 ∈ A := hA.mem_iff.2 (List.mem_range.2 (by omega))
  unfold atP bwAt
  rw [List.take_length, if_pos hm, List.idxOf_cons]
  have : (s.length == 0) = false := by simpa using h0
  rw [this]
  rfl
theorem bwL_nil {A : List Nat} (h : A.Perm (List.range 0)) : bwL [] A = [] ∧ bwAt [] A = 0 := by
  have : A = [] := List.length_eq_zero_iff.1 (by rw [h.length_eq, List.length_range])
  subst this
  exact ⟨rfl, rfl⟩
theorem bwL_bytes {s : List Int} {A : List Nat} (hA : A.Perm (List.range s.length)) (h : ∀ z ∈ s, 0 ≤ z ∧ z ≤ 255) : ∀ z ∈ bwL s A, 0 ≤ z ∧ z ≤ 255 := fun z hz => h z ((bw_perm hA).mem_iff.1 hz)

/-- How many of the first so many are less, or like it and ahead. -/
def cntJ (l : List Int) (k J : Nat) : Nat := ((List.range J).filter fun j => decide (Lt1 l j k)).length
theorem cntJ_zero (l : List Int) (k : Nat) : cntJ l k 0 = 0 := rfl
theorem cntJ_yes {l : List Int} {k J : Nat} (h : Lt1 l J k) : cntJ l k (J + 1) = cntJ l k J + 1 := by
  unfold cntJ
  rw [List.range_succ, List.filter_append, List.length_append, List.filter_cons, if_pos (decide_eq_true h)]
  rfl
theorem cntJ_no {l : List Int} {k J : Nat} (h : ¬ Lt1 l J k) : cntJ l k (J + 1) = cntJ l k J := by
  unfold cntJ
  rw [List.range_succ, List.filter_append, List.length_append, List.filter_cons, if_neg (by rw [decide_eq_false h]; decide)]
  rfl
theorem cntJ_le (l : List Int) (k J : Nat) : cntJ l k J ≤ J := by
  unfold cntJ
  refine Nat.le_trans (List.length_filter_le _ _) ?_
  rw [List.length_range]
  exact Nat.le_refl _
theorem cntJ_all (l : List Int) (k : Nat) : cntJ l k l.length = rkN l k := rfl
theorem drop_set {l : List Int} {i : Nat} {z : Int} (h : i < l.length) : (l.set i z).drop i = z :: l.drop (i + 1) := by
  rw [drop_getD (by rw [List.length_set]; exact h), setI_same h, List.drop_set_of_lt (by omega)]
theorem bkGo_stop (l : List Int) (at' t : Nat) (out : List Int) : bkGo l at' (t + 1) at' out = none := by rw [bkGo, if_pos rfl]
theorem bkGo_next {l : List Int} {at' t row : Nat} {out : List Int} (h : row ≠ at') : bkGo l at' (t + 1) row out = bkGo l at' t (rkN l (byteOf at' row) + 1) (l.getD (byteOf at' row) 0 :: out) := by rw [bkGo, if_neg h]
theorem backB_out {l : List Int} {at' : Int} (h : rowMayB l at' = false) : backB l at' = ([], 5) := by
  unfold backB
  rw [h]
  rfl
theorem backB_none {l : List Int} {at' : Nat} (h : bkGo l at' l.length 0 [] = none) : backB l (at' : Int) = ([], 5) := by
  unfold backB
  split
  · rw [Int.toNat_natCast, h]
  · rfl
theorem backB_some {l out : List Int} {at' : Nat} (hm : rowMayB l at' = true) (h : bkGo l at' l.length 0 [] = some out) : backB l (at' : Int) = if turnB out = (l, (at' : Int)) then (out, 0) else ([], 5) := by
  unfold backB
  rw [if_pos hm, Int.toNat_natCast, h]
theorem backB_len (l : List Int) (at' : Int) : (backB l at').1.length ≤ l.length := by
  unfold backB
  split
  · split
    · exact Nat.zero_le _
    · rename_i out h
      split
      · rename_i e
        have := turnB_len out
        rw [e] at this
        show out.length ≤ _
        have h2 : l.length = out.length := this
        omega
      · exact Nat.zero_le _
  · exact Nat.zero_le _
end Go.Proofs.YtlmbdafilboblaaGreat

/- Contract of bwt.Of. -/
namespace Go.Proofs.YtlmbdafilboblaaGreat
set_option linter.unusedVariables false
set_option linter.unusedSimpArgs false
open Go.RowKit

set_option maxHeartbeats 1000000 in
theorem bwOf_any (v u : Value) (s a : List Int) (w : World) (hv : Sl .u8 w v s) (hu : Sl .i64 w u a) (hs : s.length ≤ 1000000) (ha : a.length ≤ 1000000) :
    Calls Tryz.prog 13 #[v, u] w fun e w' => ∃ r, e = .returned (.tuple #[r, .int .i64 (bwAtI s a), .bool (lcpOk s a)]) ∧ Own .u8 5 w.heap.size w' r (bwI s a) ∧ Ext w w' := by
  have HV := hide' hv
  have HU := hide' hu
  obtain ⟨va, vc, rfl, _⟩ := hv
  obtain ⟨ua, uc, rfl, _⟩ := hu
  by_cases h1 : a.length = s.length
  · have C : Hid (∀ w', Ext w w' → Calls Tryz.prog 29 #[.slice ua a.length uc] w' fun e w'' => e = .returned (.bool (ordB a)) ∧ Ext w' w'') := fun w' he => rkIs_any _ a w' (HU.out.ext he) ha
    cases h2 : ordB a
    · rw [bwI_no (lcpOk_no h2), bwAtI_no (lcpOk_no h2), lcpOk_no h2]
      rw [h2] at C
      clear h2 HU
      obtain ⟨n, HN⟩ : ∃ n, Hid (s.length = n) := ⟨_, rfl⟩
      rw [h1] at C ⊢
      rw [HN.out] at C HV ⊢
      have e1 : ((n : Int) != (n : Int)) = false := by simp
      clear h1
      go_enter Tryz.func13, Tryz.ntmps13
      go_wp2_with fail
      refine (C.out _ (Ext.refl _)).mono ?_
      rintro e w1 ⟨rfl, he1⟩
      have X1 := hide' he1
      clear he1
      go_wp2
      go_ret3
      exact ⟨_, rfl, Own.nil _ _ _ _, X1.out⟩
    · have hok := lcpOk_yes h1 h2
      rw [h2] at C
      obtain ⟨hA, hP⟩ := ordB_cast h2
      obtain ⟨A, HA⟩ : ∃ A, Hid (toN a = A) := ⟨_, rfl⟩
      rw [HA.out] at hA hP
      rw [← hA] at hok ⊢
      rw [bwI_nat hok, bwAtI_nat hok, hok]
      obtain ⟨n, HN⟩ : ∃ n, Hid (s.length = n) := ⟨_, rfl⟩
      have hAL : A.length = n := by rw [← HN.out, ← h1, ← hA, natL_len]
      have HAL := hide' hAL
      have HP : Hid (A.Perm (List.range s.length)) := by show _; rw [← h1]; exact hP
      have HU2 : Hid (Sl .i64 w (.slice ua n uc) (natL A)) := by have := HU.out; rw [← hA, natL_len, hAL] at this; exact this
      rw [natL_len, hAL]
      rw [h1, HN.out] at C
      rw [HN.out] at HV hs ⊢
      have e1 : ((n : Int) != (n : Int)) = false := by simp
      clear hA hP hAL h2 HU h1 HA hok
      by_cases h0 : n = 0
      · have hs0 : s = [] := List.length_eq_zero_iff.1 (by rw [HN.out, h0])
        have HZ : Hid (bwL s A = [] ∧ bwAt s A = 0) := by
          have := HP.out
          rw [HN.out, h0] at this
          rw [hs0]
          exact bwL_nil this
        rw [HZ.out.1, HZ.out.2]
        have d0 : ((n : Int) == 0) = true := by simp; omega
        clear h0 hs0
        go_enter Tryz.func13, Tryz.ntmps13
        go_wp2_with fail
        refine (C.out _ (Ext.refl _)).mono ?_
        rintro e w1 ⟨rfl, he1⟩
        have X1 := hide' he1
        clear he1
        go_wp2
        go_ret3
        exact ⟨_, rfl, Own.nil _ _ _ _, X1.out⟩
      · have d0 : ((n : Int) == 0) = false := by simp; omega
        obtain ⟨N, HNN⟩ : ∃ N, Hid (n = N + 1) := ⟨n - 1, by show _ = _; omega⟩
        have hNn : N < n := by have := HNN.out; omega
        have hNn' : (N : Int) < n := by omega
        have hN1 : (n : Int) - 1 = (N : Int) := by have := HNN.out; omega
        have wN : IntKind.i64.wrap (N : Int) = (N : Int) := by rw [IntKind.wrap_i64]; omega
        have H0 := hide' (bwP_zero A (s := s) (by rw [HN.out]; exact h0))
        have HALL : Hid (bwP s A n = bwL s A) := by have := bwP_all (s := s) (A := A); rw [HAL.out] at this; exact this
        have HATA : Hid (atP A n = bwAt s A) := by have := atP_all HP.out (by rw [HN.out]; exact h0); rw [HAL.out] at this; exact this
        have HND : Hid A.Nodup := HP.out.nodup_iff.2 List.nodup_range
        obtain ⟨_, vg, voff, hva, vcell⟩ := HV.out.at (fun e => by have := HN.out; rw [e] at this; simp at this; omega)
        subst hva
        have VC : Hid (∀ W j, Ext w W → j < n → W.cell? ⟨vg, voff + j, none⟩ = some (.int .u8 (s.getD j 0))) := fun W j he hj => he.cellOf (vcell j hj)
        clear vcell h0
        go_enter Tryz.func13, Tryz.ntmps13
        go_wp2_with fail
        refine (C.out _ (Ext.refl _)).mono ?_
        rintro e w1 ⟨rfl, he1⟩
        have X1 := hide' he1
        have hz1 := he1.size
        clear he1 C
        obtain ⟨w2, hmk, ho, he⟩ := make_room8 w1 n hs
        have O2 := hide' (ho.low hz1)
        have X2 := hide' (X1.out.trans he)
        have hz2 := X2.out.size
        have c0 := VC.out w2 N X2.out hNn
        obtain ⟨z, HZ⟩ : ∃ z, Hid (s.getD N 0 = z) := ⟨_, rfl⟩
        rw [HZ.out] at c0
        have H00 : Hid (bwP s A 0 = [z]) := by show _ = _; rw [H0.out, HN.out, show n - 1 = N by have := HNN.out; omega, HZ.out]
        clear ho he
        go_wp2_with (at_builtin; refine wpList_snoc _ rfl _ _ 22 rfl 5 .u8 1 Tryz.underlying22 infoU8 w.heap.size _ [] z ⟨w2.heap.size, 0, none⟩ rfl rfl ?c4 (O2.out.alloc _) ?c3 ?c5 ?_)
        case c3 => unfold maxLen; simp
        case c5 => simp; omega
        case c4 => simp only [World.cell?, heap_alloc_top]; simp
        intro v1 w4 ho1 hb1
        have HO : Hid (Own .u8 5 w.heap.size w4 v1 (bwP s A 0)) := by rw [H00.out]; exact ho1
        have HE : Hid (Ext w w4) := Below.trans (X2.out.trans (ext_alloc _ _)) (Below.mono hb1 (Nat.le_refl _))
        clear ho1 hb1 c0 hmk
        go_wp2
        go_loopw [4, 5, 36] (fun vl vt vi wr => ∃ (i : Nat), i ≤ n ∧ vi = .int .i64 i ∧ vt = .int .i64 (atP A i : Int) ∧ Hid (Own .u8 5 w.heap.size wr vl (bwP s A i)) ∧ Hid (Ext w wr)) (fun _ _ vi _ => n - (intOf vi).toNat)
        case atStart => exact ⟨0, Nat.zero_le _, rfl, by rw [atP_zero]; rfl, HO, HE⟩
        case round =>
          clear HO HE
          obtain ⟨i, hi, rfl, rfl, HO, HE⟩ := hrel
          have hsz := HE.out.size
          by_cases hlt : i < n
          · have hlt' : (i : Int) < n := by omega
            obtain ⟨_, _, _, hco⟩ := HU2.out.nat
            obtain ⟨og, ooff, hoa, ocell⟩ := hco (by omega)
            subst hoa
            have c1 := HE.out.cellOf (ocell i hlt)
            clear hco ocell
            have hx : A.getD i 0 < n := by
              have := List.mem_range.1 (HP.out.mem_iff.1 (getN_mem (l := A) (i := i) (by rw [HAL.out]; exact hlt)))
              rw [HN.out] at this
              exact this
            have hA1 : i < A.length := by rw [HAL.out]; exact hlt
            by_cases hx0 : A.getD i 0 = 0
            · rw [hx0] at c1
              have HB := hide' (bwP_nought (s := s) hA1 hx0)
              have HT := hide' (atP_nought HND.out hA1 hx0)
              have HO2 := HO
              rw [← HB.out] at HO2
              clear hx0 hx hA1
              go_wp2
              go_roundw
              case rel => exact ⟨i + 1, by omega, by go_num, by rw [HT.out]; go_num, HO2, HE⟩
              case measure => simp [intOf]; omega
            · have HB := hide' (bwP_other (s := s) hA1 hx0)
              have HT := hide' (atP_other hA1 hx0)
              obtain ⟨x, HX⟩ : ∃ x, Hid (A.getD i 0 = x + 1) := ⟨A.getD i 0 - 1, by show _ = _; omega⟩
              rw [HX.out] at c1 hx
              rw [HX.out, Nat.add_sub_cancel] at HB
              obtain ⟨X, HXX⟩ : ∃ X, Hid (x + 1 = X) := ⟨_, rfl⟩
              rw [HXX.out] at c1 hx
              have hX0 : decide ((0 : Int) < (X : Int)) = true := by have := HXX.out; simp; omega
              have hX0' : decide (0 < X) = true := by have := HXX.out; simp; omega
              have hX1 : (X : Int) - 1 = (x : Int) := by have := HXX.out; omega
              have wX : IntKind.i64.wrap (x : Int) = (x : Int) := by rw [IntKind.wrap_i64]; have := HXX.out; omega
              have hxn : x < n := by have := HXX.out; omega
              have hxn' : (x : Int) < n := by omega
              have c2 := VC.out wr x HE.out hxn
              obtain ⟨y, HY⟩ : ∃ y, Hid (s.getD x 0 = y) := ⟨_, rfl⟩
              rw [HY.out] at c2 HB
              have hPL := bwP_len (s := s) (A := A) (i := i)
              obtain ⟨PP, HPP⟩ : ∃ l, Hid (bwP s A i = l) := ⟨_, rfl⟩
              rw [HPP.out] at hPL HB HO
              have hPL2 := hide' hPL
              clear hx0 hA1 hPL
              go_wp2_with (at_builtin; refine wpList_snoc _ rfl _ _ 22 rfl 5 .u8 1 Tryz.underlying22 infoU8 w.heap.size _ PP y ⟨wr.heap.size, 0, none⟩ rfl rfl ?c4 (HO.out.alloc _) ?c3 ?c5 ?_)
              case c3 => have := hPL2.out; unfold maxLen; omega
              case c5 => simp; omega
              case c4 => simp only [World.cell?, heap_alloc_top]; simp
              intro v1 w4 ho1 hb1
              have HO1 : Hid (Own .u8 5 w.heap.size w4 v1 (bwP s A (i + 1))) := by rw [HB.out]; exact ho1
              have HE1 : Hid (Ext w w4) := Below.trans (HE.out.trans (ext_alloc _ _)) (Below.mono hb1 (Nat.le_refl _))
              clear ho1 hb1 c1 c2
              go_wp2
              go_roundw
              case rel => exact ⟨i + 1, by omega, by go_num, by rw [HT.out], HO1, HE1⟩
              case measure => simp [intOf]; omega
          · have hlt' : decide ((i : Int) < n) = false := by simp; omega
            have hin : i = n := by omega
            have HB : Hid (bwP s A i = bwL s A ∧ atP A i = bwAt s A) := by rw [hin]; exact ⟨HALL.out, HATA.out⟩
            clear hin
            go_wp2
            go_ret3
            rw [← HB.out.1, ← HB.out.2]
            exact ⟨_, rfl, HO.out, HE.out⟩
  · have d1 : ((a.length : Int) != (s.length : Int)) = true := by simp; omega
    rw [bwI_no (lcpOk_long h1), bwAtI_no (lcpOk_long h1), lcpOk_long h1]
    clear h1
    go_enter Tryz.func13, Tryz.ntmps13
    go_wp2_with fail
    go_ret3
    exact ⟨_, rfl, Own.nil _ _ _ _, Ext.refl _⟩
end Go.Proofs.YtlmbdafilboblaaGreat

/- From how often bytes are there to the row of the longer ending; a walk that never meets the whole text's row. Plain numbers, no conditions. -/
namespace Go.Proofs.YtlmbdafilboblaaGreat
set_option linter.unusedVariables false
set_option linter.unusedSimpArgs false

/-- How many of the first J are less than b. -/
def ahC (l : List Int) : Nat → Nat → Nat
  | 0, _ => 0
  | b + 1, J => ahC l b J + cntI l b J
theorem ahC_none (l : List Int) (b : Nat) : ahC l b 0 = 0 := by
  induction b with
  | zero => rfl
  | succ b ih => rw [ahC, ih]; rfl
theorem ahC_step {l : List Int} {J : Nat} (h0 : 0 ≤ l.getD J 0) (b : Nat) : ahC l b (J + 1) = ahC l b J + if l.getD J 0 < (b : Int) then 1 else 0 := by
  induction b with
  | zero => rw [ahC, ahC, if_neg (by omega)]
  | succ b ih =>
    rw [ahC, ahC, ih, cntI_succ]
    by_cases g : l.getD J 0 < (b : Int)
    · rw [if_pos g, if_neg (by omega), if_pos (by omega)]; omega
    · rw [if_neg g]
      by_cases g2 : l.getD J 0 = (b : Int)
      · rw [if_pos g2, if_pos (by omega)]
        omega
      · rw [if_neg g2, if_neg (by omega)]
        omega
theorem ahC_le (l : List Int) (b J : Nat) : ahC l b J ≤ b * J := by
  induction b with
  | zero => rw [ahC]; omega
  | succ b ih =>
    rw [ahC, Nat.succ_mul]
    have := cntI_le l b J
    omega
theorem cntJ_sum {l : List Int} {k b : Nat} (hb : l.getD k 0 = (b : Int)) (h0 : ∀ j, 0 ≤ l.getD j 0) : ∀ J, cntJ l k J = ahC l b J + cntI l b (min J k) := by
  intro J
  induction J with
  | zero => rw [cntJ_zero, ahC_none, Nat.zero_min]; rfl
  | succ J ih =>
    rw [ahC_step (h0 J)]
    by_cases g : Lt1 l J k
    · rw [cntJ_yes g, ih]
      unfold Lt1 at g
      rw [hb] at g
      by_cases g1 : l.getD J 0 < (b : Int)
      · rw [if_pos g1]
        by_cases g2 : J < k
        · rw [show min (J + 1) k = J + 1 by omega, show min J k = J by omega, cntI_other (by omega)]
          omega
        · rw [show min (J + 1) k = min J k by omega]
          omega
      · obtain ⟨g2, g3⟩ := g.resolve_left g1
        rw [if_neg g1, show min (J + 1) k = J + 1 by omega, show min J k = J by omega, cntI_same g2]
        omega
    · rw [cntJ_no g, ih]
      unfold Lt1 at g
      rw [hb] at g
      rw [if_neg (by omega)]
      by_cases g2 : J < k
      · rw [show min (J + 1) k = J + 1 by omega, show min J k = J by omega, cntI_other (by omega)]
        omega
      · rw [show min (J + 1) k = min J k by omega]
        omega
theorem rk_sum {l : List Int} {k b : Nat} (hb : l.getD k 0 = (b : Int)) (h0 : ∀ j, 0 ≤ l.getD j 0) (hk : k ≤ l.length) : rkN l k = ahC l b l.length + cntI l b k := by
  rw [← cntJ_all, cntJ_sum hb h0, show min l.length k = k by omega]

/-- How often each byte is among the first i. -/
def oftL (l : List Int) (i : Nat) : List Int := (List.range 256).map fun (b : Nat) => ((cntI l b i : Nat) : Int)
/-- The first row of each byte's endings, and how often it was there so far. -/
def nxtL (l : List Int) (i : Nat) : List Int := (List.range 256).map fun (b : Nat) => ((ahC l b l.length + cntI l b i + 1 : Nat) : Int)
/-- The first rows of the first so many bytes. -/
def fstL (l : List Int) (q : Nat) : List Int := (List.range 256).map fun (b : Nat) => if b < q then ((ahC l b l.length + 1 : Nat) : Int) else 0
theorem oftL_len (l : List Int) (i : Nat) : (oftL l i).length = 256 := by simp [oftL]
theorem nxtL_len (l : List Int) (i : Nat) : (nxtL l i).length = 256 := by simp [nxtL]
theorem fstL_len (l : List Int) (i : Nat) : (fstL l i).length = 256 := by simp [fstL]
theorem oftL_at (l : List Int) (i : Nat) {b : Nat} (h : b < 256) : (oftL l i).getD b 0 = ((cntI l b i : Nat) : Int) := mapI_at _ _ h
theorem nxtL_at (l : List Int) (i : Nat) {b : Nat} (h : b < 256) : (nxtL l i).getD b 0 = ((ahC l b l.length + cntI l b i + 1 : Nat) : Int) := mapI_at _ _ h
theorem fstL_at (l : List Int) (q : Nat) {b : Nat} (h : b < 256) : (fstL l q).getD b 0 = if b < q then ((ahC l b l.length + 1 : Nat) : Int) else 0 := mapI_at _ _ h
theorem rep_at {n b : Nat} (h : b < n) : (List.replicate n (0 : Int)).getD b 0 = 0 := by simp [List.getD, h]
theorem oftL_zero (l : List Int) : oftL l 0 = List.replicate 256 0 := by
  refine rowI_ext (by rw [oftL_len, List.length_replicate]) fun b hb => ?_
  rw [oftL_len] at hb
  rw [oftL_at l 0 hb, rep_at hb]
  rfl
theorem fstL_zero (l : List Int) : fstL l 0 = List.replicate 256 0 := by
  refine rowI_ext (by rw [fstL_len, List.length_replicate]) fun b hb => ?_
  rw [fstL_len] at hb
  rw [fstL_at l 0 hb, rep_at hb, if_neg (by omega)]
theorem fstL_all (l : List Int) : fstL l 256 = nxtL l 0 := by
  refine rowI_ext (by rw [fstL_len, nxtL_len]) fun b hb => ?_
  rw [fstL_len] at hb
  rw [fstL_at l _ hb, nxtL_at l _ hb, if_pos hb]
  rfl
theorem oftL_next {l : List Int} {i q : Nat} (h : l.getD i 0 = (q : Int)) (hq : q < 256) : (oftL l i).set q ((cntI l q i + 1 : Nat) : Int) = oftL l (i + 1) := by
  refine rowI_ext (by rw [List.length_set, oftL_len, oftL_len]) fun b hb => ?_
  rw [List.length_set, oftL_len] at hb
  rw [oftL_at l _ hb]
  by_cases e : q = b
  · subst e
    rw [setI_same (by rw [oftL_len]; exact hb), cntI_same h]
  · rw [setI_other e, oftL_at l _ hb, cntI_other (by rw [h]; omega)]
theorem nxtL_next {l : List Int} {i q : Nat} (h : l.getD i 0 = (q : Int)) (hq : q < 256) : (nxtL l i).set q ((ahC l q l.length + cntI l q i + 1 + 1 : Nat) : Int) = nxtL l (i + 1) := by
  refine rowI_ext (by rw [List.length_set, nxtL_len, nxtL_len]) fun b hb => ?_
  rw [List.length_set, nxtL_len] at hb
  rw [nxtL_at l _ hb]
  by_cases e : q = b
  · subst e
    rw [setI_same (by rw [nxtL_len]; exact hb), cntI_same h]
    congr 1
  · rw [setI_other e, nxtL_at l _ hb, cntI_other (by rw [h]; omega)]
theorem fstL_next (l : List Int) {q : Nat} (hq : q < 256) : (fstL l q).set q ((ahC l q l.length + 1 : Nat) : Int) = fstL l (q + 1) := by
  refine rowI_ext (by rw [List.length_set, fstL_len, fstL_len]) fun b hb => ?_
  rw [List.length_set, fstL_len] at hb
  rw [fstL_at l _ hb]
  by_cases e : q = b
  · subst e
    rw [setI_same (by rw [fstL_len]; exact hb), if_pos (by omega)]
  · rw [setI_other e, fstL_at l _ hb]
    by_cases g : b < q
    · rw [if_pos g, if_pos (by omega)]
    · rw [if_neg g, if_neg (by omega)]

/-- The rows of the longer endings of the first so many. -/
def lonL (l : List Int) (i : Nat) : List Int := (List.range l.length).map fun (j : Nat) => if j < i then ((rkN l j + 1 : Nat) : Int) else 0
theorem lonL_len (l : List Int) (i : Nat) : (lonL l i).length = l.length := by simp [lonL]
theorem lonL_at (l : List Int) (i : Nat) {j : Nat} (h : j < l.length) : (lonL l i).getD j 0 = if j < i then ((rkN l j + 1 : Nat) : Int) else 0 := mapI_at _ _ h
theorem lonL_zero (l : List Int) : lonL l 0 = List.replicate l.length 0 := by
  refine rowI_ext (by rw [lonL_len, List.length_replicate]) fun b hb => ?_
  rw [lonL_len] at hb
  rw [lonL_at l 0 hb, rep_at hb, if_neg (by omega)]
theorem lonL_next (l : List Int) {i : Nat} (hi : i < l.length) : (lonL l i).set i ((rkN l i + 1 : Nat) : Int) = lonL l (i + 1) := by
  refine rowI_ext (by rw [List.length_set, lonL_len, lonL_len]) fun b hb => ?_
  rw [List.length_set, lonL_len] at hb
  rw [lonL_at l _ hb]
  by_cases e : i = b
  · subst e
    rw [setI_same (by rw [lonL_len]; exact hb), if_pos (by omega)]
  · rw [setI_other e, lonL_at l _ hb]
    by_cases g : b < i
    · rw [if_pos g, if_pos (by omega)]
    · rw [if_neg g, if_neg (by omega)]
theorem lonL_all (l : List Int) {j : Nat} (h : j < l.length) : (lonL l l.length).getD j 0 = ((rkN l j + 1 : Nat) : Int) := by rw [lonL_at l _ h, if_pos h]

theorem bkGo_walk {l : List Int} {k : Nat} : ∀ (i row : Nat) (acc out : List Int), bkGo l k i row acc = some out →
    ∃ r : Nat → Nat, r 0 = row ∧ (∀ t, t < i → r t ≠ k ∧ r (t + 1) = rkN l (byteOf k (r t)) + 1) ∧ out.length = i + acc.length ∧ (∀ t, t < i → out.getD (i - 1 - t) 0 = l.getD (byteOf k (r t)) 0) ∧ out.drop i = acc := by
  intro i
  induction i with
  | zero =>
    intro row acc out h
    rw [bkGo] at h
    cases h
    exact ⟨fun _ => row, rfl, fun t ht => by omega, by omega, fun t ht => by omega, by simp⟩
  | succ i ih =>
    intro row acc out h
    rw [bkGo] at h
    split at h
    · cases h
    · rename_i hne
      obtain ⟨r, h1, h2, h3, h4, h5⟩ := ih _ _ _ h
      rw [List.length_cons] at h3
      refine ⟨fun t => match t with | 0 => row | t + 1 => r t, rfl, fun t ht => ?_, by omega, fun t ht => ?_, ?_⟩
      · match t with
        | 0 => exact ⟨hne, h1⟩
        | t + 1 => exact h2 t (by omega)
      · match t with
        | 0 =>
          have e : out.getD i 0 = (out.drop i).getD 0 0 := by simp [List.getD_eq_getElem?_getD]
          rw [show i + 1 - 1 - 0 = i by omega, e, h5]
          rfl
        | t + 1 =>
          have := h4 t (by omega)
          rw [show i + 1 - 1 - (t + 1) = i - 1 - t by omega]
          exact this
      · have : out.drop (i + 1) = (out.drop i).drop 1 := by rw [List.drop_drop]
        rw [this, h5]
        rfl
/-- What is walked through is a text's. -/
theorem bkGo_turn {l out : List Int} {k : Nat} (hk : k ≤ l.length) (h : bkGo l k l.length 0 [] = some out) : turnB out = (l, (k : Int)) := by
  obtain ⟨r, h1, h2, h3, h4, _⟩ := bkGo_walk _ _ _ _ h
  have hle : ∀ t, t ≤ l.length → r t ≤ l.length := by
    intro t
    induction t with
    | zero => intro _; rw [h1]; omega
    | succ t ih =>
      intro ht
      obtain ⟨g1, g2⟩ := h2 t (by omega)
      have := rk_lt (byte_lt (ih (by omega)) hk g1)
      omega
  have hinj : ∀ a b, a ≤ l.length → b ≤ l.length → a < b → r a ≠ r b := by
    intro a
    induction a with
    | zero =>
      intro b _ hb hab e
      have := (h2 (b - 1) (by omega)).2
      rw [show b - 1 + 1 = b by omega] at this
      omega
    | succ a ih =>
      intro b g1 g2 hab e
      obtain ⟨n1, e1⟩ := h2 a (by omega)
      obtain ⟨n2, e2⟩ := h2 (b - 1) (by omega)
      rw [show b - 1 + 1 = b by omega] at e2
      exact ih (b - 1) (by omega) (by omega) (by omega) (byte_inj n1 n2 (rk_inj (byte_lt (hle a (by omega)) hk n1) (byte_lt (hle (b - 1) (by omega)) hk n2) (by omega)))
  have hstop : r l.length = k := by
    have hp : ((List.range (l.length + 1)).map r).Perm (List.range (l.length + 1)) := by
      refine inj_permN (fun t ht => by have := hle t (by omega); omega) (fun a b ha hb e => ?_)
      rcases Nat.lt_trichotomy a b with g | g | g
      · exact absurd e (hinj a b (by omega) (by omega) g)
      · exact g
      · exact absurd e.symm (hinj b a (by omega) (by omega) g)
    have hm := hp.mem_iff.2 (List.mem_range.2 (show k < l.length + 1 by omega))
    obtain ⟨t, ht, e⟩ := List.mem_map.1 hm
    rw [List.mem_range] at ht
    by_cases g : t = l.length
    · rw [← g]; exact e
    · exact absurd e (h2 t (by omega)).1
  exact Walk.turn (r := r) ⟨by rw [h3]; rfl, h1, fun t ht => (h2 t ht).1, hle, fun t ht => (h2 t ht).2, hstop, h4⟩ hk
theorem back_go {l out : List Int} {k : Nat} (hk : k ≤ l.length) (h : bkGo l k l.length 0 [] = some out) : backB l (k : Int) = (out, 0) := back_yes (bkGo_turn hk h)
end Go.Proofs.YtlmbdafilboblaaGreat

/- A row just laid is the call's own. Over any program; no conditions. -/
namespace Go.Proofs.YtlmbdafilboblaaGreat
set_option linter.unusedVariables false
set_option linter.unusedSimpArgs false
open Go.RowKit

theorem Own.lit {k : IntKind} {e : TypeId} {B : Nat} (w : World) (zs : List Int) (n : Nat) (hn : zs.length = n) (hm : n ≤ maxLen) (hB : B ≤ w.heap.size) :
    Own k e B (w.alloc (.cells (zs.map (Value.int k)).toArray e)) (.slice (some ⟨w.heap.size, 0, none⟩) n n) zs := by
  subst hn
  refine ⟨by simp, .inr ⟨w.heap.size, zs.length, (zs.map (Value.int k)).toArray, rfl, hB, heap_alloc_top _ _, Nat.le_refl _, hm, by simp, ?_⟩⟩
  simp
  exact List.take_of_length_le (by simp)
end Go.Proofs.YtlmbdafilboblaaGreat

/- An array of 256 ints: what each seat says of it. -/
namespace Go.Proofs.YtlmbdafilboblaaGreat
set_option linter.unusedVariables false
set_option linter.unusedSimpArgs false
open Go.RowKit

def tab6 (R : List Int) : Array Value := (R.map (Value.int .i64)).toArray
theorem zero_tab6 (w : World) : (zeroValue 58).run Tryz.prog w = .ok (.agg (tab6 (List.replicate 256 0))) w := by kernel_rfl
end Go.Proofs.YtlmbdafilboblaaGreat

/- Arrays of 256 ints: as one block, as a value, side by side. No conditions. -/
namespace Go.Proofs.YtlmbdafilboblaaGreat
set_option linter.unusedVariables false
set_option linter.unusedSimpArgs false
open Go.RowKit

theorem Own.whole {B : Nat} {w : World} {g : Nat} {R : List Int} (h : Own .i64 58 B w (.slice (some ⟨g, 0, none⟩) 256 256) R) : w.heap[g]? = some (.cells (tab6 R) 58 (0, 0)) := by
  obtain ⟨_, h | ⟨g', cap, cur, hv, hb, hg, h1, h2, h3, h4⟩⟩ := h
  · cases h.1
  · simp only [Value.slice.injEq, Option.some.injEq, Addr.mk.injEq] at hv
    obtain ⟨⟨rfl, _⟩, hn, rfl⟩ := hv
    rw [hg]
    have e : cur = tab6 R := by
      rw [List.take_of_length_le (by simp; omega)] at h4
      unfold tab6
      rw [← h4]
    rw [e]
theorem Own.ofWhole {B : Nat} {w : World} {g : Nat} {R : List Int} (hg : w.heap[g]? = some (.cells (tab6 R) 58 (0, 0))) (hB : B ≤ g) (hR : R.length = 256) : Own .i64 58 B w (.slice (some ⟨g, 0, none⟩) 256 256) R :=
  ⟨by simp, .inr ⟨g, 256, tab6 R, by rw [hR], hB, hg, by omega, by decide, by simp [tab6, hR], by simp [tab6]; exact List.take_of_length_le (by simp)⟩⟩
theorem info6 : (Tryz.prog.info? 58).map (·.size) = some 256 := by kernel_rfl
theorem size6 {R : List Int} (h : R.length = 256) : (Tryz.prog.info? 58).map (·.size) = some (tab6 R).size := by
  have : (tab6 R).size = 256 := by simp [tab6, h]
  rw [this]
  exact info6
theorem tab6_size {R : List Int} (h : R.length = 256) : (tab6 R).size = 256 := by simp [tab6, h]
theorem tab6_one (R : List Int) : (tab6 R).all (·.oneCell') = true := by
  rw [Array.all_eq_true]
  intro i hi
  simp [tab6] at hi ⊢
  rfl
theorem index6 (R : List Int) (hR : R.length = 256) (j : Nat) (hj : j < 256) (w : World) : (Instr.index 58 (.agg (tab6 R)) (.int .i64 (j : Int))).run Tryz.prog w = .ok (.int .i64 (R.getD j 0)) w := by
  have hs := sizeI64 w
  have hc : (tab6 R)[j]? = some (.int .i64 (R.getD j 0)) := by
    have h' : j < R.length := by omega
    simp [tab6, List.getD, List.getElem?_eq_getElem h']
  have hn : (0 : Int) ≤ (j : Int) ∧ (j : Int) < 256 := by omega
  simp [Instr.index, run_underlying Tryz.underlying58, run_underlying Tryz.underlying3, asIntOf, Sem.run_bind, hs, part, isAgg, hc, hn, hj]
theorem Own.aside {k : IntKind} {e : TypeId} {B g j : Nat} {w : World} {n c : Nat} {zs : List Int} (h : Own k e B w (.slice (some ⟨g, 0, none⟩) n c) zs) {b : Nat} (hb : g ≠ b) (v : Value) : Own k e B (w.setCell ⟨b, j, none⟩ v) (.slice (some ⟨g, 0, none⟩) n c) zs :=
  World.ownsRow.kept (row := some b) h ((But.refl b w).setCell j v) (.inr (by simp [Value.ownBlock]; exact hb))
end Go.Proofs.YtlmbdafilboblaaGreat

/- Contracts of bwt.firstRows, bwt.rowsOfLonger and bwt.placeOfByte. -/
namespace Go.Proofs.YtlmbdafilboblaaGreat
set_option linter.unusedVariables false
set_option linter.unusedSimpArgs false
open Go.RowKit

theorem place_any (r k : Nat) (w : World) (hr : r ≤ 1000000) : Calls Tryz.prog 15 #[.int .i64 (r : Int), .int .i64 (k : Int)] w fun e w' => e = .returned (.int .i64 (byteOf k r : Int)) ∧ w' = w := by
  by_cases h : k < r
  · have d1 : decide ((k : Int) < (r : Int)) = true := by simp; omega
    have d1' : decide (k < r) = true := by simp; omega
    obtain ⟨K, rfl⟩ : ∃ K, r = K + 1 := ⟨r - 1, by omega⟩
    obtain ⟨R, HR⟩ : ∃ R, Hid (K + 1 = R) := ⟨_, rfl⟩
    have hB : Hid (byteOf k (K + 1) = K) := by show _ = _; unfold byteOf; rw [if_pos h]; rfl
    rw [hB.out]
    rw [HR.out] at d1 d1' hr ⊢
    have h1 : (R : Int) - 1 = (K : Int) := by have := HR.out; omega
    have h2 : IntKind.i64.wrap (K : Int) = (K : Int) := by rw [IntKind.wrap_i64]; have := HR.out; omega
    clear h hB
    go_enter Tryz.func15, Tryz.ntmps15
    go_wp2
    go_ret
    exact ⟨rfl, rfl⟩
  · have d1 : decide ((k : Int) < (r : Int)) = false := by simp; omega
    have d1' : decide (k < r) = false := by simp; omega
    have hB : Hid (byteOf k r = r) := by show _ = _; unfold byteOf; rw [if_neg h]
    rw [hB.out]
    clear h hB
    go_enter Tryz.func15, Tryz.ntmps15
    go_wp2
    go_ret
    exact ⟨rfl, rfl⟩

set_option maxRecDepth 100000 in
set_option maxHeartbeats 2000000 in
theorem firstRows_any (v : Value) (l : List Int) (w : World) (hv : Sl .u8 w v l) (h8 : Bytes8 l) (hs : l.length ≤ 100000) :
    Calls Tryz.prog 30 #[v] w fun e w' => e = .returned (.agg (tab6 (nxtL l 0))) ∧ Ext w w' := by
  have HV := hide' hv
  have H8 := hide' h8
  obtain ⟨va, vc, rfl, _⟩ := hv
  obtain ⟨n, HN⟩ : ∃ n, Hid (l.length = n) := ⟨_, rfl⟩
  rw [HN.out] at HV hs ⊢
  obtain ⟨Z, HZ⟩ : ∃ Z : List Int, Hid (List.replicate 256 0 = Z) := ⟨_, rfl⟩
  have hzt : ∀ w, (zeroValue 58).run Tryz.prog w = .ok (.agg (tab6 Z)) w := by rw [← HZ.out]; exact zero_tab6
  have hZl : Z.length = 256 := by rw [← HZ.out]; exact List.length_replicate
  have L0 : ∀ W : World, Own .i64 58 W.heap.size (W.alloc (.cells (tab6 Z) 58)) (.slice (some ⟨W.heap.size, 0, none⟩) 256 256) Z := fun W => Own.lit W Z 256 hZl (by decide) (Nat.le_refl _)
  obtain ⟨w3, HW3⟩ : ∃ w3, Hid (((w.alloc (.cells (tab6 Z) 58)).alloc (.cells (tab6 Z) 58)).alloc (.cells (tab6 Z) 58) = w3) := ⟨_, rfl⟩
  obtain ⟨g, HG⟩ : ∃ g, Hid (w.heap.size = g) := ⟨_, rfl⟩
  have OR : Hid (Own .i64 58 g w3 (.slice (some ⟨g, 0, none⟩) 256 256) Z) := by
    show Own _ _ _ _ _ _
    rw [← HW3.out, ← HG.out]
    exact ((L0 w).alloc _).alloc _
  have OO : Hid (Own .i64 58 g w3 (.slice (some ⟨g + 1, 0, none⟩) 256 256) (oftL l 0)) := by
    show Own _ _ _ _ _ _
    have := (L0 (w.alloc (.cells (tab6 Z) 58))).alloc (.cells (tab6 Z) 58)
    rw [HW3.out, show (w.alloc (.cells (tab6 Z) 58)).heap.size = g + 1 by simp [HG.out]] at this
    rw [oftL_zero, HZ.out]
    exact this.low (by omega)
  have OF : Hid (Own .i64 58 g w3 (.slice (some ⟨g + 1 + 1, 0, none⟩) 256 256) (fstL l 0)) := by
    show Own _ _ _ _ _ _
    have := L0 ((w.alloc (.cells (tab6 Z) 58)).alloc (.cells (tab6 Z) 58))
    rw [HW3.out, show ((w.alloc (.cells (tab6 Z) 58)).alloc (.cells (tab6 Z) 58)).heap.size = g + 1 + 1 by simp [HG.out]] at this
    rw [fstL_zero, HZ.out]
    exact this.low (by omega)
  have X3 : Hid (Ext w w3) := by
    show Ext _ _
    rw [← HW3.out]
    exact ((ext_alloc _ _).trans (ext_alloc _ _)).trans (ext_alloc _ _)
  have hgw : w.heap.size ≤ g := by rw [HG.out]; exact Nat.le_refl _
  have hgw1 : w.heap.size ≤ g + 1 := by omega
  have hgw2 : w.heap.size ≤ g + 1 + 1 := by omega
  have VA : Hid (0 < n → ∃ b off, va = some ⟨b, off, none⟩ ∧ ∀ W j, Ext w W → j < n → W.cell? ⟨b, off + j, none⟩ = some (.int .u8 (l.getD j 0))) := fun h0 => by
    obtain ⟨_, b, off, h1, h2⟩ := HV.out.at (fun e => by have := HN.out; rw [e] at this; simp at this; omega)
    exact ⟨b, off, h1, fun W j he hj => he.cellOf (h2 j hj)⟩
  clear h8 L0
  have hZl2 := hide' hZl
  clear hZl
  go_enter Tryz.func30, Tryz.ntmps30
  go_wp2
  clear hzt
  rw [HW3.out, HG.out]
  go_loopw [12] (fun vi wr => ∃ (i : Nat), i ≤ n ∧ vi = .int .i64 i ∧ Hid (Own .i64 58 g wr (.slice (some ⟨g, 0, none⟩) 256 256) Z) ∧ Hid (Own .i64 58 g wr (.slice (some ⟨g + 1, 0, none⟩) 256 256) (oftL l i)) ∧
    Hid (Own .i64 58 g wr (.slice (some ⟨g + 1 + 1, 0, none⟩) 256 256) (fstL l 0)) ∧ Hid (Ext w wr)) (fun vi _ => n - (intOf vi).toNat)
  case atStart => exact ⟨0, Nat.zero_le _, rfl, OR, OO, OF, X3⟩
  case round =>
    clear OR OO OF X3
    obtain ⟨i, hi, rfl, OR, OO, OF, HE⟩ := hrel
    by_cases hlt : i < n
    · have hlt' : (i : Int) < n := by omega
      obtain ⟨b, o, rfl, k1⟩ := VA.out (by omega)
      have c1 := k1 wr i HE.out hlt
      have hz := H8.out.get i
      obtain ⟨q, hq⟩ := Int.eq_ofNat_of_zero_le hz.1
      have hq6 : q < 256 := by omega
      have hq6' : (q : Int) < 256 := by omega
      have HNX := hide' (oftL_next hq hq6)
      rw [hq] at c1
      have c2 := OO.out.cell (oftL_len l i) q hq6
      rw [oftL_at l i hq6] at c2
      have z2 := OO.out.frozen (oftL_len l i) q
      have hcn := cntI_le l q i
      obtain ⟨t, HT⟩ : ∃ t, Hid (cntI l q i = t) := ⟨_, rfl⟩
      rw [HT.out] at c2 hcn HNX
      have OO2 : Hid (Own .i64 58 g (wr.setCell ⟨g + 1, q, none⟩ (.int .i64 ((t + 1 : Nat) : Int))) (.slice (some ⟨g + 1, 0, none⟩) 256 256) (oftL l (i + 1))) := by
        show Own _ _ _ _ _ _
        rw [← HNX.out]
        exact OO.out.store (oftL_len l i) q _
      have OR2 := hide' (OR.out.aside (j := q) (show g ≠ g + 1 by omega) (.int .i64 ((t + 1 : Nat) : Int)))
      have OF2 := hide' (OF.out.aside (j := q) (show g + 1 + 1 ≠ g + 1 by omega) (.int .i64 ((t + 1 : Nat) : Int)))
      have HE2 := hide' (Ext.but HE.out hgw1 (but_set wr (g + 1) q (.int .i64 ((t + 1 : Nat) : Int))))
      clear k1 hq hz HNX
      go_wp2
      go_roundw
      case rel => exact ⟨i + 1, by omega, by go_num, OR2, OO2, OF2, HE2⟩
      case measure => simp [intOf]; omega
    · have hlt' : decide ((i : Int) < n) = false := by simp; omega
      have hin : i = n := by omega
      have HRW : Hid (∃ R, R.length = 256 ∧ (∀ b, b < 256 → R.getD b 0 = ((cntI l b n : Nat) : Int)) ∧ wr.heap[g + 1]? = some (.cells (tab6 R) 58 (0, 0))) := by
        refine ⟨oftL l n, oftL_len l n, fun b hb => oftL_at l n hb, ?_⟩
        rw [← hin]
        exact OO.out.whole
      obtain ⟨R, hR, hRA, hRW⟩ := HRW.out
      have HS := hide' (size6 hR)
      have HI := hide' (index6 R hR)
      have HRA := hide' hRA
      have HRH := hide' hRW
      clear hin hR hRA hRW HRW
      go_wp2_with (refine wpList_load_row rfl 58 (.tmp 3) rfl (g + 1) rfl 58 (tab6 R) (0, 0) _ HRH.out Tryz.underlying58 rfl HS.out ?_)
      go_loopw [7, 23] (fun va vi wq => ∃ (q : Nat), q ≤ 256 ∧ vi = .int .i64 q ∧ va = .int .i64 ((ahC l q n + 1 : Nat) : Int) ∧ Hid (Own .i64 58 g wq (.slice (some ⟨g, 0, none⟩) 256 256) Z) ∧
        Hid (Own .i64 58 g wq (.slice (some ⟨g + 1 + 1, 0, none⟩) 256 256) (fstL l q)) ∧ Hid (Ext w wq)) (fun _ vi _ => 256 - (intOf vi).toNat)
      case atStart => exact ⟨0, Nat.zero_le _, rfl, rfl, OR, OF, HE⟩
      case round =>
        clear OR OO OF HE
        obtain ⟨q, hq, rfl, rfl, OR, OF, HE⟩ := hrel
        by_cases hqt : q < 256
        · have hqt' : (q : Int) < 256 := by omega
          have hx := HI.out q hqt
          rw [HRA.out q hqt] at hx
          have hb1 : ahC l q n ≤ 25600000 := by
            have h1 := ahC_le l q n
            have h2 : q * n ≤ 256 * 100000 := Nat.mul_le_mul (by omega) hs
            omega
          have hb2 := cntI_le l q n
          have HAH : Hid (ahC l (q + 1) n = ahC l q n + cntI l q n) := rfl
          have HNX := hide' (fstL_next l hqt)
          have c2 := OF.out.cell (fstL_len l q) q hqt
          have z2 := OF.out.frozen (fstL_len l q) q
          rw [HN.out] at HNX
          obtain ⟨A, HA⟩ : ∃ A, Hid (ahC l q n = A) := ⟨_, rfl⟩
          obtain ⟨C, HC⟩ : ∃ C, Hid (cntI l q n = C) := ⟨_, rfl⟩
          rw [HA.out] at hb1 HAH HNX ⊢
          rw [HC.out] at hb2 HAH hx
          have OF2 : Hid (Own .i64 58 g (wr.setCell ⟨g + 1 + 1, q, none⟩ (.int .i64 ((A + 1 : Nat) : Int))) (.slice (some ⟨g + 1 + 1, 0, none⟩) 256 256) (fstL l (q + 1))) := by
            show Own _ _ _ _ _ _
            rw [← HNX.out]
            exact OF.out.store (fstL_len l q) q _
          have OR2 := hide' (OR.out.aside (j := q) (show g ≠ g + 1 + 1 by omega) (.int .i64 ((A + 1 : Nat) : Int)))
          have HE2 := hide' (Ext.but HE.out hgw2 (but_set wr (g + 1 + 1) q (.int .i64 ((A + 1 : Nat) : Int))))
          clear HNX
          go_wp2
          go_roundw
          case rel => exact ⟨q + 1, by omega, by go_num, by rw [HAH.out]; go_num, OR2, OF2, HE2⟩
          case measure => simp [intOf]; omega
        · have hqt' : decide ((q : Int) < 256) = false := by simp; omega
          have hq2 : q = 256 := by omega
          have HF : Hid (fstL l q = nxtL l 0) := by rw [hq2]; exact fstL_all l
          have OF1 : Hid (Own .i64 58 g wr (.slice (some ⟨g + 1 + 1, 0, none⟩) 256 256) (nxtL l 0)) := by rw [← HF.out]; exact OF.out
          have HS2 := hide' (size6 (nxtL_len l 0))
          have HSZ : Hid ((tab6 Z).size = (tab6 (nxtL l 0)).size) := by show _ = _; rw [tab6_size hZl2.out, tab6_size (nxtL_len l 0)]
          have GR := hide' OR.out.whole
          have GF := hide' OF1.out.whole
          clear hq2
          go_wp2_with (first
            | (refine wpList_load_row rfl 58 (.tmp 4) rfl (g + 1 + 1) rfl 58 (tab6 (nxtL l 0)) (0, 0) _ GF.out Tryz.underlying58 rfl HS2.out ?_)
            | (refine wpList_store_row rfl 58 (.tmp 2) (.tmp 34) rfl g (tab6 (nxtL l 0)) rfl rfl 58 (tab6 Z) GR.out HS2.out HSZ.out (tab6_one _) ?_))
          have hr := setRow_heap wr g (tab6 Z) (tab6 (nxtL l 0)) 58 (0, 0) GR.out
          refine bodyPost_ret (results_cell_row (fn := Tryz.f30) (p := 2) (ty := 58) rfl _ _ g _ (tab6 (nxtL l 0)) _ _ rfl hr Tryz.underlying58 rfl HS2.out) rfl ?_
          refine ⟨rfl, ?_⟩
          exact ⟨HE.out.os, HE.out.tape, HE.out.output, by rw [setRow_size]; exact HE.out.size, fun k hk => (setRow_other wr g k _ (by omega)).trans (HE.out.block k hk)⟩

set_option maxRecDepth 100000 in
set_option maxHeartbeats 2000000 in
theorem bwLonger_any (v : Value) (l : List Int) (w : World) (hv : Sl .u8 w v l) (h8 : Bytes8 l) (hs : l.length ≤ 100000) :
    Calls Tryz.prog 14 #[v] w fun e w' => ∃ r, e = .returned r ∧ Own .i64 3 w.heap.size w' r (lonL l l.length) ∧ Ext w w' := by
  have HV := hide' hv
  have H8 := hide' h8
  have C := hide' (firstRows_any v l w hv h8 hs)
  obtain ⟨va, vc, rfl, _⟩ := hv
  obtain ⟨n, HN⟩ : ∃ n, Hid (l.length = n) := ⟨_, rfl⟩
  rw [HN.out] at HV hs ⊢
  have HRK : Hid (∀ k b : Nat, k < n → l.getD k 0 = (b : Int) → rkN l k = ahC l b n + cntI l b k) := fun k b hk hb => by
    have := rk_sum (l := l) (k := k) hb (fun j => (H8.out.get j).1) (by rw [HN.out]; omega)
    rw [HN.out] at this
    exact this
  have HLN : Hid (∀ i, i < n → (lonL l i).set i ((rkN l i + 1 : Nat) : Int) = lonL l (i + 1)) := fun i hi => lonL_next l (by rw [HN.out]; exact hi)
  have HLL : Hid (∀ i, (lonL l i).length = n) := fun i => by rw [lonL_len, HN.out]
  have HL0 : Hid (lonL l 0 = List.replicate n 0) := by show _ = _; rw [lonL_zero, HN.out]
  clear h8
  obtain ⟨Z, HZ⟩ : ∃ Z : List Int, Hid (List.replicate 256 0 = Z) := ⟨_, rfl⟩
  have hzt : ∀ w, (zeroValue 58).run Tryz.prog w = .ok (.agg (tab6 Z)) w := by rw [← HZ.out]; exact zero_tab6
  have HZL : Hid (Z.length = 256) := by show _ = _; rw [← HZ.out]; exact List.length_replicate
  obtain ⟨N, HNX⟩ : ∃ N : List Int, Hid (nxtL l 0 = N) := ⟨_, rfl⟩
  have HNL : Hid (N.length = 256) := by show _ = _; rw [← HNX.out]; exact nxtL_len l 0
  rw [HN.out, HNX.out] at C
  go_enter Tryz.func14, Tryz.ntmps14
  go_wp2_with fail
  refine C.out.mono ?_
  rintro e w1 ⟨rfl, he⟩
  have X1 := hide' he
  have hz1 := he.size
  clear he C
  have GA := hide' (heap_alloc_top w1 (.cells (tab6 Z) 58))
  have HS2 := hide' (size6 HNL.out)
  have HSZ : Hid ((tab6 Z).size = (tab6 N).size) := by show _ = _; rw [tab6_size HZL.out, tab6_size HNL.out]
  obtain ⟨w2, HW2⟩ : ∃ w2, Hid ((w1.alloc (.cells (tab6 Z) 58)).setRow w1.heap.size (tab6 N) = w2) := ⟨_, rfl⟩
  have G2 : Hid (w2.heap[w1.heap.size]? = some (.cells (tab6 N) 58 (0, 0))) := by
    show _ = _
    rw [← HW2.out]
    exact setRow_heap _ _ _ _ _ _ GA.out
  have X2 : Hid (Ext w1 w2) := by
    show Ext _ _
    rw [← HW2.out]
    have hx := ext_alloc w1 (.cells (tab6 Z) 58)
    exact ⟨hx.os, hx.tape, hx.output, by rw [setRow_size]; exact hx.size, fun k hk => (setRow_other _ _ k _ (by omega)).trans (hx.block k hk)⟩
  have hz2 : w2.heap.size = w1.heap.size + 1 := by rw [← HW2.out, setRow_size]; simp
  obtain ⟨w3, hmk, ho, he⟩ := make_intsB w2 n (by omega)
  have hz3 := he.size
  obtain ⟨g, HG⟩ : ∃ g, Hid (w1.heap.size = g) := ⟨_, rfl⟩
  have hgw : w.heap.size ≤ g := by rw [← HG.out]; exact hz1
  have hgw1 : w.heap.size ≤ g + 1 := by omega
  rw [HG.out] at hz2
  rw [hz2] at ho hmk
  have OT : Hid (Own .i64 58 w.heap.size w3 (.slice (some ⟨g, 0, none⟩) 256 256) (nxtL l 0)) := by
    show Own _ _ _ _ _ _
    rw [HNX.out]
    exact (Own.ofWhole (by have := G2.out; rwa [HG.out] at this) hgw HNL.out).ext he
  have OO : Hid (Own .i64 3 w.heap.size w3 (.slice (some ⟨g + 1, 0, none⟩) n n) (lonL l 0)) := by
    show Own _ _ _ _ _ _
    rw [HL0.out]
    exact ho.low (by omega)
  have HE := hide' ((X1.out.trans X2.out).trans he)
  have VA : Hid (0 < n → ∃ b off, va = some ⟨b, off, none⟩ ∧ ∀ W j, Ext w W → j < n → W.cell? ⟨b, off + j, none⟩ = some (.int .u8 (l.getD j 0))) := fun h0 => by
    obtain ⟨_, b, off, h1, h2⟩ := HV.out.at (fun e => by have := HN.out; rw [e] at this; simp at this; omega)
    exact ⟨b, off, h1, fun W j he hj => he.cellOf (h2 j hj)⟩
  clear ho he hz3
  go_wp2_with (refine wpList_store_row rfl 58 (.tmp 3) (.tmp 8) rfl w1.heap.size (tab6 N) rfl rfl 58 (tab6 Z) GA.out HS2.out HSZ.out (tab6_one _) ?_; rw [HW2.out, HG.out])
  clear hzt hmk GA HSZ HS2 HW2 G2 X1 X2 HNX HNL
  go_loopw [14] (fun vi wr => ∃ (i : Nat), i ≤ n ∧ vi = .int .i64 i ∧ Hid (Own .i64 58 w.heap.size wr (.slice (some ⟨g, 0, none⟩) 256 256) (nxtL l i)) ∧
    Hid (Own .i64 3 w.heap.size wr (.slice (some ⟨g + 1, 0, none⟩) n n) (lonL l i)) ∧ Hid (Ext w wr)) (fun vi _ => n - (intOf vi).toNat)
  case atStart => exact ⟨0, Nat.zero_le _, rfl, OT, OO, HE⟩
  case round =>
    clear OT OO HE
    obtain ⟨i, hi, rfl, OT, OO, HE⟩ := hrel
    by_cases hlt : i < n
    · have hlt' : (i : Int) < n := by omega
      obtain ⟨b, o, rfl, k1⟩ := VA.out (by omega)
      have c1 := k1 wr i HE.out hlt
      have hz := H8.out.get i
      obtain ⟨q, hq⟩ := Int.eq_ofNat_of_zero_le hz.1
      have hq6 : q < 256 := by omega
      have hq6' : (q : Int) < 256 := by omega
      have HNX := hide' (nxtL_next hq hq6)
      have HRW := hide' (HRK.out i q hlt hq)
      have HLW := hide' (HLN.out i hlt)
      rw [hq] at c1
      have c2 := OT.out.cell (nxtL_len l i) q hq6
      rw [nxtL_at l i hq6, HN.out] at c2
      have z2 := OT.out.frozen (nxtL_len l i) q
      have c3 := OO.out.cell (HLL.out i) i hlt
      have z3 := OO.out.frozen (HLL.out i) i
      have hb1 : ahC l q n ≤ 25600000 := by
        have h1 := ahC_le l q n
        have h2 : q * n ≤ 256 * 100000 := Nat.mul_le_mul (by omega) hs
        omega
      have hb2 := cntI_le l q i
      rw [HN.out] at HNX
      rw [HRW.out] at HLW
      obtain ⟨t, HT⟩ : ∃ t, Hid (ahC l q n + cntI l q i = t) := ⟨_, rfl⟩
      rw [HT.out] at c2 HNX HLW
      have ht : t ≤ 25700000 := by rw [← HT.out]; omega
      obtain ⟨T, HTT⟩ : ∃ T, Hid (t + 1 = T) := ⟨_, rfl⟩
      rw [HTT.out] at c2 HNX HLW
      have hT : T ≤ 25700001 := by rw [← HTT.out]; omega
      have OO2 : Hid (Own .i64 3 w.heap.size (wr.setCell ⟨g + 1, i, none⟩ (.int .i64 (T : Int))) (.slice (some ⟨g + 1, 0, none⟩) n n) (lonL l (i + 1))) := by
        show Own _ _ _ _ _ _
        rw [← HLW.out]
        exact OO.out.store (HLL.out i) i _
      have OT2 := hide' (OT.out.aside (j := i) (show g ≠ g + 1 by omega) (.int .i64 (T : Int)))
      have HE2 := hide' (Ext.but HE.out hgw1 (but_set wr (g + 1) i (.int .i64 (T : Int))))
      have c4 := OT2.out.cell (nxtL_len l i) q hq6
      have z4 := OT2.out.frozen (nxtL_len l i) q
      have OO3 := hide' (OO2.out.aside (j := q) (show g + 1 ≠ g by omega) (.int .i64 ((T + 1 : Nat) : Int)))
      have OT3 : Hid (Own .i64 58 w.heap.size ((wr.setCell ⟨g + 1, i, none⟩ (.int .i64 (T : Int))).setCell ⟨g, q, none⟩ (.int .i64 ((T + 1 : Nat) : Int))) (.slice (some ⟨g, 0, none⟩) 256 256) (nxtL l (i + 1))) := by
        show Own _ _ _ _ _ _
        rw [← HNX.out]
        exact OT2.out.store (nxtL_len l i) q _
      have HE3 := hide' (Ext.but HE2.out hgw (but_set _ g q (.int .i64 ((T + 1 : Nat) : Int))))
      rw [nxtL_at l i hq6, HN.out, HT.out, HTT.out] at c4
      clear k1 hq hz HNX HLW HRW hb1 hb2
      go_wp2
      go_roundw
      case rel => exact ⟨i + 1, by omega, by go_num, OT3, OO3, HE3⟩
      case measure => simp [intOf]; omega
    · have hlt' : decide ((i : Int) < n) = false := by simp; omega
      have hin : i = n := by omega
      have OF : Hid (Own .i64 3 w.heap.size wr (.slice (some ⟨g + 1, 0, none⟩) n n) (lonL l n)) := by rw [← hin]; exact (by rw [hin]; have := OO.out; rwa [hin] at this)
      clear hin
      go_wp2
      go_ret
      exact ⟨_, rfl, OF.out, HE.out⟩
end Go.Proofs.YtlmbdafilboblaaGreat

/- Contracts of bwt.Turn and bwt.Back. -/
namespace Go.Proofs.YtlmbdafilboblaaGreat
set_option linter.unusedVariables false
set_option linter.unusedSimpArgs false
open Go.RowKit

theorem bwTurn_any (v : Value) (s : List Int) (w : World) (hv : Sl .u8 w v s) (h8 : Bytes8 s) (hs : s.length ≤ 100000) :
    Calls Tryz.prog 5 #[v] w fun e w' => ∃ r, e = .returned (.tuple #[r, .int .i64 (turnB s).2, .int .i64 0]) ∧ Own .u8 5 w.heap.size w' r (turnB s).1 ∧ Ext w w' := by
  have HV := hide' hv
  have C := hide' (saBytes_any v s w hv h8 (by omega))
  have HS := hide' hs
  have HF := hide' (fit256 h8)
  obtain ⟨va, vc, rfl, _⟩ := hv
  clear h8 hs
  go_enter Tryz.func5, Tryz.ntmps5
  go_wp2_with fail
  refine C.out.mono ?_
  rintro e w1 ⟨u1, L1, c1, rfl, hR, ho, he⟩
  obtain ⟨rfl, A, hA, rfl⟩ := hR.ok HS.out HF.out
  obtain rfl := hA.eq (sortE_ord s)
  have HOK : Hid (lcpOk s (natL (sortE s)) = true) := lcpOk_yes (by rw [natL_len, hA.len]) (ordB_nat (by have := hA.1; rwa [← hA.len] at this))
  have HL6 : Hid ((natL (sortE s)).length ≤ 1000000) := by show _ ≤ _; rw [natL_len, hA.len]; have := HS.out; omega
  have O1 := hide' ho.sl
  have X1 := hide' he
  have hz := he.size
  have HBW : Hid (bwI s (natL (sortE s)) = bwL s (sortE s) ∧ bwAtI s (natL (sortE s)) = (bwAt s (sortE s) : Int)) := ⟨bwI_nat HOK.out, bwAtI_nat HOK.out⟩
  clear hR hA ho he C
  go_wp2_with fail
  refine (bwOf_any _ _ s (natL (sortE s)) w1 (HV.out.ext X1.out) O1.out (Nat.le_trans HS.out (by omega)) HL6.out).mono ?_
  rw [HBW.out.1, HBW.out.2, HOK.out]
  rintro e w2 ⟨u2, rfl, ho, he⟩
  have O2 := hide' (ho.low hz)
  have X2 := hide' (X1.out.trans he)
  clear ho he
  go_wp2
  go_ret3
  exact ⟨_, rfl, O2.out, X2.out⟩

set_option maxRecDepth 100000 in
set_option maxHeartbeats 2000000 in
theorem bwBack_any (v : Value) (l : List Int) (at' : Int) (w : World) (hv : Sl .u8 w v l) (h8 : Bytes8 l) (hs : l.length ≤ 100000) :
    Calls Tryz.prog 6 #[v, .int .i64 at'] w fun e w' => ∃ r, e = .returned (.tuple #[r, .int .i64 (backB l at').2]) ∧ Own .u8 5 w.heap.size w' r (backB l at').1 ∧ Ext w w' := by
  have HV := hide' hv
  have H8 := hide' h8
  have CL := hide' (bwLonger_any v l w hv h8 hs)
  obtain ⟨va, vc, rfl, _⟩ := hv
  clear h8
  have e0 : decide ((100000 : Int) < (l.length : Int)) = false := by simp; omega
  by_cases b1 : at' < 0
  · rw [backB_out (by unfold rowMayB; exact decide_eq_false (by omega))]
    go_enter Tryz.func6, Tryz.ntmps6
    go_wp2
    go_ret2
    exact ⟨_, rfl, Own.nil _ _ _ _, Ext.refl _⟩
  have e1 : decide (at' < 0) = false := by simpa using b1
  by_cases b2 : (l.length : Int) < at'
  · rw [backB_out (by unfold rowMayB; exact decide_eq_false (by omega))]
    go_enter Tryz.func6, Tryz.ntmps6
    go_wp2
    go_ret2
    exact ⟨_, rfl, Own.nil _ _ _ _, Ext.refl _⟩
  have e2 : decide ((l.length : Int) < at') = false := by simpa using b2
  obtain ⟨k, rfl⟩ := Int.eq_ofNat_of_zero_le (show 0 ≤ at' by omega)
  have hk0 : k ≤ l.length := by omega
  obtain ⟨n, HN⟩ : ∃ n, Hid (l.length = n) := ⟨_, rfl⟩
  have HNO : Hid (bkGo l k n 0 [] = none → backB l (k : Int) = ([], 5)) := fun h => backB_none (by rw [HN.out]; exact h)
  have HYES : Hid (∀ out, bkGo l k n 0 [] = some out → backB l (k : Int) = (out, 0)) := fun out h => back_go hk0 (by rw [HN.out]; exact h)
  rw [HN.out] at HV b2 e0 e2 hs CL hk0 ⊢
  have hkn : k ≤ n := by omega
  have e2' : decide (n < k) = false := by simp; omega
  have e3 : decide ((k : Int) < 0) = false := by simp
  clear b1 b2 e1
  go_enter Tryz.func6, Tryz.ntmps6
  go_wp2_with fail
  refine CL.out.mono ?_
  rintro e w1 ⟨u1, rfl, ho1, he1⟩
  have X1 := hide' he1
  have hz1 := he1.size
  have HLA : Hid (∀ j, j < n → (lonL l n).getD j 0 = ((rkN l j + 1 : Nat) : Int)) := fun j hj => by
    have := lonL_all l (j := j) (by rw [HN.out]; exact hj)
    rwa [HN.out] at this
  have HLL : Hid ((lonL l n).length = n) := by show _ = _; rw [lonL_len, HN.out]
  obtain ⟨ua, uc, rfl, _⟩ := ho1.sl
  have S1 := hide' ho1.sl
  obtain ⟨LN, HLN⟩ : ∃ L, Hid (lonL l n = L) := ⟨_, rfl⟩
  rw [HLN.out] at HLA HLL S1 ⊢
  rw [HLL.out] at S1 ⊢
  clear ho1 he1 CL
  obtain ⟨w2, hmk, ho, he⟩ := make_bytes w1 n (by omega)
  have HO := hide' (ho.low hz1)
  have HE := hide' (X1.out.trans he)
  have HE1 := hide' he
  obtain ⟨g, HG⟩ : ∃ g, Hid (w1.heap.size = g) := ⟨_, rfl⟩
  have hgw : w.heap.size ≤ g := by rw [← HG.out]; exact hz1
  rw [HG.out] at HO hmk
  have VA : Hid (0 < n → ∃ b off, va = some ⟨b, off, none⟩ ∧ ∀ W j, Ext w W → j < n → W.cell? ⟨b, off + j, none⟩ = some (.int .u8 (l.getD j 0))) := fun h0 => by
    obtain ⟨_, b, off, h1, h2⟩ := HV.out.at (fun e => by have := HN.out; rw [e] at this; simp at this; omega)
    exact ⟨b, off, h1, fun W j he hj => he.cellOf (h2 j hj)⟩
  have H1 : Hid (∀ r, r ≤ n → r ≠ k → rkN l (byteOf k r) < n) := fun r hr hk => by
    have := rk_lt (l := l) (k := byteOf k r) (by rw [HN.out]; exact byte_lt hr hkn hk)
    rwa [HN.out] at this
  clear ho he
  go_wp2
  clear hmk
  go_loopw [8, 9] (fun vr vi wr => ∃ (t r : Nat) (z : Int) (R : List Int), t ≤ n ∧ r ≤ n ∧ z + 1 = (t : Int) ∧ vi = .int .i64 z ∧ vr = .int .i64 (r : Int) ∧ Hid (R.length = n) ∧ Hid (bkGo l k n 0 [] = bkGo l k t r (R.drop t)) ∧
      Hid (Own .u8 5 w.heap.size wr (.slice (some ⟨g, 0, none⟩) n n) R) ∧ Hid (Ext w1 wr)) (fun _ vi _ => (intOf vi + 1).toNat)
  case atStart => exact ⟨n, 0, (n : Int) - 1, List.replicate n 0, Nat.le_refl _, Nat.zero_le _, by omega, by first | rfl | go_num, rfl, List.length_replicate, (show _ = _ by rw [List.drop_of_length_le (by rw [List.length_replicate]; exact Nat.le_refl _)]), HO, HE1⟩
  case round =>
    clear HO HE1 HE
    obtain ⟨t, r, z, R, ht, hr, hz, rfl, rfl, HL, HGO, HO, HE⟩ := hrel
    by_cases h0 : t = 0
    · have d0 : decide (0 ≤ z) = false := by simp; omega
      have HF := hide' (HYES.out R (by rw [HGO.out, h0]; rfl))
      have HX := hide' (X1.out.trans HE.out)
      clear h0 hz
      go_wp2
      go_ret2
      rw [HF.out]
      exact ⟨_, rfl, HO.out, HX.out⟩
    · obtain ⟨T, HT⟩ : ∃ T, Hid (t = T + 1) := ⟨t - 1, by show _ = _; omega⟩
      obtain rfl : z = (T : Int) := by have := HT.out; omega
      have d0 : decide ((0 : Int) ≤ (T : Int)) = true := by simp
      have hTn : T < n := by have := HT.out; omega
      have hTn' : (T : Int) < n := by omega
      by_cases hrk : r = k
      · have q0 : ((r : Int) == (k : Int)) = true := by simp; omega
        have HF := hide' (HNO.out (by rw [HGO.out, HT.out, hrk]; exact bkGo_stop _ _ _ _))
        have HX := hide' (X1.out.trans HE.out)
        clear hrk
        go_wp2
        go_ret2
        rw [HF.out]
        exact ⟨_, rfl, Own.nil _ _ _ _, HX.out⟩
      · have q0 : ((r : Int) == (k : Int)) = false := by simp; omega
        have HKB : Hid (byteOf k r < n) := byte_lt hr hkn hrk
        have HGN : Hid (bkGo l k n 0 [] = bkGo l k T (rkN l (byteOf k r) + 1) (l.getD (byteOf k r) 0 :: R.drop (T + 1))) := by
          show _ = _
          rw [HGO.out, HT.out]
          exact bkGo_next hrk
        have HRL := hide' (H1.out r hr hrk)
        have CP := hide' (place_any r k wr (by omega))
        clear hrk
        go_wp2_with fail
        refine CP.out.mono ?_
        rintro e w3 ⟨rfl, rfl⟩
        obtain ⟨F, HF⟩ : ∃ F, Hid (byteOf k r = F) := ⟨_, rfl⟩
        rw [HF.out] at HKB HGN HRL ⊢
        clear CP
        obtain ⟨y, HY⟩ : ∃ y, Hid (l.getD F 0 = y) := ⟨_, rfl⟩
        obtain ⟨q, HQ⟩ : ∃ q, Hid (rkN l F = q) := ⟨_, rfl⟩
        have HLF := hide' (HLA.out F HKB.out)
        rw [HQ.out] at HRL HGN HLF
        have HGO2 : Hid (bkGo l k n 0 [] = bkGo l k T (q + 1) ((R.set T y).drop T)) := by
          show _ = _
          rw [HGN.out, HY.out, drop_set (by rw [HL.out]; exact hTn)]
        have hFn : F < n := HKB.out
        have hFn' : (F : Int) < n := by omega
        obtain ⟨vb, voff, hva, vcell⟩ := VA.out (by omega)
        subst hva
        have cF := vcell w3 F (X1.out.trans HE.out) hFn
        rw [HY.out] at cF
        clear vcell
        have zt := HO.out.frozen HL.out T
        have ct := HO.out.cell HL.out T hTn
        have HO2 := hide' (HO.out.store HL.out T y)
        have HE2 := hide' (Ext.but HE.out (by rw [HG.out]; exact Nat.le_refl _) (but_set w3 g T (.int .u8 y)))
        have HL2 : Hid ((R.set T y).length = n) := by show _ = _; rw [List.length_set]; exact HL.out
        obtain ⟨_, lb, loff, hlb, lcell⟩ := (S1.out.ext HE2.out).at (fun e => by have := HLL.out; rw [e] at this; simp at this; omega)
        subst hlb
        have cL := lcell F (by first | exact hFn | (rw [HLL.out]; exact hFn))
        rw [HLF.out] at cL
        clear lcell
        have hq := HRL.out
        go_wp2_with fail
        exact ⟨⟨T, q + 1, (T : Int) - 1, R.set T y, by omega, by omega, by omega, rfl, by first | rfl | go_num, HL2, HGO2, HO2, HE2⟩, by simp [intOf] <;> omega⟩
end Go.Proofs.YtlmbdafilboblaaGreat

/- Texts that are less than all their endings, and the row of such that a text is. Plain numbers, no conditions. -/
namespace Go.Proofs.YtlmbdafilboblaaGreat
set_option linter.unusedVariables false
set_option linter.unusedSimpArgs false

/-- Less: at a first other place, or by its end. -/
theorem cmpI_neg : ∀ (x y : List Int), cmpI x y < 0 ↔ ∃ j, j < y.length ∧ j ≤ x.length ∧ (∀ k, k < j → x.getD k 0 = y.getD k 0) ∧ (j = x.length ∨ x.getD j 0 < y.getD j 0)
  | [], [] => by simp [cmpI]
  | [], b :: y => ⟨fun _ => ⟨0, by simp, by simp, fun k hk => by omega, .inl rfl⟩, fun _ => by simp [cmpI]⟩
  | a :: x, [] => by simp [cmpI]
  | a :: x, b :: y => by
    have ih := cmpI_neg x y
    simp only [cmpI]
    by_cases h1 : a < b
    · rw [if_pos h1]
      exact ⟨fun _ => ⟨0, by simp, by simp, fun k hk => by omega, .inr (by simpa using h1)⟩, fun _ => by decide⟩
    · rw [if_neg h1]
      by_cases h2 : b < a
      · rw [if_pos h2]
        refine ⟨fun h => by omega, fun ⟨j, _, _, h3, h4⟩ => ?_⟩
        cases j with
        | zero =>
          rcases h4 with h4 | h4
          · simp at h4
          · simp at h4; omega
        | succ j => have := h3 0 (by omega); simp at this; omega
      · rw [if_neg h2, ih]
        have e : a = b := by omega
        subst e
        constructor
        · rintro ⟨j, g1, g2, g3, g4⟩
          refine ⟨j + 1, by simp; omega, by simp; omega, fun k hk => ?_, ?_⟩
          · cases k with
            | zero => simp
            | succ k => simpa using g3 k (by omega)
          · rcases g4 with g4 | g4
            · exact .inl (by simp [g4])
            · exact .inr (by simpa using g4)
        · rintro ⟨j, g1, g2, g3, g4⟩
          cases j with
          | zero =>
            rcases g4 with g4 | g4
            · simp at g4
            · simp at g4
          | succ j =>
            refine ⟨j, by simpa using g1, by simpa using g2, fun k hk => by simpa using g3 (k + 1) (by omega), ?_⟩
            rcases g4 with g4 | g4
            · exact .inl (by simpa using g4)
            · exact .inr (by simpa using g4)

theorem cmpI_lt_le {x y z : List Int} (h : cmpI x y < 0) (h' : cmpI y z ≤ 0) : cmpI x z < 0 := by
  have h1 := cmpI_trans x y z (by omega) h'
  by_cases h2 : cmpI x z = 0
  · have := cmpI_zero h2
    subst this
    have := cmpI_swap x y
    omega
  · omega
theorem cmpI_le_lt {x y z : List Int} (h : cmpI x y ≤ 0) (h' : cmpI y z < 0) : cmpI x z < 0 := by
  have h1 := cmpI_trans x y z h (by omega)
  by_cases h2 : cmpI x z = 0
  · have := cmpI_zero h2
    subst this
    have := cmpI_swap x y
    omega
  · omega
theorem cmpI_ge {x y : List Int} (h : ¬ cmpI x y < 0) : cmpI y x ≤ 0 := by
  have := cmpI_swap x y
  omega
theorem cmpI_app (p x y : List Int) : cmpI (p ++ x) (p ++ y) = cmpI x y := by
  induction p with
  | nil => rfl
  | cons a p ih => rw [List.cons_append, List.cons_append, cmpI, if_neg (by omega), if_neg (by omega), ih]
theorem cmpI_pre (x y : List Int) : cmpI x (x ++ y) ≤ 0 := by
  have h := cmpI_app x [] y
  rw [List.append_nil] at h
  rw [h]
  cases y <;> simp [cmpI]
theorem cmpI_pre_lt (x : List Int) {y : List Int} (hy : y ≠ []) : cmpI x (x ++ y) < 0 := by
  have h := cmpI_app x [] y
  rw [List.append_nil] at h
  rw [h]
  cases y with
  | nil => exact absurd rfl hy
  | cons b y => simp [cmpI]

theorem getD_left {x y : List Int} {k : Nat} (h : k < x.length) : (x ++ y).getD k 0 = x.getD k 0 := by
  simp only [List.getD_eq_getElem?_getD]
  rw [List.getElem?_append_left h]
theorem getD_right {x y : List Int} (k : Nat) : (x ++ y).getD (x.length + k) 0 = y.getD k 0 := by
  simp only [List.getD_eq_getElem?_getD]
  rw [List.getElem?_append_right (by omega)]
  congr 2; omega
theorem getD_drop (x : List Int) (i k : Nat) : (x.drop i).getD k 0 = x.getD (i + k) 0 := by
  simp only [List.getD_eq_getElem?_getD, List.getElem?_drop]
theorem getD_take {x : List Int} {n k : Nat} (h : k < n) : (x.take n).getD k 0 = x.getD k 0 := by
  simp only [List.getD_eq_getElem?_getD, List.getElem?_take]
  rw [if_pos h]

/-- Less than all its endings. -/
abbrev Lyn (s : List Int) : Prop := s.length ≠ 0 ∧ ∀ i, i < s.length → 1 ≤ i → cmpI s (s.drop i) < 0

def lynB (s : List Int) : Bool := decide (Lyn s)
theorem lynB_true {s : List Int} (h : Lyn s) : lynB s = true := decide_eq_true h
theorem lynB_false {s : List Int} (h : ¬ Lyn s) : lynB s = false := decide_eq_false h

/-- The first n of a row: less than all their endings, place by place. -/
def LynF (f : Nat → Int) (n : Nat) : Prop := 1 ≤ n ∧ ∀ i, 1 ≤ i → i < n → ∃ j, i + j < n ∧ (∀ k, k < j → f k = f (i + k)) ∧ f j < f (i + j)

theorem LynF.congr {f g : Nat → Int} {n : Nat} (h : LynF f n) (he : ∀ k, k < n → f k = g k) : LynF g n := by
  refine ⟨h.1, fun i h1 h2 => ?_⟩
  obtain ⟨j, g1, g2, g3⟩ := h.2 i h1 h2
  refine ⟨j, g1, fun k hk => ?_, ?_⟩
  · rw [← he k (by omega), ← he (i + k) (by omega)]; exact g2 k hk
  · rw [← he j (by omega), ← he (i + j) g1]; exact g3

theorem lyn_iff (s : List Int) : Lyn s ↔ LynF (fun k => s.getD k 0) s.length := by
  unfold Lyn LynF
  refine and_congr (by omega) ⟨fun h i h1 h2 => ?_, fun h i h2 h1 => ?_⟩
  · obtain ⟨j, g1, g2, g3, g4⟩ := (cmpI_neg _ _).1 (h i h2 h1)
    rw [List.length_drop] at g1
    refine ⟨j, by omega, fun k hk => ?_, ?_⟩
    · have := g3 k hk; rwa [getD_drop] at this
    · rcases g4 with g4 | g4
      · omega
      · rwa [getD_drop] at g4
  · obtain ⟨j, g1, g2, g3⟩ := h i h1 h2
    refine (cmpI_neg _ _).2 ⟨j, by rw [List.length_drop]; omega, by omega, fun k hk => ?_, .inr ?_⟩
    · rw [getD_drop]; exact g2 k hk
    · rw [getD_drop]; exact g3

theorem lyn_take {s : List Int} {n : Nat} (hn : n ≤ s.length) : Lyn (s.take n) ↔ LynF (fun k => s.getD k 0) n := by
  have hl : (s.take n).length = n := by simp; omega
  rw [lyn_iff, hl]
  exact ⟨fun h => h.congr fun k hk => getD_take hk, fun h => h.congr fun k hk => (getD_take hk).symm⟩

/-- The longest beginning that is one. -/
def downI (s : List Int) : Nat → Nat
  | 0 => 0
  | n + 1 => if Lyn (s.take (n + 1)) then n + 1 else downI s n
def longI (s : List Int) : Nat := downI s s.length
def facF : Nat → List Int → List Int
  | 0, _ => []
  | f + 1, s => if s.length = 0 then [] else (longI s : Int) :: facF f (s.drop (longI s))
/-- The lengths of the longest ones, one behind the other. -/
def facL (s : List Int) : List Int := facF s.length s

structure Long (s : List Int) (n : Nat) : Prop where
  pos : 1 ≤ n
  le : n ≤ s.length
  lyn : Lyn (s.take n)
  none : ∀ m, n < m → m ≤ s.length → ¬ Lyn (s.take m)

theorem Long.unique {s : List Int} {n m : Nat} (h : Long s n) (h' : Long s m) : n = m := by
  rcases Nat.lt_trichotomy n m with g | g | g
  · exact absurd h'.lyn (h.none m g h'.le)
  · exact g
  · exact absurd h.lyn (h'.none n g h.le)

theorem lyn_one {s : List Int} (h : s.length ≠ 0) : Lyn (s.take 1) := by
  rw [lyn_take (by omega)]
  exact ⟨Nat.le_refl _, fun i h1 h2 => by omega⟩

theorem downI_spec (s : List Int) : ∀ n, 1 ≤ n → n ≤ s.length → 1 ≤ downI s n ∧ downI s n ≤ n ∧ Lyn (s.take (downI s n)) ∧ ∀ m, downI s n < m → m ≤ n → ¬ Lyn (s.take m)
  | 0, h, _ => by omega
  | n + 1, _, hn => by
    unfold downI
    by_cases h : Lyn (s.take (n + 1))
    · rw [if_pos h]; exact ⟨by omega, Nat.le_refl _, h, fun m _ _ => by omega⟩
    · rw [if_neg h]
      by_cases h0 : n = 0
      · subst h0; exact absurd (lyn_one (by omega)) h
      · obtain ⟨h1, h2, h3, h4⟩ := downI_spec s n (by omega) (by omega)
        refine ⟨h1, by omega, h3, fun m g1 g2 => ?_⟩
        by_cases e : m = n + 1
        · subst e; exact h
        · exact h4 m g1 (by omega)
theorem longI_spec {s : List Int} (h : s.length ≠ 0) : Long s (longI s) := by
  obtain ⟨h1, h2, h3, h4⟩ := downI_spec s s.length (by omega) (Nat.le_refl _)
  exact ⟨h1, h2, h3, h4⟩
theorem longI_eq {s : List Int} {n : Nat} (h : Long s n) : longI s = n := (longI_spec (by have := h.pos; have := h.le; omega)).unique h
theorem lyn_longI {s : List Int} (h : s.length ≠ 0) : Lyn s ↔ longI s = s.length := by
  have hl := longI_spec h
  constructor
  · intro g
    refine longI_eq ⟨by omega, Nat.le_refl _, by rw [List.take_length]; exact g, fun m g1 g2 => by omega⟩
  · intro g
    have := hl.lyn
    rwa [g, List.take_length] at this

theorem facF_more : ∀ (f : Nat) (s : List Int), s.length ≤ f → facF f s = facF s.length s := by
  intro f
  induction f using Nat.strongRecOn with
  | ind f ih =>
    intro s hs
    cases f with
    | zero => have : s.length = 0 := by omega
              rw [this]
    | succ f =>
      by_cases h0 : s.length = 0
      · rw [h0]; simp [facF, h0]
      · have hl := longI_spec h0
        obtain ⟨m, hm⟩ : ∃ m, s.length = m + 1 := ⟨s.length - 1, by omega⟩
        have hp := hl.pos
        rw [hm]
        simp only [facF, if_neg h0]
        rw [ih f (by omega) (s.drop (longI s)) (by rw [List.length_drop]; omega), ih m (by omega) (s.drop (longI s)) (by rw [List.length_drop]; omega)]
theorem facL_nil {s : List Int} (h : s.length = 0) : facL s = [] := by
  unfold facL; rw [h]; rfl
theorem facL_cons {s : List Int} (h : s.length ≠ 0) : facL s = (longI s : Int) :: facL (s.drop (longI s)) := by
  have hp := (longI_spec h).pos
  obtain ⟨m, hm⟩ : ∃ m, s.length = m + 1 := ⟨s.length - 1, by omega⟩
  unfold facL
  rw [hm]
  simp only [facF, if_neg h]
  rw [facF_more m _ (by rw [List.length_drop]; omega)]
theorem facL_len : ∀ (n : Nat) (s : List Int), s.length ≤ n → (facL s).length ≤ s.length := by
  intro n
  induction n with
  | zero => intro s hs; rw [facL_nil (by omega)]; simp
  | succ n ih =>
    intro s hs
    by_cases h : s.length = 0
    · rw [facL_nil h]; simp
    · have hp := (longI_spec h).pos
      have hd : (s.drop (longI s)).length = s.length - longI s := List.length_drop
      rw [facL_cons h, List.length_cons]
      have := ih (s.drop (longI s)) (by omega)
      omega

/-- What the search keeps: the first e are the first L, which are less than all their endings, again and again, and a beginning of them. -/
structure Duv (s : List Int) (L e : Nat) : Prop where
  pos : 1 ≤ L
  le : L ≤ e
  len : e ≤ s.length
  lyn : LynF (fun k => s.getD k 0) L
  per : ∀ i, L ≤ i → i < e → s.getD i 0 = s.getD (i - L) 0

theorem Duv.start {s : List Int} (h : s.length ≠ 0) : Duv s 1 1 :=
  ⟨Nat.le_refl _, Nat.le_refl _, by omega, ⟨Nat.le_refl _, fun i h1 h2 => by omega⟩, fun i h1 h2 => by omega⟩
theorem Duv.same {s : List Int} {L e : Nat} (h : Duv s L e) (he : e < s.length) (hs : s.getD (e - L) 0 = s.getD e 0) : Duv s L (e + 1) := by
  refine ⟨h.pos, by have := h.le; omega, he, h.lyn, fun i h1 h2 => ?_⟩
  by_cases g : i = e
  · subst g; exact hs.symm
  · exact h.per i h1 (by omega)
theorem Duv.mod {s : List Int} {L e : Nat} (h : Duv s L e) : ∀ i, i < e → s.getD i 0 = s.getD (i % L) 0 := by
  intro i
  induction i using Nat.strongRecOn with
  | ind i ih =>
    intro hi
    by_cases g : i < L
    · rw [Nat.mod_eq_of_lt g]
    · have hp := h.pos
      rw [h.per i (by omega) hi, ih (i - L) (by omega) (by omega), Nat.mod_eq_sub_mod (by omega : L ≤ i)]
theorem Duv.grow {s : List Int} {L e : Nat} (h : Duv s L e) (he : e < s.length) (hs : s.getD (e - L) 0 < s.getD e 0) : Duv s (e + 1) (e + 1) := by
  have hp := h.pos
  have hle := h.le
  have hm : s.getD (e - L) 0 = s.getD (e % L) 0 := by rw [h.mod (e - L) (by omega), ← Nat.mod_eq_sub_mod (by omega : L ≤ e)]
  refine ⟨by omega, Nat.le_refl _, he, ⟨by omega, fun i h1 h2 => ?_⟩, fun i h1 h2 => by omega⟩
  show ∃ j, i + j < e + 1 ∧ (∀ k, k < j → s.getD k 0 = s.getD (i + k) 0) ∧ s.getD j 0 < s.getD (i + j) 0
  by_cases hr : i % L = 0
  · have hmm : ∀ k, (i + k) % L = k % L := fun k => by rw [Nat.add_mod, hr, Nat.zero_add, Nat.mod_mod]
    refine ⟨e - i, by omega, fun k hk => ?_, ?_⟩
    · rw [h.mod k (by omega), h.mod (i + k) (by omega), hmm]
    · have : (e - i) % L = e % L := by
        have := hmm (e - i)
        rw [show i + (e - i) = e by omega] at this
        exact this.symm
      rw [h.mod (e - i) (by omega), this, ← hm, show i + (e - i) = e by omega]
      exact hs
  · have hrl : i % L < L := Nat.mod_lt _ (by omega)
    obtain ⟨j, g1, g2, g3⟩ := h.lyn.2 (i % L) (by omega) hrl
    have g2 : ∀ k, k < j → s.getD k 0 = s.getD (i % L + k) 0 := g2
    have g3 : s.getD j 0 < s.getD (i % L + j) 0 := g3
    have hk : ∀ k, k ≤ j → (i + k) % L = i % L + k := fun k hk => by rw [Nat.add_mod, Nat.add_mod_mod, Nat.mod_eq_of_lt (by omega)]
    by_cases hij : i + j < e
    · refine ⟨j, by omega, fun k hkj => ?_, ?_⟩
      · rw [h.mod (i + k) (by omega), hk k (by omega)]; exact g2 k hkj
      · rw [h.mod (i + j) hij, hk j (Nat.le_refl _)]; exact g3
    · refine ⟨e - i, by omega, fun k hkj => ?_, ?_⟩
      · rw [h.mod (i + k) (by omega), hk k (by omega)]; exact g2 k (by omega)
      · have e1 := hk (e - i) (by omega)
        rw [show i + (e - i) = e by omega] at e1 ⊢
        have e2 : s.getD (e - i) 0 ≤ s.getD (i % L + (e - i)) 0 := by
          by_cases g : e - i = j
          · rw [g]; omega
          · have := g2 (e - i) (by omega); omega
        rw [← e1, ← hm] at e2
        omega

/-- Where it stops. -/
def Stop (s : List Int) (L e : Nat) : Prop := e = s.length ∨ (e < s.length ∧ s.getD e 0 < s.getD (e - L) 0)

theorem Duv.long {s : List Int} {L e : Nat} (h : Duv s L e) (hs : Stop s L e) : longI s = L := by
  have hp := h.pos
  have hle := h.le
  have hlen := h.len
  refine longI_eq ⟨hp, by omega, (lyn_take (by omega)).2 h.lyn, fun m h1 h2 hl => ?_⟩
  obtain ⟨j, g1, g2, g3⟩ := ((lyn_take h2).1 hl).2 L hp h1
  have g2 : ∀ k, k < j → s.getD k 0 = s.getD (L + k) 0 := g2
  have g3 : s.getD j 0 < s.getD (L + j) 0 := g3
  by_cases hj : L + j < e
  · have := h.per (L + j) (by omega) hj
    rw [show L + j - L = j by omega] at this
    omega
  · rcases hs with hs | ⟨_, hs⟩
    · omega
    · by_cases hj2 : L + j = e
      · rw [hj2] at g3
        rw [show e - L = j by omega] at hs
        omega
      · have := g2 (e - L) (by omega)
        rw [show L + (e - L) = e by omega] at this
        omega
theorem Duv.fac {L : Nat} : ∀ (t : Nat) (s : List Int) (e : Nat), Duv s L e → Stop s L e → e / L = t → facL s = List.replicate t (L : Int) ++ facL (s.drop (L * t)) := by
  intro t
  induction t with
  | zero =>
    intro s e h hs ht
    have hp := h.pos
    have hle := h.le
    have := Nat.div_pos hle (by omega)
    omega
  | succ t ih =>
    intro s e h hs ht
    have hp := h.pos
    have hle := h.le
    have hlen := h.len
    rw [facL_cons (by omega), h.long hs, List.replicate_succ, List.cons_append]
    congr 1
    by_cases h0 : t = 0
    · subst h0; simp
    · have ht2 : (e - L) / L = t := by have := Nat.div_eq_sub_div (show 0 < L by omega) hle; omega
      have h2 : L ≤ e - L := by
        rcases Nat.lt_or_ge (e - L) L with g | g
        · rw [Nat.div_eq_of_lt g] at ht2; omega
        · exact g
      have hl : (s.drop L).length = s.length - L := List.length_drop
      have hd : Duv (s.drop L) L (e - L) := by
        refine ⟨hp, h2, by omega, h.lyn.congr fun k hk => ?_, fun i h1 h3 => ?_⟩
        · show s.getD k 0 = (s.drop L).getD k 0
          rw [getD_drop, h.per (L + k) (by omega) (by omega)]
          congr 1; omega
        · rw [getD_drop, getD_drop, h.per (L + i) (by omega) (by omega)]
          congr 1; omega
      have hs2 : Stop (s.drop L) L (e - L) := by
        rcases hs with hs | ⟨hs1, hs⟩
        · exact .inl (by omega)
        · refine .inr ⟨by omega, ?_⟩
          rw [getD_drop, getD_drop, show L + (e - L) = e by omega, show L + (e - L - L) = e - L by omega]
          exact hs
      rw [ih (s.drop L) (e - L) hd hs2 ht2, List.drop_drop]
      congr 3
      rw [Nat.mul_succ, Nat.add_comm]

/-- Of two that are, the less one first, is one. -/
theorem lyn_join {u v : List Int} (hu : Lyn u) (hv : Lyn v) (h : cmpI u v < 0) : Lyn (u ++ v) := by
  have hul := hu.1
  have hvl := hv.1
  have hmid : cmpI (u ++ v) v < 0 := by
    obtain ⟨j, g1, g2, g3, g4⟩ := (cmpI_neg _ _).1 h
    by_cases hj : j < u.length
    · rcases g4 with g4 | g4
      · omega
      · refine (cmpI_neg _ _).2 ⟨j, g1, by rw [List.length_append]; omega, fun k hk => ?_, .inr ?_⟩
        · rw [getD_left (by omega)]; exact g3 k hk
        · rw [getD_left hj]; exact g4
    · have hj : j = u.length := by omega
      subst hj
      have hpre : v = u ++ v.drop u.length := by
        conv => lhs; rw [← List.take_append_drop u.length v]
        congr 1
        refine (getD_ext (by simp; omega) fun k hk => ?_).symm
        rw [getD_take hk]; exact g3 k hk
      conv => lhs; rhs; rw [hpre]
      rw [cmpI_app]
      exact hv.2 u.length g1 (by omega)
  refine ⟨by rw [List.length_append]; omega, fun i h1 h2 => ?_⟩
  rw [List.length_append] at h1
  rcases Nat.lt_trichotomy i u.length with g | g | g
  · obtain ⟨j, g1, g2, g3⟩ := ((lyn_iff u).1 hu).2 i h2 g
    refine (cmpI_neg _ _).2 ⟨j, by rw [List.length_drop, List.length_append]; omega, by rw [List.length_append]; omega, fun k hk => ?_, .inr ?_⟩
    · rw [getD_drop, getD_left (by omega), getD_left (by omega)]; exact g2 k hk
    · rw [getD_drop, getD_left (by omega), getD_left (by omega)]; exact g3
  · subst g
    rw [List.drop_left]
    exact hmid
  · have e : (u ++ v).drop i = v.drop (i - u.length) := by
      rw [List.drop_append]
      simp
      omega
    rw [e]
    exact cmpI_lt_le hmid (by have := hv.2 (i - u.length) (by omega) (by omega); omega)

/-- None is less than the next. -/
theorem falls {s : List Int} (h : s.length ≠ 0) (h' : (s.drop (longI s)).length ≠ 0) :
    ¬ cmpI (s.take (longI s)) ((s.drop (longI s)).take (longI (s.drop (longI s)))) < 0 := by
  intro hc
  have h1 := longI_spec h
  have h2 := longI_spec h'
  have hj := lyn_join h1.lyn h2.lyn hc
  have hl : (s.drop (longI s)).length = s.length - longI s := List.length_drop
  have hp := h2.pos
  have hle := h2.le
  have hle1 := h1.le
  refine h1.none (longI s + longI (s.drop (longI s))) (by omega) (by omega) ?_
  rw [List.take_add]
  exact hj

theorem long_pair {u v : List Int} (hu : Lyn u) (hv : Lyn v) (h : ¬ cmpI u v < 0) : longI (u ++ v) = u.length := by
  have hul := hu.1
  refine longI_eq ⟨by omega, by rw [List.length_append]; omega, by rw [List.take_left]; exact hu, fun m h1 h2 hl => ?_⟩
  rw [List.length_append] at h2
  have e1 : (u ++ v).take m = u ++ v.take (m - u.length) := by
    rw [List.take_append, List.take_of_length_le (by omega)]
  rw [e1] at hl
  have hz : v.take (m - u.length) ≠ [] := by
    intro g
    have := congrArg List.length g
    rw [List.length_take, List.length_nil] at this
    omega
  have a1 : cmpI (u ++ v.take (m - u.length)) (v.take (m - u.length)) < 0 := by
    have := hl.2 u.length (by rw [List.length_append, List.length_take]; omega) (by omega)
    rwa [List.drop_left] at this
  have a2 : cmpI (v.take (m - u.length)) v ≤ 0 := by
    have := cmpI_pre (v.take (m - u.length)) (v.drop (m - u.length))
    rwa [List.take_append_drop] at this
  have a3 := cmpI_ge h
  have a4 := cmpI_pre_lt u hz
  have a5 := cmpI_lt_le (cmpI_lt_le (cmpI_lt_le a1 a2) a3) (by omega : cmpI u (u ++ v.take (m - u.length)) ≤ 0)
  rw [cmpI_self] at a5
  omega

theorem facL_lyn {s : List Int} (h : Lyn s) : facL s = [(s.length : Int)] := by
  rw [facL_cons h.1, (lyn_longI h.1).1 h, List.drop_length]
  rfl
theorem facL_pair {u v : List Int} (hu : Lyn u) (hv : Lyn v) (h : ¬ cmpI u v < 0) : facL (u ++ v) = [(u.length : Int), (v.length : Int)] := by
  rw [facL_cons (by rw [List.length_append]; have := hu.1; omega), long_pair hu hv h, List.drop_left, facL_lyn hv]
theorem lyn_pair {u v : List Int} (hu : Lyn u) (hv : Lyn v) : Lyn (u ++ v) ↔ cmpI u v < 0 := by
  refine ⟨fun h => ?_, lyn_join hu hv⟩
  refine Classical.byContradiction fun g => ?_
  have h1 := long_pair hu hv g
  rw [(lyn_longI h.1).1 h, List.length_append] at h1
  have := hv.1
  omega
theorem facL_join {u v : List Int} (hu : Lyn u) (hv : Lyn v) : (facL (u ++ v)).length = if cmpI u v < 0 then 1 else 2 := by
  by_cases h : cmpI u v < 0
  · rw [if_pos h, facL_lyn (lyn_join hu hv h)]; rfl
  · rw [if_neg h, facL_pair hu hv h]; rfl

/-- Again and again. -/
theorem facL_rep {x : List Int} {n : Nat} (hx : x.length ≠ 0) (hn : 1 ≤ n) : facL (repI x n) = List.replicate n (x.length : Int) ↔ Lyn x := by
  have hN := repI_len x n
  have hge : x.length ≤ n * x.length := Nat.le_mul_of_pos_left _ (by omega)
  have htk : (repI x n).take x.length = x := by
    refine getD_ext (by simp; omega) fun k hk => ?_
    have hk' : k < x.length := by simp at hk; omega
    rw [getD_take hk', repI_at x n k (by omega), Nat.mod_eq_of_lt hk']
  constructor
  · intro h
    obtain ⟨m, rfl⟩ : ∃ m, n = m + 1 := ⟨n - 1, by omega⟩
    rw [facL_cons (by omega), List.replicate_succ] at h
    have hh := (List.cons.inj h).1
    have := (longI_spec (s := repI x (m + 1)) (by omega)).lyn
    rw [show longI (repI x (m + 1)) = x.length by omega, htk] at this
    exact this
  · intro h
    have hd : Duv (repI x n) x.length (n * x.length) := by
      refine ⟨by omega, hge, by omega, (lyn_take (by omega)).1 (by rw [htk]; exact h), fun i h1 h2 => ?_⟩
      rw [repI_at x n i h2, repI_at x n (i - x.length) (by omega), ← Nat.mod_eq_sub_mod h1]
    have := Duv.fac n _ _ hd (.inl hN.symm) (Nat.mul_div_cancel _ (by omega))
    rw [this, List.drop_of_length_le (by rw [hN, Nat.mul_comm]; omega)]
    simp [facL, facF]

theorem ab_lyn : Lyn [97, 98] := by decide
theorem aa_lyn : ¬ Lyn [97, 97] := by decide
theorem nil_lyn : ¬ Lyn [] := by decide
theorem banana_fac : facL [98, 97, 110, 97, 110, 97] = [1, 2, 2, 1] := by decide
end Go.Proofs.YtlmbdafilboblaaGreat

/- Contracts of lyndon.leading and lyndon.Factors. -/
namespace Go.Proofs.YtlmbdafilboblaaGreat
set_option linter.unusedVariables false
set_option linter.unusedSimpArgs false
open Go.RowKit

/-- The first factor, and how many times in a row. -/
structure Lead (zs : List Int) (L t : Nat) : Prop where
  pos : 1 ≤ L
  times : 1 ≤ t
  le : L * t ≤ zs.length
  long : longI zs = L
  fac : facL zs = List.replicate t (L : Int) ++ facL (zs.drop (L * t))

theorem Duv.lead {s : List Int} {L e : Nat} (h : Duv s L e) (hs : Stop s L e) : Lead s L (e / L) := by
  have hp := h.pos
  have hle := h.le
  refine ⟨hp, Nat.div_pos hle (by omega), ?_, h.long hs, Duv.fac _ s e h hs rfl⟩
  exact Nat.le_trans (Nat.mul_div_le e L) h.len

set_option maxHeartbeats 400000 in
theorem leading_any (v : Value) (zs : List Int) (w : World) (hs : Sl .u8 w v zs) (h0 : zs.length ≠ 0) (hlen : zs.length ≤ 1000000) :
    Calls Tryz.prog 44 #[v] w fun e w' => ∃ L t : Nat, e = .returned (.tuple #[.int .i64 (L : Int), .int .i64 (t : Int)]) ∧ Lead zs L t ∧ ∃ m, w' = w.drewN m := by
  have hne : zs ≠ [] := fun h => by rw [h] at h0; simp at h0
  have HV := hide' hs
  obtain ⟨a, c, rfl, _⟩ := hs
  obtain ⟨n, hn⟩ : ∃ n, zs.length = n := ⟨_, rfl⟩
  rw [hn] at HV h0 hlen ⊢
  have HL := hide' hn
  obtain ⟨_, b1, o1, rfl, c1⟩ := HV.out.at hne
  have C1 := hide' c1
  clear c1 hne hn HV
  go_enter Tryz.func44, Tryz.ntmps44
  go_wp2
  go_loopw [2, 4] (fun vl ve wr => ∃ (L e : Nat), 1 ≤ L ∧ L ≤ e ∧ e ≤ n ∧ vl = .int .i64 L ∧ ve = .int .i64 e ∧ Hid (Duv zs L e) ∧ ∃ m, wr = w.drewN m) (fun _ ve _ => n - (intOf ve).toNat)
  case atStart => exact ⟨1, 1, Nat.le_refl _, Nat.le_refl _, by omega, rfl, rfl, (show Duv _ _ _ from Duv.start (by rw [HL.out]; exact h0)), 0, rfl⟩
  case round =>
    obtain ⟨L, e, hL, hLe, hen, rfl, rfl, HD, m, rfl⟩ := hrel
    by_cases hlt : e < n
    · have hlt' : (e : Int) < n := by omega
      have hsub : (e : Int) - (L : Int) = ((e - L : Nat) : Int) := by omega
      have ce := C1.out e hlt
      have cj := C1.out (e - L) (by omega)
      obtain ⟨p, HP⟩ : ∃ p, Hid (zs.getD (e - L) 0 = p) := ⟨_, rfl⟩
      obtain ⟨q, HQ⟩ : ∃ q, Hid (zs.getD e 0 = q) := ⟨_, rfl⟩
      rw [HP.out] at cj
      rw [HQ.out] at ce
      obtain ⟨J, hJ⟩ : ∃ j, e - L = j := ⟨_, rfl⟩
      rw [hJ] at hsub cj
      have hJn : (J : Int) < n := by omega
      by_cases hpq : p ≤ q
      · by_cases hpq2 : p < q
        · have HD2 : Hid (Duv zs (e + 1) (e + 1)) := HD.out.grow (by rw [HL.out]; exact hlt) (by rw [HP.out, HQ.out]; exact hpq2)
          go_wp2_with fail
          go_quiet (fail)
          go_wp2_with fail
          go_quiet (fail)
          go_wp2
          go_roundw
          case rel => exact ⟨e + 1, e + 1, by omega, Nat.le_refl _, by omega, by go_num, by go_num, HD2, _, by first | rfl | rw [World.drewN_drewN, World.drewN_drewN] | rw [World.drewN_drewN]⟩
          case measure => simp [intOf]; omega
        · have HD2 : Hid (Duv zs L (e + 1)) := HD.out.same (by rw [HL.out]; exact hlt) (by rw [HP.out, HQ.out]; omega)
          have d2 : decide (p < q) = false := by simpa using hpq2
          go_wp2_with fail
          go_quiet (fail)
          go_wp2_with fail
          go_quiet (fail)
          go_wp2
          go_roundw
          case rel => exact ⟨L, e + 1, hL, by omega, by omega, rfl, by go_num, HD2, _, by first | rfl | rw [World.drewN_drewN, World.drewN_drewN] | rw [World.drewN_drewN]⟩
          case measure => simp [intOf]; omega
      · have d1 : decide (p ≤ q) = false := by simpa using hpq
        have HLd : Hid (Lead zs L (e / L)) := HD.out.lead (.inr ⟨by rw [HL.out]; exact hlt, by rw [HP.out, HQ.out]; omega⟩)
        have hd1 : (e : Int).tdiv (L : Int) = ((e / L : Nat) : Int) := by rw [Int.tdiv_eq_ediv_of_nonneg (by omega)]; simp
        have hd2 : (e : Int) / (L : Int) = ((e / L : Nat) : Int) := by simp
        have hdl : e / L ≤ e := Nat.div_le_self _ _
        obtain ⟨t, HT⟩ : ∃ t, Hid (e / L = t) := ⟨_, rfl⟩
        rw [HT.out] at hd1 hd2 hdl HLd
        have lne : (L : Int) ≠ 0 := by omega
        have lq : ((L : Int) == 0) = false := by simpa using lne
        go_wp2_with fail
        go_quiet (fail)
        go_wp2_with fail
        go_quiet (fail)
        go_wp2
        go_ret2
        exact ⟨L, t, rfl, HLd.out, _, by first | rfl | rw [World.drewN_drewN, World.drewN_drewN] | rw [World.drewN_drewN]⟩
    · have hlt' : decide ((e : Int) < n) = false := by simp; omega
      have HLd : Hid (Lead zs L (e / L)) := HD.out.lead (.inl (by rw [HL.out]; omega))
      have hd1 : (e : Int).tdiv (L : Int) = ((e / L : Nat) : Int) := by rw [Int.tdiv_eq_ediv_of_nonneg (by omega)]; simp
      have hd2 : (e : Int) / (L : Int) = ((e / L : Nat) : Int) := by simp
      have hdl : e / L ≤ e := Nat.div_le_self _ _
      obtain ⟨t, HT⟩ : ∃ t, Hid (e / L = t) := ⟨_, rfl⟩
      rw [HT.out] at hd1 hd2 hdl HLd
      have lne : (L : Int) ≠ 0 := by omega
      have lq : ((L : Int) == 0) = false := by simpa using lne
      go_wp2_with fail
      go_quiet (fail)
      go_wp2_with fail
      go_quiet (fail)
      go_wp2
      go_ret2
      exact ⟨L, t, rfl, HLd.out, _, by first | rfl | rw [World.drewN_drewN, World.drewN_drewN] | rw [World.drewN_drewN]⟩

set_option maxHeartbeats 800000 in
theorem factors_any (v : Value) (zs : List Int) (w : World) (hs : Sl .u8 w v zs) (hlen : zs.length ≤ 1000000) :
    Calls Tryz.prog 31 #[v] w fun e w' => ∃ s, e = .returned s ∧ Own .i64 3 w.heap.size w' s (facL zs) ∧ Ext w w' := by
  have HS := hide' hs
  have HLN : Hid ((facL zs).length ≤ 1000000) := Nat.le_trans (facL_len _ zs (Nat.le_refl _)) hlen
  obtain ⟨N, HN⟩ : ∃ n, Hid (zs.length = n) := ⟨_, rfl⟩
  rw [HN.out] at hlen
  clear hs
  go_enter Tryz.func31, Tryz.ntmps31
  go_wp2
  go_loopw [0, 3] (fun vs vo wr => ∃ (k : Nat) (out : List Int), k ≤ N ∧ Hid (Sl .u8 w vs (zs.drop k)) ∧ Hid (Own .i64 3 w.heap.size wr vo out) ∧ Hid (out ++ facL (zs.drop k) = facL zs) ∧ Hid (Ext w wr)) (fun vs _ _ => match vs with | .slice _ n _ => n | _ => 0)
  case atStart => exact ⟨0, [], Nat.zero_le _, HS, Own.nil _ _ _ _, (show _ = _ by simp), Ext.refl _⟩
  case round =>
    obtain ⟨k, out, hk, HV, HO, HF, HE⟩ := hrel
    have hv := HV.out
    obtain ⟨a, c, rfl, _⟩ := hv
    have hdl : (zs.drop k).length + k ≤ N := by rw [List.length_drop, HN.out]; omega
    obtain ⟨n, hn⟩ : ∃ n, (zs.drop k).length = n := ⟨_, rfl⟩
    have HnL := hide' hn
    rw [hn] at HV hdl ⊢
    clear hn
    by_cases h0 : n = 0
    · subst h0
      have HR : Hid (out = facL zs) := by
        show _ = _
        rw [← HF.out, facL_nil HnL.out, List.append_nil]
      go_wp2
      go_ret
      exact ⟨_, rfl, by rw [← HR.out]; exact HO.out, HE.out⟩
    · have hn0 : (0 : Int) < n := by omega
      have hn0' : 0 < n := by omega
      go_wp2_with fail
      refine (leading_any _ (zs.drop k) wr (HV.out.ext HE.out) (by rw [HnL.out]; exact h0) (by rw [HnL.out]; omega)).mono ?_
      rintro e w1 ⟨L, t, rfl, hl, m, rfl⟩
      have hL := hl.pos
      have ht := hl.times
      have hM := hl.le
      rw [HnL.out] at hM
      have HFC := hide' hl.fac
      clear hl
      have hmul : (L : Int) * (t : Int) = ((L * t : Nat) : Int) := by simp
      have hLM : L ≤ L * t := Nat.le_mul_of_pos_right _ (by omega)
      have htM : t ≤ L * t := Nat.le_mul_of_pos_left _ (by omega)
      obtain ⟨M, HM⟩ : ∃ M, Hid (L * t = M) := ⟨_, rfl⟩
      rw [HM.out] at hM hmul hLM htM HFC
      have HF2 : Hid (out ++ List.replicate t (L : Int) ++ facL (zs.drop (k + M)) = facL zs) := by
        show _ = _
        rw [← HF.out, HFC.out, List.drop_drop, List.append_assoc]
      have HOL : Hid (out.length + t ≤ 1000000) := by
        have h1 := congrArg List.length HF2.out
        have h2 := HLN.out
        simp only [List.length_append, List.length_replicate] at h1
        show _ ≤ _
        omega
      obtain ⟨a1, t1, s1, _⟩ := HV.out.runDrop (P := Tryz.prog) 22 5 Tryz.underlying22 size8 M (by rw [HnL.out]; exact hM)
      rw [List.drop_drop] at s1
      have S1 := hide' s1
      clear s1
      obtain ⟨n2, hn2⟩ : ∃ n2, n - M = n2 := ⟨_, rfl⟩
      rw [hn2] at t1 S1
      obtain ⟨c2, hc2⟩ : ∃ c2, c - M = c2 := ⟨_, rfl⟩
      rw [hc2] at t1 S1
      have hn2' : n2 < n := by omega
      clear hn2 hc2
      have HEr := hide' (HE.out.trans (Ext.drewN wr m))
      have HOr : Hid (Own .i64 3 w.heap.size (wr.drewN m) u3 out) := HO.out.ext (Ext.drewN _ _)
      go_wp2
      go_loopw [3, 15] (fun vo vi wi => ∃ (i : Nat) (xs : List Int), i ≤ t ∧ vi = .int .i64 i ∧ Hid (Own .i64 3 w.heap.size wi vo xs) ∧ Hid (xs = out ++ List.replicate i (L : Int)) ∧ Hid (Ext w wi)) (fun _ vi _ => t - (intOf vi).toNat)
      case atStart => exact ⟨0, out, Nat.zero_le _, rfl, HOr, (show _ = _ by rw [List.replicate_zero, List.append_nil]), HEr⟩
      case round =>
        obtain ⟨i, xs, hi, rfl, HOi, HXi, HEi⟩ := hrel
        by_cases hlt : i < t
        · have hlt' : (i : Int) < t := by omega
          have hsz := HEi.out.size
          have hol : Hid (xs.length + 1 ≤ 1000000) := by
            have := HOL.out
            show _ ≤ _
            rw [HXi.out]
            simp only [List.length_append, List.length_replicate]
            omega
          go_wp2_with (at_builtin; refine wpList_snoc _ rfl _ _ 32 rfl 3 .i64 8 Tryz.underlying32 infoI64 w.heap.size _ xs (L : Int) ⟨wr.heap.size, 0, none⟩ rfl rfl ?c4 (HOi.out.alloc _) ?c3 ?c5 ?_)
          case c4 => simp only [World.cell?, heap_alloc_top]; simp
          case c3 => have := hol.out; unfold maxLen; omega
          case c5 => simp; omega
          intro v1 w1 ho1 hb1
          have HX1 : Hid (xs ++ [(L : Int)] = out ++ List.replicate (i + 1) (L : Int)) := by
            show _ = _
            rw [HXi.out, List.append_assoc, ← List.replicate_succ']
          have HO1 := hide' ho1
          have HE1 : Hid (Ext w w1) := Below.trans (HEi.out.trans (ext_alloc _ _)) hb1
          clear ho1 hb1
          go_wp2
          go_roundw
          case rel => exact ⟨i + 1, _, by omega, by go_num, HO1, HX1, HE1⟩
          case measure => simp [intOf]; omega
        · have hlt' : decide ((i : Int) < t) = false := by simp; omega
          have hit : i = t := by omega
          subst hit
          rw [HXi.out] at HOi
          go_wp2
          go_roundw
          case rel => exact ⟨k + M, _, by omega, S1, HOi, HF2, HEi⟩
          case measure => exact hn2'
end Go.Proofs.YtlmbdafilboblaaGreat

/- Words that are less than all their endings, none less than the next: one behind the other they are just the factors. Plain numbers, no conditions. -/
namespace Go.Proofs.YtlmbdafilboblaaGreat
set_option linter.unusedVariables false
set_option linter.unusedSimpArgs false

/-- A row cut by lengths. -/
def cutFac : List Int → List Int → List (List Int)
  | [], _ => []
  | n :: l, s => s.take n.toNat :: cutFac l (s.drop n.toNat)
/-- The factors, as words. -/
def facW (s : List Int) : List (List Int) := cutFac (facL s) s
theorem facW_nil : facW [] = [] := by unfold facW; rw [facL_nil rfl]; rfl
theorem facW_cons {s : List Int} (h : s.length ≠ 0) : facW s = s.take (longI s) :: facW (s.drop (longI s)) := by
  unfold facW
  rw [facL_cons h]
  show s.take ((longI s : Int)).toNat :: cutFac _ (s.drop ((longI s : Int)).toNat) = _
  rw [Int.toNat_natCast]
/-- What begins within words that are at most u has an ending that is at most u. -/
theorem end_le {u : List Int} : ∀ {ws : List (List Int)}, (∀ w ∈ ws, cmpI w u ≤ 0) → ∀ m, 0 < m → m ≤ ws.flatten.length → ∃ i, i < m ∧ cmpI ((ws.flatten.take m).drop i) u ≤ 0 := by
  intro ws
  induction ws with
  | nil => intro _ m h1 h2; simp at h2; omega
  | cons w ws ih =>
    intro hw m h1 h2
    rw [List.flatten_cons] at h2 ⊢
    rcases Nat.lt_or_ge w.length m with g | g
    · rw [List.length_append] at h2
      obtain ⟨i, h3, h4⟩ := ih (fun x hx => hw x (List.mem_cons_of_mem _ hx)) (m - w.length) (by omega) (by omega)
      refine ⟨w.length + i, by omega, ?_⟩
      rw [List.take_append, List.take_of_length_le (by omega), List.drop_append, List.drop_of_length_le (by omega), List.nil_append, Nat.add_sub_cancel_left]
      exact h4
    · refine ⟨0, h1, ?_⟩
      rw [List.drop_zero, List.take_append_of_le_length g]
      have h3 := cmpI_pre (w.take m) (w.drop m)
      rw [List.take_append_drop] at h3
      exact cmpI_trans _ _ _ h3 (hw w List.mem_cons_self)
theorem long_words {u : List Int} {ws : List (List Int)} (hu : Lyn u) (hw : ∀ w ∈ ws, cmpI w u ≤ 0) : longI (u ++ ws.flatten) = u.length := by
  have hul := hu.1
  refine longI_eq ⟨by omega, by rw [List.length_append]; omega, by rw [List.take_append_of_le_length (Nat.le_refl _), List.take_length]; exact hu, fun m h1 h2 hl => ?_⟩
  rw [List.length_append] at h2
  obtain ⟨i, h3, h4⟩ := end_le hw (m - u.length) (by omega) (by omega)
  have e : (u ++ ws.flatten).take m = u ++ ws.flatten.take (m - u.length) := by rw [List.take_append, List.take_of_length_le (by omega)]
  rw [e] at hl
  have hlen : (u ++ ws.flatten.take (m - u.length)).length = m := by
    rw [List.length_append, List.length_take]
    omega
  have h5 := hl.2 (u.length + i) (by rw [hlen]; omega) (by omega)
  rw [List.drop_append, List.drop_of_length_le (by omega), List.nil_append, Nat.add_sub_cancel_left] at h5
  have h6 := cmpI_trans _ _ _ h4 (cmpI_pre u (ws.flatten.take (m - u.length)))
  rw [cmpI_swap] at h6
  omega
/-- There is just one such row of words. -/
theorem fac_unique : ∀ {ws : List (List Int)}, (∀ w ∈ ws, Lyn w) → ws.Pairwise (fun u v => ¬ cmpI u v < 0) → facW ws.flatten = ws := by
  intro ws
  induction ws with
  | nil => intro _ _; exact facW_nil
  | cons u ws ih =>
    intro hl hp
    rw [List.pairwise_cons] at hp
    have hu := hl u List.mem_cons_self
    have hlong := long_words hu fun w hw => cmpI_ge (hp.1 w hw)
    rw [List.flatten_cons, facW_cons (by rw [List.length_append]; have := hu.1; omega), hlong, List.take_append_of_le_length (Nat.le_refl _), List.take_length]
    rw [List.drop_append, List.drop_of_length_le (Nat.le_refl _), Nat.sub_self, List.drop_zero, List.nil_append]
    rw [ih (fun w hw => hl w (List.mem_cons_of_mem _ hw)) hp.2]
/-- Together the factors are the text. -/
theorem facW_flat : ∀ (n : Nat) (s : List Int), s.length ≤ n → (facW s).flatten = s ∧ ∀ w ∈ facW s, Lyn w := by
  intro n
  induction n with
  | zero =>
    intro s hs
    have : s = [] := List.length_eq_zero_iff.1 (by omega)
    subst this
    rw [facW_nil]
    simp
  | succ n ih =>
    intro s hs
    by_cases h : s.length = 0
    · have : s = [] := List.length_eq_zero_iff.1 h
      subst this
      rw [facW_nil]
      simp
    · have hl := longI_spec h
      have hp := hl.pos
      obtain ⟨h1, h2⟩ := ih (s.drop (longI s)) (by rw [List.length_drop]; omega)
      rw [facW_cons h, List.flatten_cons, h1, List.take_append_drop]
      refine ⟨rfl, fun w hw => ?_⟩
      rcases List.mem_cons.1 hw with g | g
      · rw [g]; exact hl.lyn
      · exact h2 w g
end Go.Proofs.YtlmbdafilboblaaGreat

/- Borders, periods and roots of a row of numbers. Plain numbers, no conditions. -/
namespace Go.Proofs.YtlmbdafilboblaaGreat
set_option linter.unusedVariables false
set_option linter.unusedSimpArgs false

/-- Among the first n of s each is the one d behind it. -/
def Per (s : List Int) (n d : Nat) : Prop := ∀ i, i + d < n → s.getD i 0 = s.getD (i + d) 0
/-- The first k of s are also the last of its first n. -/
def Bord (s : List Int) (n k : Nat) : Prop := k < n ∧ Per s n (n - k)
/-- The longest such. -/
def Bor (s : List Int) (n b : Nat) : Prop := Bord s n b ∧ ∀ k, Bord s n k → k ≤ b

def bdown (s : List Int) (n : Nat) : Nat → Nat
  | 0 => 0
  | k + 1 => if s.take (k + 1) = (s.take n).drop (n - (k + 1)) then k + 1 else bdown s n k
def borI (s : List Int) (n : Nat) : Nat := bdown s n (n - 1)

theorem cut_getD (s : List Int) (n m k j : Nat) (hj : j < k) (hm : m + k = n) : ((s.take n).drop m).getD j 0 = s.getD (m + j) 0 := by
  simp only [List.getD_eq_getElem?_getD, List.getElem?_drop, List.getElem?_take]
  rw [if_pos (by omega)]
theorem take_getD (s : List Int) (k j : Nat) (hj : j < k) : (s.take k).getD j 0 = s.getD j 0 := by
  simp only [List.getD_eq_getElem?_getD, List.getElem?_take]
  rw [if_pos hj]
theorem bord_iff {s : List Int} {n k : Nat} (hk : k ≤ n) (hn : n ≤ s.length) : s.take k = (s.take n).drop (n - k) ↔ Per s n (n - k) := by
  constructor
  · intro h i hi
    have h1 : (s.take k).getD i 0 = ((s.take n).drop (n - k)).getD i 0 := congrArg (fun l => l.getD i 0) h
    rw [take_getD _ _ _ (by omega), cut_getD s n (n - k) k i (by omega) (by omega)] at h1
    rw [h1, Nat.add_comm]
  · intro h
    refine getD_ext (by simp; omega) fun i hi => ?_
    have hi' : i < k := by simp at hi; omega
    rw [take_getD _ _ _ hi', cut_getD s n (n - k) k i hi' (by omega), h i (by omega), Nat.add_comm]

theorem bdown_spec (s : List Int) (n : Nat) (hn : n ≤ s.length) : ∀ m, m < n → Bord s n (bdown s n m) ∧ ∀ k, k ≤ m → Bord s n k → k ≤ bdown s n m := by
  intro m
  induction m with
  | zero => intro hm; exact ⟨⟨hm, fun i hi => by simp only [bdown] at hi; omega⟩, fun k hk _ => hk⟩
  | succ m ih =>
    intro hm
    unfold bdown
    by_cases h : s.take (m + 1) = (s.take n).drop (n - (m + 1))
    · rw [if_pos h]
      exact ⟨⟨hm, (bord_iff (by omega) hn).1 h⟩, fun k hk _ => hk⟩
    · rw [if_neg h]
      obtain ⟨h1, h2⟩ := ih (by omega)
      refine ⟨h1, fun k hk hb => ?_⟩
      by_cases hkm : k = m + 1
      · subst hkm
        exact absurd ((bord_iff (by omega) hn).2 hb.2) h
      · exact h2 k (by omega) hb

theorem borI_spec {s : List Int} {n : Nat} (h0 : 0 < n) (hn : n ≤ s.length) : Bor s n (borI s n) := by
  obtain ⟨h1, h2⟩ := bdown_spec s n hn (n - 1) (by omega)
  exact ⟨h1, fun k hk => h2 k (by have := hk.1; omega) hk⟩
theorem borI_eq {s : List Int} {n b : Nat} (hn : n ≤ s.length) (h : Bor s n b) : borI s n = b := by
  have h1 := borI_spec (s := s) (n := n) (by have := h.1.1; omega) hn
  have := h1.2 b h.1
  have := h.2 _ h1.1
  omega
theorem borI_lt {s : List Int} {n : Nat} (h0 : 0 < n) (hn : n ≤ s.length) : borI s n < n := (borI_spec h0 hn).1.1

/-- What the search for the next border keeps. -/
def Srch (s : List Int) (i n : Nat) : Prop := Bord s i n ∧ ∀ k, n < k → Bord s i k → s.getD k 0 ≠ s.getD i 0

theorem Srch.start {s : List Int} {i : Nat} (h0 : 0 < i) (hi : i ≤ s.length) : Srch s i (borI s i) := by
  have h := borI_spec h0 hi
  exact ⟨h.1, fun k hk hb => by have := h.2 k hb; omega⟩
theorem Bord.trans {s : List Int} {i n m : Nat} (h : Bord s i n) (k : Bord s n m) : Bord s i m := by
  obtain ⟨h1, h2⟩ := h
  obtain ⟨k1, k2⟩ := k
  refine ⟨by omega, fun j hj => ?_⟩
  rw [k2 j (by omega), h2 (j + (n - m)) (by omega)]
  congr 1
  omega
theorem Bord.inner {s : List Int} {i n m : Nat} (h : Bord s i n) (k : Bord s i m) (hm : m < n) : Bord s n m := by
  obtain ⟨h1, h2⟩ := h
  obtain ⟨k1, k2⟩ := k
  refine ⟨hm, fun j hj => ?_⟩
  rw [k2 j (by omega), h2 (j + (n - m)) (by omega)]
  congr 1
  omega
theorem Srch.down {s : List Int} {i n : Nat} (hi : i ≤ s.length) (h : Srch s i n) (h0 : 0 < n) (hne : s.getD n 0 ≠ s.getD i 0) : Srch s i (borI s n) := by
  have hn : n < i := h.1.1
  have hb := borI_spec (s := s) h0 (by omega)
  refine ⟨h.1.trans hb.1, fun k hk hk2 => ?_⟩
  by_cases h1 : k = n
  · subst h1; exact hne
  · by_cases h2 : n < k
    · exact h.2 k h2 hk2
    · have := hb.2 k (h.1.inner hk2 (by omega))
      omega
theorem Bord.longer {s : List Int} {i n : Nat} (h : Bord s i n) (he : s.getD n 0 = s.getD i 0) : Bord s (i + 1) (n + 1) := by
  obtain ⟨h1, h2⟩ := h
  refine ⟨by omega, fun j hj => ?_⟩
  by_cases hjn : j = n
  · subst hjn
    rw [he]
    congr 1
    omega
  · rw [h2 j (by omega)]
    congr 1
    omega
theorem Bord.shorter {s : List Int} {i n : Nat} (h : Bord s (i + 1) (n + 1)) : Bord s i n ∧ s.getD n 0 = s.getD i 0 := by
  obtain ⟨h1, h2⟩ := h
  refine ⟨⟨by omega, fun j hj => ?_⟩, ?_⟩
  · rw [h2 j (by omega)]
    congr 1
    omega
  · rw [h2 n (by omega)]
    congr 1
    omega
theorem Srch.found {s : List Int} {i n : Nat} (hi : i < s.length) (h : Srch s i n) (he : s.getD n 0 = s.getD i 0) : borI s (i + 1) = n + 1 := by
  refine borI_eq (by omega) ⟨h.1.longer he, fun k hk => ?_⟩
  cases k with
  | zero => omega
  | succ k =>
    obtain ⟨h1, h2⟩ := hk.shorter
    by_cases hkn : n < k
    · exact absurd h2 (h.2 k hkn h1)
    · omega
theorem Srch.none {s : List Int} {i : Nat} (hi : i < s.length) (h : Srch s i 0) (he : s.getD 0 0 ≠ s.getD i 0) : borI s (i + 1) = 0 := by
  refine borI_eq (by omega) ⟨⟨by omega, fun j hj => by omega⟩, fun k hk => ?_⟩
  cases k with
  | zero => omega
  | succ k =>
    obtain ⟨h1, h2⟩ := hk.shorter
    by_cases hkn : k = 0
    · subst hkn; exact absurd h2 he
    · exact absurd h2 (h.2 k (by omega) h1)

/-- All borders. -/
def borsL (s : List Int) : List Int := (List.range s.length).map fun i => (borI s (i + 1) : Int)
theorem borsL_len (s : List Int) : (borsL s).length = s.length := by simp [borsL]
theorem borsL_at {s : List Int} {i : Nat} (hi : i < s.length) : (borsL s).getD i 0 = (borI s (i + 1) : Int) := by
  simp [borsL, List.getD, List.getElem?_eq_getElem, hi]

/-- The least period. -/
def leastI (s : List Int) : Nat := s.length - borI s s.length
theorem leastI_spec {s : List Int} (h : 0 < s.length) : 1 ≤ leastI s ∧ leastI s ≤ s.length ∧ Per s s.length (leastI s) ∧ ∀ d, 1 ≤ d → Per s s.length d → leastI s ≤ d := by
  obtain ⟨h1, h2⟩ := borI_spec (s := s) h (Nat.le_refl _)
  have := h1.1
  unfold leastI
  refine ⟨by omega, by omega, h1.2, fun d hd hp => ?_⟩
  by_cases hdl : d ≤ s.length
  · have := h2 (s.length - d) ⟨by omega, by rwa [show s.length - (s.length - d) = d by omega]⟩
    omega
  · omega
theorem leastI_eq {s : List Int} {p : Nat} (h : 0 < s.length) (h1 : 1 ≤ p) (h2 : Per s s.length p) (h3 : ∀ d, 1 ≤ d → d < p → ¬ Per s s.length d) : leastI s = p := by
  obtain ⟨a1, a2, a3, a4⟩ := leastI_spec h
  have := a4 p h1 h2
  by_cases hlt : leastI s < p
  · exact absurd a3 (h3 _ a1 hlt)
  · omega

theorem Per.sub {s : List Int} {n p q : Nat} (hp : Per s n p) (hq : Per s n q) (h : p + q ≤ n) (hle : p ≤ q) : Per s n (q - p) := by
  intro i hi
  by_cases hiq : i + q < n
  · rw [hq i hiq]
    have := hp (i + (q - p)) (by omega)
    rw [this]
    congr 1
    omega
  · have h1 := hp (i - p) (by omega)
    have h2 := hq (i - p) (by omega)
    rw [show i - p + p = i by omega] at h1
    rw [show i - p + q = i + (q - p) by omega] at h2
    rw [← h1, h2]
theorem Per.gcd {s : List Int} {n : Nat} : ∀ (m p q : Nat), p + q ≤ m → p + q ≤ n → Per s n p → Per s n q → Per s n (Nat.gcd p q) := by
  intro m
  induction m with
  | zero =>
    intro p q h _ hp _
    have e1 : p = 0 := by omega
    have e2 : q = 0 := by omega
    subst e1 e2
    exact hp
  | succ m ih =>
    intro p q h hn hp hq
    by_cases h1 : p = 0
    · subst h1; rw [Nat.gcd_zero_left]; exact hq
    by_cases h2 : q = 0
    · subst h2; rw [Nat.gcd_zero_right]; exact hp
    by_cases hle : p ≤ q
    · have := ih p (q - p) (by omega) (by omega) hp (hp.sub hq hn hle)
      rwa [Nat.gcd_sub_self_right hle] at this
    · have := ih (p - q) q (by omega) (by omega) (hq.sub hp (by omega) (by omega)) hq
      rwa [Nat.gcd_sub_self_left (by omega)] at this
theorem Per.mod {s : List Int} {n d : Nat} (h : Per s n d) (hd : 0 < d) (i : Nat) (hi : i < n) : s.getD i 0 = s.getD (i % d) 0 := by
  induction i using Nat.strongRecOn with
  | ind i ih =>
    by_cases hlt : i < d
    · rw [Nat.mod_eq_of_lt hlt]
    · have h1 := h (i - d) (by omega)
      rw [show i - d + d = i by omega] at h1
      rw [← h1, ih (i - d) (by omega) (by omega)]
      congr 1
      exact (Nat.mod_eq_sub_mod (by omega)).symm
theorem Per.ofMod {s : List Int} {n d : Nat} (h : ∀ i, i < n → s.getD i 0 = s.getD (i % d) 0) : Per s n d := by
  intro i hi
  rw [h i (by omega), h (i + d) hi, Nat.add_mod_right]

/-- How long the root is. -/
def rootN (s : List Int) : Nat := if s.length % leastI s = 0 then leastI s else s.length
theorem rootN_spec {s : List Int} (h : 0 < s.length) : 1 ≤ rootN s ∧ rootN s ≤ s.length ∧ rootN s ∣ s.length ∧ Per s s.length (rootN s) ∧ ∀ d, 1 ≤ d → d ∣ s.length → Per s s.length d → rootN s ≤ d := by
  obtain ⟨a1, a2, a3, a4⟩ := leastI_spec h
  have base : 1 ≤ rootN s ∧ rootN s ≤ s.length ∧ rootN s ∣ s.length ∧ Per s s.length (rootN s) := by
    unfold rootN
    by_cases hm : s.length % leastI s = 0
    · rw [if_pos hm]
      exact ⟨a1, a2, Nat.dvd_of_mod_eq_zero hm, a3⟩
    · rw [if_neg hm]
      exact ⟨h, Nat.le_refl _, Nat.dvd_refl _, fun i hi => by omega⟩
  refine ⟨base.1, base.2.1, base.2.2.1, base.2.2.2, fun d hd hdv hp => ?_⟩
  have hpd := a4 d hd hp
  by_cases hdl : d = s.length
  · rw [hdl]; exact base.2.1
  · obtain ⟨c, hc⟩ := hdv
    have h2 : 2 * d ≤ s.length := by
      have hc0 : c ≠ 0 := fun e => by rw [e] at hc; omega
      have hc1 : c ≠ 1 := fun e => by rw [e] at hc; omega
      have : d * 2 ≤ d * c := Nat.mul_le_mul_left d (by omega)
      omega
    have hg := Per.gcd _ _ _ (Nat.le_refl _) (show leastI s + d ≤ s.length by omega) a3 hp
    have hgp : 0 < Nat.gcd (leastI s) d := Nat.gcd_pos_of_pos_left _ (by omega)
    have hge := a4 _ hgp hg
    have hgl : Nat.gcd (leastI s) d ≤ leastI s := Nat.le_of_dvd (by omega) (Nat.gcd_dvd_left _ _)
    have hgg : Nat.gcd (leastI s) d = leastI s := by omega
    have hdd : leastI s ∣ d := by rw [← hgg]; exact Nat.gcd_dvd_right _ _
    have hsl : leastI s ∣ s.length := by rw [hc]; exact Nat.dvd_mul_right_of_dvd hdd c
    have : rootN s = leastI s := by unfold rootN; rw [if_pos (Nat.mod_eq_zero_of_dvd hsl)]
    omega

/-- A row so many times has its root. -/
theorem rootN_rep {s : List Int} {n : Nat} (h : 0 < s.length) (hn : 0 < n) : rootN (repI s n) = rootN s := by
  obtain ⟨a1, a2, a3, a4, a5⟩ := rootN_spec h
  have hL := repI_len s n
  have hN : 0 < n * s.length := Nat.mul_pos hn h
  have hle : s.length ≤ n * s.length := Nat.le_mul_of_pos_left _ hn
  obtain ⟨b1, b2, b3, b4, b5⟩ := rootN_spec (s := repI s n) (by omega)
  have hp : Per (repI s n) (repI s n).length (rootN s) := by
    refine Per.ofMod fun i hi => ?_
    have hm1 : i % s.length < s.length := Nat.mod_lt _ h
    have hm2 : i % rootN s < rootN s := Nat.mod_lt _ a1
    rw [repI_at _ _ _ (by omega), repI_at _ _ _ (by omega), a4.mod a1 _ hm1, Nat.mod_mod_of_dvd _ a3, Nat.mod_eq_of_lt (show i % rootN s < s.length by omega)]
  have hdv : rootN s ∣ (repI s n).length := by rw [hL]; exact Nat.dvd_mul_left_of_dvd a3 n
  have hq := b5 _ a1 hdv hp
  by_cases h1 : n = 1
  · subst h1
    have : repI s 1 = s := by simp [repI]
    rw [this]
  · by_cases hql : rootN (repI s n) = (repI s n).length
    · omega
    · have e2 : 2 * s.length ≤ n * s.length := Nat.mul_le_mul_right _ (by omega)
      have hqq : 2 * rootN (repI s n) ≤ (repI s n).length := by
        obtain ⟨c, hc⟩ := b3
        have hc0 : c ≠ 0 := fun e => by rw [e] at hc; omega
        have hc1 : c ≠ 1 := fun e => by rw [e] at hc; omega
        have : rootN (repI s n) * 2 ≤ rootN (repI s n) * c := Nat.mul_le_mul_left _ (by omega)
        omega
      have hg := Per.gcd _ _ _ (Nat.le_refl _) (show rootN s + rootN (repI s n) ≤ (repI s n).length by omega) hp b4
      have hgp : 0 < Nat.gcd (rootN s) (rootN (repI s n)) := Nat.gcd_pos_of_pos_left _ (by omega)
      have hgs : Per s s.length (Nat.gcd (rootN s) (rootN (repI s n))) := by
        intro i hi
        have := hg i (by omega)
        rw [repI_at _ _ _ (by omega), repI_at _ _ _ (by omega), Nat.mod_eq_of_lt (by omega), Nat.mod_eq_of_lt hi] at this
        exact this
      have hge := a5 _ hgp (Nat.dvd_trans (Nat.gcd_dvd_left _ _) a3) hgs
      have hgl : Nat.gcd (rootN s) (rootN (repI s n)) ≤ rootN (repI s n) := Nat.le_of_dvd (by omega) (Nat.gcd_dvd_right _ _)
      omega
theorem root_rep {s : List Int} {n : Nat} (h : 0 < s.length) (hn : 0 < n) : (repI s n).take (rootN (repI s n)) = s.take (rootN s) := by
  rw [rootN_rep h hn]
  obtain ⟨a1, a2, _⟩ := rootN_spec h
  cases n with
  | zero => omega
  | succ n => rw [repI_cons, List.take_append_of_le_length a2]

/-- A root has none but itself. -/
theorem rootN_root {s : List Int} (h : 0 < s.length) : rootN (s.take (rootN s)) = rootN s := by
  obtain ⟨a1, a2, a3, a4, a5⟩ := rootN_spec h
  have hl : (s.take (rootN s)).length = rootN s := by rw [List.length_take]; omega
  obtain ⟨b1, b2, b3, b4, _⟩ := rootN_spec (s := s.take (rootN s)) (by omega)
  rw [hl] at b2 b3 b4
  have hp : Per s s.length (rootN (s.take (rootN s))) := by
    refine Per.ofMod fun i hi => ?_
    have hm1 : i % rootN s < rootN s := Nat.mod_lt _ a1
    have h1 := b4.mod b1 (i % rootN s) hm1
    have hm2 : i % rootN s % rootN (s.take (rootN s)) < rootN (s.take (rootN s)) := Nat.mod_lt _ b1
    rw [take_getD _ _ _ hm1, take_getD _ _ _ (by omega), Nat.mod_mod_of_dvd _ b3] at h1
    rw [a4.mod a1 i hi, h1]
  have := a5 _ b1 (Nat.dvd_trans b3 a3) hp
  omega
theorem rootN_nil : rootN [] = 0 := by unfold rootN leastI; simp
end Go.Proofs.YtlmbdafilboblaaGreat

/- Words without end, compared. Plain numbers, no conditions. -/
namespace Go.Proofs.YtlmbdafilboblaaGreat
set_option linter.unusedVariables false
set_option linter.unusedSimpArgs false

/-- The k-th of a word without end. -/
def atW (u : List Int) (k : Nat) : Int := u.getD (k % u.length) 0
/-- The first n of a word without end; of the empty one nothing. -/
def infI (u : List Int) (n : Nat) : List Int := (repI u n).take n
/-- -1, 0, 1. -/
def omI (u v : List Int) : Int := cmpI (infI u (u.length + v.length)) (infI v (u.length + v.length))

theorem infI_nil (n : Nat) : infI [] n = [] := by
  have : (repI [] n).length = 0 := by rw [repI_len]; simp
  unfold infI
  rw [List.length_eq_zero_iff.1 this]; simp
theorem infI_len {u : List Int} (n : Nat) (h : 0 < u.length) : (infI u n).length = n := by
  unfold infI
  rw [List.length_take, repI_len]
  have : n * 1 ≤ n * u.length := Nat.mul_le_mul_left n h
  omega
theorem infI_at {u : List Int} {n k : Nat} (h : 0 < u.length) (hk : k < n) : (infI u n).getD k 0 = atW u k := by
  have : n * 1 ≤ n * u.length := Nat.mul_le_mul_left n h
  unfold infI
  rw [take_getD _ _ _ hk, repI_at _ _ _ (by omega)]
  rfl

theorem atW_per (u : List Int) (k : Nat) : atW u (k + u.length) = atW u k := by unfold atW; rw [Nat.add_mod_right]

/-- Words that are alike for as many as both have together are alike without end. -/
theorem atW_same {u v : List Int} (hu : 0 < u.length) (hv : 0 < v.length) (h : ∀ k, k < u.length + v.length → atW u k = atW v k) : ∀ k, atW u k = atW v k := by
  obtain ⟨x, hx⟩ : ∃ x, x = infI u (u.length + v.length) := ⟨_, rfl⟩
  have hl : x.length = u.length + v.length := by rw [hx, infI_len _ hu]
  have hxa : ∀ k, k < u.length + v.length → x.getD k 0 = atW u k := fun k hk => by rw [hx]; exact infI_at hu hk
  have p1 : Per x (u.length + v.length) u.length := fun i hi => by rw [hxa i (by omega), hxa _ hi, atW_per]
  have p2 : Per x (u.length + v.length) v.length := fun i hi => by rw [hxa i (by omega), hxa _ hi, h i (by omega), h _ hi, atW_per]
  have pg := Per.gcd _ _ _ (Nat.le_refl _) (Nat.le_refl _) p1 p2
  have hg : 0 < Nat.gcd u.length v.length := Nat.gcd_pos_of_pos_left _ hu
  intro k
  have h1 : atW u k = x.getD (k % Nat.gcd u.length v.length) 0 := by
    have hm : k % u.length < u.length := Nat.mod_lt _ hu
    have e : atW u k = atW u (k % u.length) := by unfold atW; rw [Nat.mod_mod]
    rw [e, ← hxa _ (by omega), pg.mod hg _ (by omega), Nat.mod_mod_of_dvd _ (Nat.gcd_dvd_left _ _)]
  have h2 : atW v k = x.getD (k % Nat.gcd u.length v.length) 0 := by
    have hm : k % v.length < v.length := Nat.mod_lt _ hv
    have e : atW v k = atW v (k % v.length) := by unfold atW; rw [Nat.mod_mod]
    rw [e, ← h _ (by omega), ← hxa _ (by omega), pg.mod hg _ (by omega), Nat.mod_mod_of_dvd _ (Nat.gcd_dvd_right _ _)]
  rw [h1, h2]

/-- Less, place by place. -/
def LtF (f g : Nat → Int) : Prop := ∃ m, (∀ k, k < m → f k = g k) ∧ f m < g m
theorem LtF.irr {f g : Nat → Int} (h : LtF f g) (k : LtF g f) : False := by
  obtain ⟨m, h1, h2⟩ := h
  obtain ⟨n, k1, k2⟩ := k
  rcases Nat.lt_trichotomy m n with g | g | g
  · have := k1 m g; omega
  · subst g; omega
  · have := h1 n g; omega
theorem LtF.trans {f g h : Nat → Int} (a : LtF f g) (b : LtF g h) : LtF f h := by
  obtain ⟨m, h1, h2⟩ := a
  obtain ⟨n, k1, k2⟩ := b
  rcases Nat.lt_trichotomy m n with q | q | q
  · exact ⟨m, fun k hk => (h1 k hk).trans (k1 k (by omega)), by rw [← k1 m q]; exact h2⟩
  · subst q; exact ⟨m, fun k hk => (h1 k hk).trans (k1 k hk), by omega⟩
  · exact ⟨n, fun k hk => (h1 k (by omega)).trans (k1 k hk), by rw [h1 n q]; exact k2⟩
theorem first_other {f g : Nat → Int} : ∀ n, (∀ k, k < n → f k = g k) ∨ ∃ m, m < n ∧ (∀ k, k < m → f k = g k) ∧ f m ≠ g m
  | 0 => .inl fun k hk => by omega
  | n + 1 => by
    rcases first_other (f := f) (g := g) n with h | ⟨m, h1, h2, h3⟩
    · by_cases e : f n = g n
      · refine .inl fun k hk => ?_
        by_cases hk2 : k = n
        · subst hk2; exact e
        · exact h k (by omega)
      · exact .inr ⟨n, by omega, h, e⟩
    · exact .inr ⟨m, by omega, h2, h3⟩

/-- As the first other one tells. -/
theorem cmpI_first {x y : List Int} {m : Nat} (hx : m < x.length) (hy : m < y.length) (h : ∀ k, k < m → x.getD k 0 = y.getD k 0) (hne : x.getD m 0 ≠ y.getD m 0) : cmpI x y = if x.getD m 0 < y.getD m 0 then -1 else 1 := by
  have key : ∀ k, k ≤ m → cmpI x y = cmpI (x.drop k) (y.drop k) := by
    intro k
    induction k with
    | zero => intro _; simp
    | succ k ih => intro hk; rw [ih (by omega), cmpI_same (by omega) (by omega) (h k (by omega))]
  rw [key m (Nat.le_refl _)]
  by_cases hlt : x.getD m 0 < y.getD m 0
  · rw [if_pos hlt, cmpI_lt hx hy hlt]
  · rw [if_neg hlt, cmpI_gt hx hy (by omega)]

/-- However much is looked at, if it is enough. -/
theorem omI_eq (u v : List Int) (N : Nat) (hN : u.length + v.length ≤ N) : cmpI (infI u N) (infI v N) = omI u v := by
  unfold omI
  by_cases hu : u = []
  · subst hu
    by_cases hv : v = []
    · subst hv; simp only [infI_nil]
    · have hv' : 0 < v.length := List.length_pos_iff.2 hv
      have e : ∀ n, 0 < n → cmpI [] (infI v n) = -1 := fun n hn => by
        have hl := infI_len n hv'
        cases hc : infI v n with
        | nil => rw [hc] at hl; simp at hl; omega
        | cons a l => rfl
      simp only [infI_nil]
      simp at hN
      rw [e _ (by omega), e _ (by simp; omega)]
  · have hu' : 0 < u.length := List.length_pos_iff.2 hu
    by_cases hv : v = []
    · subst hv
      have e : ∀ n, 0 < n → cmpI (infI u n) [] = 1 := fun n hn => by
        have hl := infI_len n hu'
        cases hc : infI u n with
        | nil => rw [hc] at hl; simp at hl; omega
        | cons a l => rfl
      simp only [infI_nil]
      simp at hN
      rw [e _ (by omega), e _ (by simp; omega)]
    · have hv' : 0 < v.length := List.length_pos_iff.2 hv
      have e : ∀ n, u.length + v.length ≤ n → (∀ k, k < u.length + v.length → atW u k = atW v k) → cmpI (infI u n) (infI v n) = 0 := fun n hn h => by
        have : infI u n = infI v n := getD_ext (by rw [infI_len _ hu', infI_len _ hv']) fun k hk => by
          rw [infI_len _ hu'] at hk
          rw [infI_at hu' hk, infI_at hv' hk, atW_same hu' hv' h k]
        rw [this, cmpI_self]
      have e2 : ∀ n m, m < n → (∀ k, k < m → atW u k = atW v k) → atW u m ≠ atW v m → cmpI (infI u n) (infI v n) = if atW u m < atW v m then -1 else 1 := fun n m hm h hne => by
        have := cmpI_first (x := infI u n) (y := infI v n) (m := m) (by rw [infI_len _ hu']; exact hm) (by rw [infI_len _ hv']; exact hm)
          (fun k hk => by rw [infI_at hu' (by omega), infI_at hv' (by omega)]; exact h k hk) (by rw [infI_at hu' hm, infI_at hv' hm]; exact hne)
        rw [infI_at hu' hm, infI_at hv' hm] at this
        exact this
      rcases first_other (f := atW u) (g := atW v) (u.length + v.length) with h | ⟨m, h1, h2, h3⟩
      · rw [e _ hN h, e _ (Nat.le_refl _) h]
      · rw [e2 N m (by omega) h2 h3, e2 _ m h1 h2 h3]

theorem omI_none_left {v : List Int} (hv : 0 < v.length) : omI [] v = -1 := by
  unfold omI
  rw [infI_nil]
  have hl := infI_len (([] : List Int).length + v.length) hv
  cases hc : infI v (([] : List Int).length + v.length) with
  | nil => rw [hc] at hl; simp at hl; omega
  | cons a l => rfl
theorem omI_swap (u v : List Int) : omI v u = - omI u v := by
  unfold omI
  rw [Nat.add_comm v.length, cmpI_swap]
theorem omI_none_right {v : List Int} (hv : 0 < v.length) : omI v [] = 1 := by rw [omI_swap, omI_none_left hv]; rfl
theorem omI_nil : omI [] [] = 0 := by decide
theorem omI_other {u v : List Int} (hu : 0 < u.length) (hv : 0 < v.length) {m : Nat} (hm : m < u.length + v.length) (h : ∀ k, k < m → atW u k = atW v k) (hne : atW u m ≠ atW v m) : omI u v = if atW u m < atW v m then -1 else 1 := by
  unfold omI
  have := cmpI_first (x := infI u (u.length + v.length)) (y := infI v (u.length + v.length)) (m := m) (by rw [infI_len _ hu]; exact hm) (by rw [infI_len _ hv]; exact hm)
    (fun k hk => by rw [infI_at hu (by omega), infI_at hv (by omega)]; exact h k hk) (by rw [infI_at hu hm, infI_at hv hm]; exact hne)
  rw [infI_at hu hm, infI_at hv hm] at this
  exact this
theorem omI_same {u v : List Int} (hu : 0 < u.length) (hv : 0 < v.length) (h : ∀ k, k < u.length + v.length → atW u k = atW v k) : omI u v = 0 := by
  have : infI u (u.length + v.length) = infI v (u.length + v.length) := getD_ext (by rw [infI_len _ hu, infI_len _ hv]) fun k hk => by
    rw [infI_len _ hu] at hk
    rw [infI_at hu hk, infI_at hv hk, h k hk]
  unfold omI
  rw [this, cmpI_self]
theorem omI_zero {u v : List Int} (hu : 0 < u.length) (hv : 0 < v.length) : omI u v = 0 ↔ ∀ k, atW u k = atW v k := by
  constructor
  · intro h
    have := cmpI_zero h
    refine atW_same hu hv fun k hk => ?_
    rw [← infI_at hu hk, this, infI_at hv hk]
  · exact fun h => omI_same hu hv fun k _ => h k
theorem omI_neg {u v : List Int} (hu : 0 < u.length) (hv : 0 < v.length) : omI u v < 0 ↔ LtF (atW u) (atW v) := by
  rcases first_other (f := atW u) (g := atW v) (u.length + v.length) with h | ⟨m, h1, h2, h3⟩
  · rw [omI_same hu hv h]
    constructor
    · intro h; omega
    · rintro ⟨m, _, h2⟩
      have := atW_same hu hv h m
      omega
  · rw [omI_other hu hv h1 h2 h3]
    by_cases hlt : atW u m < atW v m
    · rw [if_pos hlt]
      exact ⟨fun _ => ⟨m, h2, hlt⟩, fun _ => by omega⟩
    · rw [if_neg hlt]
      refine ⟨fun h => by omega, fun h => absurd h fun h => ?_⟩
      have hgt : LtF (atW v) (atW u) := ⟨m, fun k hk => (h2 k hk).symm, by omega⟩
      exact (LtF.irr h hgt).elim

theorem omI_three (u v : List Int) : omI u v = -1 ∨ omI u v = 0 ∨ omI u v = 1 := cmpI_three _ _

/-- Of three, through the middle one. -/
theorem omI_trans (u v w : List Int) (h : omI u v ≤ 0) (h' : omI v w ≤ 0) : omI u w ≤ 0 := by
  have hN : ∀ a b : List Int, a.length + b.length ≤ u.length + v.length + w.length → cmpI (infI a (u.length + v.length + w.length)) (infI b (u.length + v.length + w.length)) = omI a b := fun a b h => omI_eq a b _ h
  rw [← hN u v (by omega)] at h
  rw [← hN v w (by omega)] at h'
  rw [← hN u w (by omega)]
  exact cmpI_trans _ _ _ h h'
theorem omI_alike (u v w : List Int) (h : omI u v = 0) : omI v w = omI u w := by
  have hN : ∀ a b : List Int, a.length + b.length ≤ u.length + v.length + w.length → cmpI (infI a (u.length + v.length + w.length)) (infI b (u.length + v.length + w.length)) = omI a b := fun a b h => omI_eq a b _ h
  rw [← hN u v (by omega)] at h
  rw [← hN v w (by omega), ← hN u w (by omega), cmpI_zero h]

/-- A word again and again is the same without end. -/
theorem atW_rep {u : List Int} {n : Nat} (hn : 0 < n) (hu : 0 < u.length) (k : Nat) : atW (repI u n) k = atW u k := by
  unfold atW
  rw [repI_at _ _ _ (by rw [repI_len]; exact Nat.mod_lt _ (Nat.mul_pos hn hu)), repI_len, Nat.mod_mul_left_mod]
theorem omI_rep {u : List Int} {a b : Nat} (hu : 0 < u.length) (ha : 0 < a) (hb : 0 < b) : omI (repI u a) (repI u b) = 0 :=
  (omI_zero (by rw [repI_len]; exact Nat.mul_pos ha hu) (by rw [repI_len]; exact Nat.mul_pos hb hu)).2 fun k => by rw [atW_rep ha hu, atW_rep hb hu]
theorem repI_root {u : List Int} (hu : 0 < u.length) : repI (u.take (rootN u)) (u.length / rootN u) = u := by
  obtain ⟨a1, a2, a3, a4, _⟩ := rootN_spec hu
  have hl : (u.take (rootN u)).length = rootN u := by rw [List.length_take]; omega
  have hm : u.length / rootN u * rootN u = u.length := Nat.div_mul_cancel a3
  refine getD_ext (by rw [repI_len, hl, hm]) fun k hk => ?_
  rw [repI_len, hl, hm] at hk
  rw [repI_at _ _ _ (by rw [hl, hm]; exact hk), hl, take_getD _ _ _ (Nat.mod_lt _ a1), ← a4.mod a1 k hk]
/-- The same without end just if there is one root. -/
theorem omI_root {u v : List Int} (hu : 0 < u.length) (hv : 0 < v.length) : omI u v = 0 ↔ u.take (rootN u) = v.take (rootN v) := by
  constructor
  · intro h
    have h1 := (omI_zero hu hv).1 h
    have e : repI u v.length = repI v u.length := by
      refine getD_ext (by rw [repI_len, repI_len, Nat.mul_comm]) fun k hk => ?_
      rw [repI_len] at hk
      rw [repI_at _ _ _ hk, repI_at _ _ _ (by rw [Nat.mul_comm]; exact hk)]
      exact h1 k
    rw [← root_rep hu hv, ← root_rep hv hu, e]
  · intro h
    obtain ⟨a1, a2, a3, _⟩ := rootN_spec hu
    obtain ⟨b1, b2, b3, _⟩ := rootN_spec hv
    have := omI_rep (u := u.take (rootN u)) (a := u.length / rootN u) (b := v.length / rootN v) (by rw [List.length_take]; omega) (Nat.div_pos a2 a1) (Nat.div_pos b2 b1)
    rw [repI_root hu, h, repI_root hv] at this
    exact this
/-- As what is long enough of both tells. -/
theorem omI_long {u v : List Int} (hu : 0 < u.length) (hv : 0 < v.length) : cmpI (repI u (2 * v.length)) (repI v (2 * u.length)) = omI u v := by
  have hL : 2 * v.length * u.length = 2 * u.length * v.length := by rw [Nat.mul_assoc, Nat.mul_assoc, Nat.mul_comm v.length]
  have g : ∀ {x : List Int} {n N : Nat}, 0 < x.length → n * x.length = N → repI x n = infI x N := by
    intro x n N hx hN
    refine getD_ext (by rw [repI_len, infI_len _ hx, hN]) fun k hk => ?_
    rw [repI_len] at hk
    rw [repI_at _ _ _ hk, infI_at hx (by omega)]
    rfl
  rw [g hu hL, g hv rfl, omI_eq]
  have e1 : 1 * u.length ≤ v.length * u.length := Nat.mul_le_mul_right _ hv
  have e2 : v.length * 1 ≤ v.length * u.length := Nat.mul_le_mul_left _ hu
  rw [Nat.mul_assoc, Nat.mul_comm u.length]
  omega
end Go.Proofs.YtlmbdafilboblaaGreat

/- Ranks, and the order of endless rows by doubling. Plain numbers, no conditions. -/
namespace Go.Proofs.YtlmbdafilboblaaGreat
set_option linter.unusedVariables false
set_option linter.unusedSimpArgs false

/-- How many times the pair of keys turns, up to the i-th. -/
def cls (ord : List Nat) (f s : Nat → Nat) : Nat → Nat
  | 0 => 0
  | i + 1 => cls ord f s i + (if f (ord.getD (i + 1) 0) = f (ord.getD i 0) ∧ s (ord.getD (i + 1) 0) = s (ord.getD i 0) then 0 else 1)

/-- Less by the first key, then by the second. -/
def Lt2 (f s : Nat → Nat) (p q : Nat) : Prop := f p < f q ∨ (f p = f q ∧ s p < s q)

theorem cls_le (ord : List Nat) (f s : Nat → Nat) : ∀ i, cls ord f s i ≤ i
  | 0 => Nat.le_refl _
  | i + 1 => by have := cls_le ord f s i; unfold cls; split <;> omega

theorem pair_at {R : Nat → Nat → Prop} {l : List Nat} (h : l.Pairwise R) {i j : Nat} (hij : i < j) (hj : j < l.length) : R (l.getD i 0) (l.getD j 0) := by
  have := List.pairwise_iff_getElem.1 h i j (by omega) hj hij
  simpa [List.getD, List.getElem?_eq_getElem hj, List.getElem?_eq_getElem (show i < l.length by omega)] using this

theorem cls_up {ord : List Nat} {f s : Nat → Nat} (h : ord.Pairwise fun p q => ¬ Lt2 f s q p) {i : Nat} : ∀ {j : Nat}, i ≤ j → j < ord.length →
    (cls ord f s i = cls ord f s j ∧ f (ord.getD i 0) = f (ord.getD j 0) ∧ s (ord.getD i 0) = s (ord.getD j 0)) ∨ (cls ord f s i < cls ord f s j ∧ Lt2 f s (ord.getD i 0) (ord.getD j 0)) := by
  intro j hij
  induction hij with
  | refl => intro _; exact .inl ⟨rfl, rfl, rfl⟩
  | step hm ih =>
    rename_i m
    intro hj
    have hj' : m + 1 < ord.length := hj
    have hs := pair_at h (show m < m + 1 by omega) hj'
    have ih' := ih (by omega)
    have hc : cls ord f s (m + 1) = cls ord f s m + (if f (ord.getD (m + 1) 0) = f (ord.getD m 0) ∧ s (ord.getD (m + 1) 0) = s (ord.getD m 0) then 0 else 1) := rfl
    unfold Lt2 at *
    show (cls ord f s i = cls ord f s (m + 1) ∧ _ = f (ord.getD (m + 1) 0) ∧ _ = s (ord.getD (m + 1) 0)) ∨ (cls ord f s i < cls ord f s (m + 1) ∧ (_ < f (ord.getD (m + 1) 0) ∨ _ = f (ord.getD (m + 1) 0) ∧ _ < s (ord.getD (m + 1) 0)))
    rw [hc]
    generalize ord.getD (m + 1) 0 = q at *
    generalize ord.getD m 0 = p at *
    generalize ord.getD i 0 = o at *
    split
    · rename_i e; omega
    · rename_i e; omega

/-- What the ranks of an order are. -/
theorem rank_iff {ord : List Nat} {f s rk : Nat → Nat} {M : Nat} (hp : ord.Perm (List.range M)) (h : ord.Pairwise fun p q => ¬ Lt2 f s q p) (hr : ∀ i, i < M → rk (ord.getD i 0) = cls ord f s i) :
    ∀ p q, p < M → q < M → (rk p < rk q ↔ Lt2 f s p q) := by
  have hl : ord.length = M := by rw [hp.length_eq, List.length_range]
  have key : ∀ i j, i ≤ j → j < M → (rk (ord.getD i 0) = rk (ord.getD j 0) ∧ f (ord.getD i 0) = f (ord.getD j 0) ∧ s (ord.getD i 0) = s (ord.getD j 0)) ∨ (rk (ord.getD i 0) < rk (ord.getD j 0) ∧ Lt2 f s (ord.getD i 0) (ord.getD j 0)) := fun i j hij hj => by
    rw [hr i (by omega), hr j hj]
    exact cls_up h hij (by omega)
  intro p q hpM hqM
  obtain ⟨i, hi, rfl⟩ := mem_getN (hp.mem_iff.2 (List.mem_range.2 hpM))
  obtain ⟨j, hj, rfl⟩ := mem_getN (hp.mem_iff.2 (List.mem_range.2 hqM))
  unfold Lt2 at *
  rcases Nat.le_total i j with g | g
  · have := key i j g (by omega); omega
  · have := key j i g (by omega); omega

theorem cls_onto (ord : List Nat) (f s : Nat → Nat) : ∀ i r, r ≤ cls ord f s i → ∃ j, j ≤ i ∧ cls ord f s j = r
  | 0, r, h => ⟨0, Nat.le_refl _, by have : cls ord f s 0 = 0 := rfl; omega⟩
  | i + 1, r, h => by
    by_cases e : r = cls ord f s (i + 1)
    · exact ⟨i + 1, Nat.le_refl _, e.symm⟩
    · have hc : cls ord f s (i + 1) = cls ord f s i + (if f (ord.getD (i + 1) 0) = f (ord.getD i 0) ∧ s (ord.getD (i + 1) 0) = s (ord.getD i 0) then 0 else 1) := rfl
      have : r ≤ cls ord f s i := by
        rw [hc] at h e
        split at h <;> split at e <;> omega
      obtain ⟨j, h1, h2⟩ := cls_onto ord f s i r this
      exact ⟨j, by omega, h2⟩
theorem cls_mono {ord : List Nat} {f s : Nat → Nat} {i j : Nat} (h : i ≤ j) : cls ord f s i ≤ cls ord f s j := by
  induction h with
  | refl => exact Nat.le_refl _
  | step _ ih =>
    rename_i m _
    have hc : cls ord f s (m + 1) = cls ord f s m + (if f (ord.getD (m + 1) 0) = f (ord.getD m 0) ∧ s (ord.getD (m + 1) 0) = s (ord.getD m 0) then 0 else 1) := rfl
    show _ ≤ cls ord f s (m + 1)
    omega

/-- How many ranks there are. -/
def clsT (ord : List Nat) (f s : Nat → Nat) (i : Nat) : Nat := match i with | 0 => 0 | i + 1 => cls ord f s i + 1

theorem rank_dense {ord : List Nat} {f s rk : Nat → Nat} {M : Nat} (hp : ord.Perm (List.range M)) (hr : ∀ i, i < M → rk (ord.getD i 0) = cls ord f s i) :
    (∀ p, p < M → rk p < clsT ord f s M) ∧ ∀ r, r < clsT ord f s M → ∃ p, p < M ∧ rk p = r := by
  have hl : ord.length = M := by rw [hp.length_eq, List.length_range]
  cases M with
  | zero => exact ⟨fun p h => by omega, fun r h => by simp [clsT] at h⟩
  | succ M =>
    constructor
    · intro p hpM
      obtain ⟨i, hi, rfl⟩ := mem_getN (hp.mem_iff.2 (List.mem_range.2 hpM))
      rw [hr i (by omega)]
      have := cls_mono (ord := ord) (f := f) (s := s) (show i ≤ M by omega)
      show _ < cls ord f s M + 1
      omega
    · intro r h
      obtain ⟨j, h1, h2⟩ := cls_onto ord f s M r (by simp only [clsT] at h; omega)
      refine ⟨ord.getD j 0, ?_, by rw [hr j (by omega), h2]⟩
      exact List.mem_range.1 (hp.mem_iff.1 (getN_mem (by omega)))

/-- Ranks that part no more than others did are the same ones. -/
theorem dense_up {M n : Nat} {a b : Nat → Nat} (hon : ∀ r, r < n → ∃ p, p < M ∧ a p = r) (hab : ∀ p q, p < M → q < M → a p < a q → b p < b q) : ∀ r p, p < M → a p = r → a p < n → r ≤ b p := by
  intro r
  induction r with
  | zero => intro p _ _ _; omega
  | succ r ih =>
    intro p hp e hn
    obtain ⟨q, hq, eq⟩ := hon r (by omega)
    have h1 := ih q hq eq (by omega)
    have h2 := hab q p hq hp (by omega)
    omega
theorem dense_same {M n : Nat} {a b : Nat → Nat} (hon : ∀ r, r < n → ∃ p, p < M ∧ a p = r) (han : ∀ p, p < M → a p < n) (hbn : ∀ p, p < M → b p < n) (hab : ∀ p q, p < M → q < M → a p < a q → b p < b q) : ∀ p, p < M → b p = a p := by
  have up : ∀ d p, p < M → a p + d + 1 = n → b p ≤ a p := by
    intro d
    induction d with
    | zero => intro p hp e; have := hbn p hp; omega
    | succ d ih =>
      intro p hp e
      obtain ⟨q, hq, eq⟩ := hon (a p + 1) (by omega)
      have h1 := ih q hq (by omega)
      have h2 := hab p q hp hq (by omega)
      omega
  intro p hp
  have h1 := dense_up hon hab _ p hp rfl (han p hp)
  have h2 := up (n - 1 - a p) p hp (by have := han p hp; omega)
  omega
theorem dense_more {M n m : Nat} {a b : Nat → Nat} (hon : ∀ r, r < n → ∃ p, p < M ∧ a p = r) (hbm : ∀ p, p < M → b p < m) (hab : ∀ p q, p < M → q < M → a p < a q → b p < b q) : n ≤ m := by
  cases n with
  | zero => omega
  | succ n =>
    obtain ⟨p, hp, e⟩ := hon n (by omega)
    have h1 := dense_up hon hab _ p hp rfl (by omega)
    have := hbm p hp
    omega

/-- So many steps on. -/
def itN (nx : Nat → Nat) : Nat → Nat → Nat
  | 0, p => p
  | k + 1, p => itN nx k (nx p)
theorem itN_add (nx : Nat → Nat) : ∀ (a b p : Nat), itN nx (a + b) p = itN nx b (itN nx a p)
  | 0, b, p => by rw [Nat.zero_add]; rfl
  | a + 1, b, p => by
    rw [show a + 1 + b = (a + b) + 1 by omega]
    exact itN_add nx a b (nx p)
theorem itN_lt {nx : Nat → Nat} {M : Nat} (h : ∀ p, p < M → nx p < M) : ∀ k p, p < M → itN nx k p < M
  | 0, p, hp => hp
  | k + 1, p, hp => itN_lt h k (nx p) (h p hp)
/-- What is read from p on. -/
def seqN (b : Nat → Int) (nx : Nat → Nat) (p k : Nat) : Int := b (itN nx k p)
theorem seqN_on (b : Nat → Int) (nx : Nat → Nat) (L p k : Nat) : seqN b nx (itN nx L p) k = seqN b nx p (L + k) := by
  unfold seqN; rw [itN_add]

/-- Less within the first L. -/
def LtN (L : Nat) (f g : Nat → Int) : Prop := ∃ m, m < L ∧ (∀ k, k < m → f k = g k) ∧ f m < g m
theorem LtN.irr {L : Nat} {f g : Nat → Int} (h : LtN L f g) (k : LtN L g f) : False := by
  obtain ⟨m, _, h1, h2⟩ := h
  obtain ⟨n, _, k1, k2⟩ := k
  exact LtF.irr ⟨m, h1, h2⟩ ⟨n, k1, k2⟩
theorem LtN.three {L : Nat} (f g : Nat → Int) : LtN L f g ∨ LtN L g f ∨ ∀ k, k < L → f k = g k := by
  rcases first_other (f := f) (g := g) L with h | ⟨m, h1, h2, h3⟩
  · exact .inr (.inr h)
  · by_cases hlt : f m < g m
    · exact .inl ⟨m, h1, h2, hlt⟩
    · exact .inr (.inl ⟨m, h1, fun k hk => (h2 k hk).symm, by omega⟩)
theorem LtN.ne {L : Nat} {f g : Nat → Int} (h : LtN L f g) (k : ∀ k, k < L → f k = g k) : False := by
  obtain ⟨m, hm, _, h2⟩ := h
  have := k m hm
  omega
/-- By both halves. -/
theorem LtN.twice {L : Nat} {f g : Nat → Int} : LtN (L + L) f g ↔ LtN L f g ∨ ((∀ k, k < L → f k = g k) ∧ LtN L (fun k => f (L + k)) (fun k => g (L + k))) := by
  constructor
  · rintro ⟨m, hm, h1, h2⟩
    by_cases h : m < L
    · exact .inl ⟨m, h, h1, h2⟩
    · refine .inr ⟨fun k hk => h1 k (by omega), m - L, by omega, fun k hk => h1 (L + k) (by omega), ?_⟩
      show f (L + (m - L)) < g (L + (m - L))
      rw [show L + (m - L) = m by omega]; exact h2
  · rintro (⟨m, hm, h1, h2⟩ | ⟨h0, m, hm, h1, h2⟩)
    · exact ⟨m, by omega, h1, h2⟩
    · refine ⟨L + m, by omega, fun k hk => ?_, h2⟩
      by_cases h : k < L
      · exact h0 k h
      · have := h1 (k - L) (by omega)
        simp only [show L + (k - L) = k by omega] at this
        exact this

/-- The ranks tell the order by the first L. -/
def Rk (M : Nat) (b : Nat → Int) (nx : Nat → Nat) (L : Nat) (rk : Nat → Nat) : Prop := ∀ p q, p < M → q < M → (rk p < rk q ↔ LtN L (seqN b nx p) (seqN b nx q))
theorem Rk.same {M L : Nat} {b : Nat → Int} {nx rk : Nat → Nat} (h : Rk M b nx L rk) {p q : Nat} (hp : p < M) (hq : q < M) : rk p = rk q ↔ ∀ k, k < L → seqN b nx p k = seqN b nx q k := by
  have h1 := h p q hp hq
  have h2 := h q p hq hp
  rcases LtN.three (L := L) (seqN b nx p) (seqN b nx q) with g | g | g
  · have := h1.2 g
    exact ⟨fun e => by omega, fun e => (LtN.ne g e).elim⟩
  · have := h2.2 g
    exact ⟨fun e => by omega, fun e => (LtN.ne g (fun k hk => (e k hk).symm)).elim⟩
  · refine ⟨fun _ => g, fun _ => ?_⟩
    have a1 : ¬ rk p < rk q := fun e => LtN.ne (h1.1 e) g
    have a2 : ¬ rk q < rk p := fun e => LtN.ne (h2.1 e) (fun k hk => (g k hk).symm)
    omega
theorem Rk.start {M : Nat} {b : Nat → Int} {nx rk : Nat → Nat} (h : ∀ p, p < M → b p = (rk p : Int)) : Rk M b nx 1 rk := by
  intro p q hp hq
  have e1 : seqN b nx p 0 = (rk p : Int) := h p hp
  have e2 : seqN b nx q 0 = (rk q : Int) := h q hq
  constructor
  · intro e
    exact ⟨0, by omega, fun k hk => by omega, by rw [e1, e2]; omega⟩
  · rintro ⟨m, hm, _, h2⟩
    have : m = 0 := by omega
    subst this
    rw [e1, e2] at h2
    omega
theorem Rk.twice {M L : Nat} {b : Nat → Int} {nx rk : Nat → Nat} (hn : ∀ p, p < M → nx p < M) (h : Rk M b nx L rk) {p q : Nat} (hp : p < M) (hq : q < M) :
    Lt2 rk (fun p => rk (itN nx L p)) p q ↔ LtN (L + L) (seqN b nx p) (seqN b nx q) := by
  rw [LtN.twice]
  unfold Lt2
  have e1 : (fun k => seqN b nx p (L + k)) = seqN b nx (itN nx L p) := by funext k; exact (seqN_on b nx L p k).symm
  have e2 : (fun k => seqN b nx q (L + k)) = seqN b nx (itN nx L q) := by funext k; exact (seqN_on b nx L q k).symm
  rw [e1, e2, ← h p q hp hq, ← h _ _ (itN_lt hn L p hp) (itN_lt hn L q hq), h.same hp hq]

/-- Ranks that twice as many do not part are parted by none. -/
theorem Rk.whole {M L : Nat} {b : Nat → Int} {nx rk : Nat → Nat} (hL : 0 < L) (hn : ∀ p, p < M → nx p < M) (h : Rk M b nx L rk) (hs : ∀ p q, p < M → q < M → rk p = rk q → rk (itN nx L p) = rk (itN nx L q)) {p q : Nat} (hp : p < M) (hq : q < M) :
    (rk p = rk q → ∀ k, seqN b nx p k = seqN b nx q k) := by
  intro e k
  induction k using Nat.strongRecOn generalizing p q with
  | ind k ih =>
    by_cases hk : k < L
    · exact (h.same hp hq).1 e k hk
    · have h1 := ih (k - L) (by omega) (itN_lt hn L p hp) (itN_lt hn L q hq) (hs p q hp hq e)
      rw [seqN_on, seqN_on, show L + (k - L) = k by omega] at h1
      exact h1

/-- Less without end; of the same ones by place. -/
def RR (b : Nat → Int) (nx : Nat → Nat) (p q : Nat) : Prop := LtF (seqN b nx p) (seqN b nx q) ∨ ((∀ k, seqN b nx p k = seqN b nx q k) ∧ p < q)

theorem Rk.order {M L : Nat} {b : Nat → Int} {nx rk : Nat → Nat} (hL : 0 < L) (hn : ∀ p, p < M → nx p < M) (h : Rk M b nx L rk) (hs : ∀ p q, p < M → q < M → rk p = rk q → rk (itN nx L p) = rk (itN nx L q)) {p q : Nat} (hp : p < M) (hq : q < M)
    (ho : rk p < rk q ∨ (rk p = rk q ∧ (rk (itN nx L p) < rk (itN nx L q) ∨ (rk (itN nx L p) = rk (itN nx L q) ∧ p < q)))) : RR b nx p q := by
  rcases ho with ho | ⟨h1, ho⟩
  · obtain ⟨m, _, h1, h2⟩ := (h p q hp hq).1 ho
    exact .inl ⟨m, h1, h2⟩
  · have := hs p q hp hq h1
    exact .inr ⟨h.whole hL hn hs hp hq h1, by omega⟩
end Go.Proofs.YtlmbdafilboblaaGreat

/- What omega.inOrder keeps from round to round. Plain numbers, no conditions. -/
namespace Go.Proofs.YtlmbdafilboblaaGreat
set_option linter.unusedVariables false
set_option linter.unusedSimpArgs false

def thL (rs ah : List Nat) : List Nat := ah.map fun p => rs.getD p 0
def ordL (M : Nat) (rs ah : List Nat) : List Nat := csort (max 256 M) (csort (max 256 M) (List.range M) fun p => (thL rs ah).getD p 0) fun p => rs.getD p 0
abbrev clsL (M : Nat) (rs ah : List Nat) (i : Nat) : Nat := cls (ordL M rs ah) (fun p => rs.getD p 0) (fun p => (thL rs ah).getD p 0) i
abbrev numL (M : Nat) (rs ah : List Nat) : Nat := clsT (ordL M rs ah) (fun p => rs.getD p 0) (fun p => (thL rs ah).getD p 0) M

structure InO (M : Nat) (b : Nat → Int) (nx : Nat → Nat) (num : Nat) (rs ah : List Nat) : Prop where
  lr : rs.length = M
  la : ah.length = M
  cl : ∀ p, p < M → nx p < M
  ex : ∃ L, 0 < L ∧ (∀ p, p < M → ah.getD p 0 = itN nx L p) ∧ Rk M b nx L fun p => rs.getD p 0
  bd : ∀ p, p < M → rs.getD p 0 < max 256 M
  dn : num = 0 ∨ ((∀ p, p < M → rs.getD p 0 < num) ∧ ∀ r, r < num → ∃ p, p < M ∧ rs.getD p 0 = r)

section
variable {M num : Nat} {b : Nat → Int} {nx : Nat → Nat} {rs ah : List Nat}

theorem mapN_at {l : List Nat} {f : Nat → Nat} {p : Nat} (h : p < l.length) : (l.map f).getD p 0 = f (l.getD p 0) := by
  simp [List.getD, List.getElem?_eq_getElem h]
theorem InO.asLt (h : InO M b nx num rs ah) {p : Nat} (hp : p < M) : ah.getD p 0 < M := by
  obtain ⟨L, _, h1, _⟩ := h.ex
  rw [h1 p hp]
  exact itN_lt h.cl L p hp
theorem InO.asIn (h : InO M b nx num rs ah) : ∀ p ∈ ah, p < M := fun p hp => by
  obtain ⟨i, hi, rfl⟩ := mem_getN hp
  exact h.asLt (by rw [h.la] at hi; exact hi)
theorem InO.thLen (h : InO M b nx num rs ah) : (thL rs ah).length = M := by unfold thL; rw [List.length_map, h.la]
theorem InO.thAt (h : InO M b nx num rs ah) {p : Nat} (hp : p < M) : (thL rs ah).getD p 0 = rs.getD (ah.getD p 0) 0 := by
  unfold thL; rw [mapN_at (by rw [h.la]; exact hp)]
theorem InO.thBd (h : InO M b nx num rs ah) : ∀ p, p < M → (thL rs ah).getD p 0 < max 256 M := fun p hp => by
  rw [h.thAt hp]; exact h.bd _ (h.asLt hp)
theorem InO.perm1 (h : InO M b nx num rs ah) : (csort (max 256 M) (List.range M) fun p => (thL rs ah).getD p 0).Perm (List.range M) :=
  csort_perm fun p hp => h.thBd p (List.mem_range.1 hp)
theorem InO.perm (h : InO M b nx num rs ah) : (ordL M rs ah).Perm (List.range M) :=
  (csort_perm fun p hp => h.bd p (List.mem_range.1 (h.perm1.mem_iff.1 hp))).trans h.perm1
theorem InO.sorted (h : InO M b nx num rs ah) : (ordL M rs ah).Pairwise fun p q => rs.getD p 0 < rs.getD q 0 ∨ (rs.getD p 0 = rs.getD q 0 ∧ ((thL rs ah).getD p 0 < (thL rs ah).getD q 0 ∨ ((thL rs ah).getD p 0 = (thL rs ah).getD q 0 ∧ p < q))) :=
  csort_sorted _ _ (csort_sorted _ _ List.pairwise_lt_range)
theorem InO.sorted2 (h : InO M b nx num rs ah) : (ordL M rs ah).Pairwise fun p q => ¬ Lt2 (fun p => rs.getD p 0) (fun p => (thL rs ah).getD p 0) q p := by
  refine h.sorted.imp ?_
  intro p q hpq
  simp only [Lt2]
  omega
theorem InO.lt2 (h : InO M b nx num rs ah) {L : Nat} (h1 : ∀ p, p < M → ah.getD p 0 = itN nx L p) {p q : Nat} (hp : p < M) (hq : q < M) :
    Lt2 (fun p => rs.getD p 0) (fun p => (thL rs ah).getD p 0) p q ↔ Lt2 (fun p => rs.getD p 0) (fun p => (fun p => rs.getD p 0) (itN nx L p)) p q := by
  simp only [Lt2]
  rw [h.thAt hp, h.thAt hq, h1 p hp, h1 q hq]

/-- No more were parted: it is in order. -/
theorem InO.stop (h : InO M b nx num rs ah) {bs : List Nat} (hb : ∀ i, i < M → bs.getD ((ordL M rs ah).getD i 0) 0 = clsL M rs ah i) (he : numL M rs ah = num) : (ordL M rs ah).Pairwise (RR b nx) := by
  obtain ⟨L, hL, h1, hR⟩ := h.ex
  rcases h.dn with h0 | ⟨hlt, hon⟩
  · have hM : M = 0 := by
      cases M with
      | zero => rfl
      | succ M => exfalso; rw [h0] at he; simp [numL, clsT] at he
    have hl : (ordL M rs ah).length = 0 := by rw [h.perm.length_eq, List.length_range, hM]
    rw [List.length_eq_zero_iff.1 hl]
    exact List.Pairwise.nil
  · have hi := rank_iff (rk := fun p => bs.getD p 0) h.perm h.sorted2 hb
    obtain ⟨d1, d2⟩ := rank_dense (rk := fun p => bs.getD p 0) h.perm hb
    have hsame := dense_same (M := M) (n := num) (a := fun p => rs.getD p 0) (b := fun p => bs.getD p 0) hon hlt (fun p hp => by rw [← he]; exact d1 p hp)
      (fun p q hp hq hpq => (hi p q hp hq).2 (.inl hpq))
    have hs : ∀ p q, p < M → q < M → rs.getD p 0 = rs.getD q 0 → rs.getD (itN nx L p) 0 = rs.getD (itN nx L q) 0 := fun p q hp hq e => by
      have e2 : bs.getD p 0 = bs.getD q 0 := by rw [hsame p hp, hsame q hq]; exact e
      have n1 : ¬ Lt2 (fun p => rs.getD p 0) (fun p => (thL rs ah).getD p 0) p q := fun hh => by have := (hi p q hp hq).2 hh; omega
      have n2 : ¬ Lt2 (fun p => rs.getD p 0) (fun p => (thL rs ah).getD p 0) q p := fun hh => by have := (hi q p hq hp).2 hh; omega
      simp only [Lt2] at n1 n2
      rw [h.thAt hp, h.thAt hq, h1 p hp, h1 q hq] at n1 n2
      omega
    refine List.Pairwise.imp_of_mem ?_ h.sorted
    intro p q hp hq hpq
    have hp' := List.mem_range.1 (h.perm.mem_iff.1 hp)
    have hq' := List.mem_range.1 (h.perm.mem_iff.1 hq)
    rw [h.thAt hp', h.thAt hq', h1 p hp', h1 q hq'] at hpq
    exact hR.order hL h.cl hs hp' hq' hpq

theorem numL_le (M : Nat) (rs ah : List Nat) : numL M rs ah ≤ M := by
  cases M with
  | zero => exact Nat.le_refl _
  | succ M => have := cls_le (ordL (M + 1) rs ah) (fun p => rs.getD p 0) (fun p => (thL rs ah).getD p 0) M; show cls _ _ _ _ + 1 ≤ _; omega

/-- Some were: on with twice as many. -/
theorem InO.next (h : InO M b nx num rs ah) {bs : List Nat} (hl : bs.length = M) (hb : ∀ i, i < M → bs.getD ((ordL M rs ah).getD i 0) 0 = clsL M rs ah i) (he : numL M rs ah ≠ num) : InO M b nx (numL M rs ah) bs (thL ah ah) ∧ num < numL M rs ah := by
  obtain ⟨L, hL, h1, hR⟩ := h.ex
  have hi := rank_iff (rk := fun p => bs.getD p 0) h.perm h.sorted2 hb
  obtain ⟨d1, d2⟩ := rank_dense (rk := fun p => bs.getD p 0) h.perm hb
  have hn := numL_le M rs ah
  refine ⟨⟨hl, ?_, h.cl, ⟨L + L, by omega, fun p hp => ?_, fun p q hp hq => ?_⟩, fun p hp => ?_, .inr ⟨d1, d2⟩⟩, ?_⟩
  · unfold thL; rw [List.length_map, h.la]
  · unfold thL
    rw [mapN_at (by rw [h.la]; exact hp), h1 _ (h.asLt hp), h1 p hp, itN_add]
  · rw [hi p q hp hq, h.lt2 h1 hp hq]
    exact hR.twice h.cl hp hq
  · have := d1 p hp
    have h2 : clsT (ordL M rs ah) (fun p => rs.getD p 0) (fun p => (thL rs ah).getD p 0) M ≤ M := hn
    omega
  · rcases h.dn with h0 | ⟨hlt, hon⟩
    · omega
    · have := dense_more (M := M) (n := num) (m := numL M rs ah) (a := fun p => rs.getD p 0) (b := fun p => bs.getD p 0) hon d1 (fun p q hp hq hpq => (hi p q hp hq).2 (.inl hpq))
      omega

theorem InO.start {M : Nat} {b : Nat → Int} {nx : Nat → Nat} {rs ah : List Nat} (lr : rs.length = M) (la : ah.length = M) (hnx : ∀ p, p < M → nx p < M) (hr : ∀ p, p < M → b p = (rs.getD p 0 : Nat)) (hb : ∀ p, p < M → rs.getD p 0 < 256) (ha : ∀ p, p < M → ah.getD p 0 = nx p) : InO M b nx 0 rs ah :=
  ⟨lr, la, hnx, ⟨1, by omega, fun p hp => by rw [ha p hp]; rfl, Rk.start hr⟩, fun p hp => by have := hb p hp; omega, .inl rfl⟩
end
end Go.Proofs.YtlmbdafilboblaaGreat
