/- Texts laid together: CrObj, CrVer, CrOp, RefInts, TopKnown, LynMath, LynFac, FacMath, PerMath, OmMath, RkMath, OmInMath, TurnMath, FacCut, Args, Slss, Vals, BjFac, CycMath, CycMore, GrMath. -/
import Derived.Test.YtlmbdafilboblaaGreatPart4
import Derived.Test.YtlmbdafilboblaaGreatPart2
import Derived.Test.YtlmbdafilboblaaGreatProg
import Derived.Laws.LoneSync
import Derived.BigRegion
import Derived.Test.YtlmbdafilboblaaGreatPart3
import Derived.Test.YtlmbdafilboblaaGreatPart1
import Derived.Lib.SlBytesConst
import Derived.Laws.OwnMore
import Derived.Deep.Matrix
import Derived.SizedLaws
import Derived.Laws.MakeOwn
import Derived.Deep.MidRow
/- The program's Cross in memory; its counters by sync/atomic; contract of New. -/
namespace Go.Proofs.YtlmbdafilboblaaGreat
set_option linter.unusedVariables false
set_option linter.unusedSimpArgs false
open Go.RowKit

/-- v is a Cross that was asked so often; its blocks are fp. -/
def Cro (w : World) (v : Value) (x0 x1 x2 : Nat) (fp : List Nat) : Prop :=
  ∃ m, v = .pointer (some ⟨m, 0, none⟩) ∧ w.heap[m]? = some (.cells #[.int .i64 x0, .int .i64 x1, .int .i64 x2] 70 (0, 0)) ∧ fp = [m]
section
variable {w w' : World} {v : Value} {x0 x1 x2 : Nat} {fp : List Nat}
theorem Cro.ptr (h : Cro w v x0 x1 x2 fp) : ∃ m, v = .pointer (some ⟨m, 0, none⟩) := by obtain ⟨m, h, _⟩ := h; exact ⟨m, h⟩
theorem Cro.same (h : Cro w v x0 x1 x2 fp) (hs : ∀ k ∈ fp, w'.heap[k]? = w.heap[k]?) : Cro w' v x0 x1 x2 fp := by
  obtain ⟨m, h1, h2, rfl⟩ := h
  exact ⟨m, h1, (hs m (by simp)).trans h2, rfl⟩
theorem Cro.lts (h : Cro w v x0 x1 x2 fp) : Lts fp w := by
  obtain ⟨m, h1, h2, rfl⟩ := h
  intro k hk
  rw [List.mem_singleton.1 hk]
  exact (Array.getElem?_eq_some_iff.1 h2).1
theorem Cro.ext (h : Cro w v x0 x1 x2 fp) (he : Ext w w') : Cro w' v x0 x1 x2 fp := h.same (he.same h.lts)
theorem Cro.butF {gp : List Nat} (h : Cro w v x0 x1 x2 fp) (hb : ButF gp w w') (hd : Dis fp gp) : Cro w' v x0 x1 x2 fp := h.same (hb.same h.lts hd)
end
theorem set3_0 {w : World} {b : Nat} {x0 x1 x2 v : Value} {T : TypeId} (h : w.heap[b]? = some (.cells #[x0, x1, x2] T (0, 0))) : (w.setCell ⟨b, 0, none⟩ v).heap[b]? = some (.cells #[v, x1, x2] T (0, 0)) := by
  simp only [World.setCell, Array.getElem?_modify]
  rw [if_pos trivial, h]
  simp
theorem set3_1 {w : World} {b : Nat} {x0 x1 x2 v : Value} {T : TypeId} (h : w.heap[b]? = some (.cells #[x0, x1, x2] T (0, 0))) : (w.setCell ⟨b, 1, none⟩ v).heap[b]? = some (.cells #[x0, v, x2] T (0, 0)) := by
  simp only [World.setCell, Array.getElem?_modify]
  rw [if_pos trivial, h]
  simp
theorem set3_2 {w : World} {b : Nat} {x0 x1 x2 v : Value} {T : TypeId} (h : w.heap[b]? = some (.cells #[x0, x1, x2] T (0, 0))) : (w.setCell ⟨b, 2, none⟩ v).heap[b]? = some (.cells #[x0, x1, v] T (0, 0)) := by
  simp only [World.setCell, Array.getElem?_modify]
  rw [if_pos trivial, h]
  simp
theorem cells3 {w : World} {b : Nat} {x0 x1 x2 : Value} {T : TypeId} (h : w.heap[b]? = some (.cells #[x0, x1, x2] T (0, 0))) : w.cell? ⟨b, 0, none⟩ = some x0 ∧ w.cell? ⟨b, 1, none⟩ = some x1 ∧ w.cell? ⟨b, 2, none⟩ = some x2 ∧ w.frozen? ⟨b, 0, none⟩ = false ∧ w.frozen? ⟨b, 1, none⟩ = false ∧ w.frozen? ⟨b, 2, none⟩ = false := by
  refine ⟨by simp [World.cell?, h], by simp [World.cell?, h], by simp [World.cell?, h], by simp [World.frozen?, h], by simp [World.frozen?, h], by simp [World.frozen?, h]⟩

theorem results_agg_tmp {P : Program} {fn : Func} {p u : Tmp} {ty : TypeId} (h : fn.results = #[.cell p ty, .tmp u]) (tmps : Array Value) (w : World) (g : Nat) (t : TypeId) (cs : Array Value) (fr : Nat × Nat) (d : TypeDesc)
    (hp : tmps.getD p undef = .pointer (some ⟨g, 0, none⟩)) (hg : w.heap[g]? = some (.cells cs t fr)) (hu : P.underlying ty = some d) (hd : (match d with | .struct _ | .array _ _ => true | _ => false) = true) (hi : (P.info? ty).map (·.size) = some cs.size) :
    (results fn tmps).run P w = .ok (.tuple #[.agg cs, tmps.getD u undef]) w := by
  have hp' : tmps[p]?.getD undef = .pointer (some ⟨g, 0, none⟩) := by simpa using hp
  rw [results_cell_tmp h]
  simp [hp', asAddr, run_loadVar_row w g t ty cs fr d hg hu hd hi, Result.andThen]

/-- Which one is asked is counted. -/
def up1 (i j x : Nat) : Nat := if i = j then x + 1 else x

theorem noByte3 {w : World} {m : Nat} {x0 x1 x2 : Int} {T : TypeId} (h : w.heap[m]? = some (.cells #[.int .i64 x0, .int .i64 x1, .int .i64 x2] T (0, 0))) : ∀ j x, w.cell? ⟨m, j, none⟩ ≠ some (.int .u8 x) := by
  intro j x hc
  simp only [World.cell?, h] at hc
  match j, hc with
  | 0, hc => simp at hc
  | 1, hc => simp at hc
  | 2, hc => simp at hc
  | j + 3, hc => simp at hc


/-- The i-th of three. -/
def x3 (x0 x1 x2 i : Nat) : Nat := if i = 0 then x0 else if i = 1 then x1 else x2
theorem x3_le {x0 x1 x2 i n : Nat} (h0 : x0 ≤ n) (h1 : x1 ≤ n) (h2 : x2 ≤ n) : x3 x0 x1 x2 i ≤ n := by
  unfold x3
  repeat' split
  all_goals assumption
theorem cells3i {w : World} {m x0 x1 x2 i : Nat} {T : TypeId} (h : w.heap[m]? = some (.cells #[.int .i64 x0, .int .i64 x1, .int .i64 x2] T (0, 0))) (hi : i < 3) :
    w.cell? ⟨m, i, none⟩ = some (.int .i64 (x3 x0 x1 x2 i)) ∧ w.frozen? ⟨m, i, none⟩ = false := by
  obtain ⟨c0, c1, c2, f0, f1, f2⟩ := cells3 h
  have hi3 : i = 0 ∨ i = 1 ∨ i = 2 := by omega
  rcases hi3 with rfl | rfl | rfl
  · exact ⟨c0, f0⟩
  · exact ⟨c1, f1⟩
  · exact ⟨c2, f2⟩
theorem set3i {w : World} {m x0 x1 x2 i : Nat} {T : TypeId} (h : w.heap[m]? = some (.cells #[.int .i64 x0, .int .i64 x1, .int .i64 x2] T (0, 0))) (hi : i < 3) :
    (w.setCell ⟨m, i, none⟩ (.int .i64 ((x3 x0 x1 x2 i : Nat) + 1 : Int))).heap[m]? = some (.cells #[.int .i64 (up1 i 0 x0), .int .i64 (up1 i 1 x1), .int .i64 (up1 i 2 x2)] T (0, 0)) := by
  have hi3 : i = 0 ∨ i = 1 ∨ i = 2 := by omega
  rcases hi3 with rfl | rfl | rfl
  · rw [set3_0 h]; simp [up1, x3]
  · rw [set3_1 h]; simp [up1, x3]
  · rw [set3_2 h]; simp [up1, x3]

theorem atAdd_any (m i x : Nat) (w : World) (hx : x ≤ 2000) (hc : w.cell? ⟨m, i, none⟩ = some (.int .i64 (x : Int))) (hz : w.frozen? ⟨m, i, none⟩ = false) :
    Calls Tryz.prog 51 #[.pointer (some ⟨m, i, none⟩), .int .i64 1] w fun e w' => (∃ u, e = .returned u) ∧ w' = w.setCell ⟨m, i, none⟩ (.int .i64 ((x : Int) + 1)) := by
  have hadd := run_call_add (P := Tryz.prog) Tryz.func61 (by kernel_rfl) (by kernel_rfl) (by kernel_rfl) .i64 (by kernel_rfl) (x := (x : Int)) (y := 1) (s := (x : Int) + 1) hc hz (by
    have hw : IntKind.i64.wrap ((x : Int) + 1) = (x : Int) + 1 := by rw [IntKind.wrap_i64]; omega
    simp [go_sem, hw])
  go_enter Tryz.func51, Tryz.ntmps51
  go_wp2
  go_ret
  exact ⟨⟨_, rfl⟩, rfl⟩
theorem crsNew_any (w : World) : Calls Tryz.prog 21 #[] w fun e w' => ∃ v fp, e = .returned v ∧ Cro w' v 0 0 0 fp ∧ (∀ k ∈ fp, w.heap.size ≤ k) ∧ Ext w w' := by
  go_enter Tryz.func21, Tryz.ntmps21
  go_wp2
  go_ret
  exact ⟨_, _, rfl, ⟨w.heap.size, rfl, heap_alloc_top _ _, rfl⟩, fun k hk => by rw [List.mem_singleton.1 hk]; exact Nat.le_refl _, ext_alloc _ _⟩
end Go.Proofs.YtlmbdafilboblaaGreat

/- Contracts of cross.ask and cross.verdict. -/
namespace Go.Proofs.YtlmbdafilboblaaGreat
set_option linter.unusedVariables false
set_option linter.unusedSimpArgs false
open Go.RowKit

theorem crsAsk_arg (s : Value) (i : Int) (w : World) (h : i < 0 ∨ 2 < i) :
    Calls Tryz.prog 50 #[.int .i64 i, s] w fun e w' => e = .returned (.tuple #[.slice none 0 0, .int .i64 1]) ∧ w' = w := by
  have e0 : (i == 0) = false := by simp; omega
  have e1 : (i == 1) = false := by simp; omega
  have e2 : (i == 2) = false := by simp; omega
  clear h
  go_enter Tryz.func50, Tryz.ntmps50
  go_wp2
  go_ret2
  exact ⟨rfl, rfl⟩
set_option maxHeartbeats 1000000 in
theorem crsAsk_any (s : Value) (i : Nat) (zs : List Int) (w : World) (hi : i < 3) (hv : Sl .u8 w s zs) (h8 : Bytes8 zs) (hlen : zs.length ≤ 1000000) :
    Calls Tryz.prog 50 #[.int .i64 i, s] w fun e w' => ∃ u L c, e = .returned (.tuple #[u, .int .i64 c]) ∧ ResI zs 256 L c ∧ Own .i64 3 w.heap.size w' u L ∧ Ext w w' := by
  have hi3 : i = 0 ∨ i = 1 ∨ i = 2 := by omega
  have C0 := hide' (saBytes_any s zs w hv h8 hlen)
  have C1 := hide' (skBytes_any s zs w hv h8 hlen)
  have C2 := hide' (dbBytes_any s zs w hv h8 hlen)
  rcases hi3 with rfl | rfl | rfl
  · go_enter Tryz.func50, Tryz.ntmps50
    go_wp2_with fail
    refine C0.out.mono ?_
    rintro e w1 ⟨u, L, c, rfl, hr, ho, he⟩
    have R1 := hide' hr
    have O1 := hide' ho
    have X1 := hide' he
    clear hr ho he C0 C1 C2
    go_wp2
    go_ret2
    exact ⟨_, _, _, rfl, R1.out, O1.out, X1.out⟩
  · go_enter Tryz.func50, Tryz.ntmps50
    go_wp2_with fail
    refine C1.out.mono ?_
    rintro e w1 ⟨u, L, c, rfl, hr, ho, he⟩
    have R1 := hide' hr
    have O1 := hide' ho
    have X1 := hide' he
    clear hr ho he C0 C1 C2
    go_wp2
    go_ret2
    exact ⟨_, _, _, rfl, R1.out, O1.out, X1.out⟩
  · go_enter Tryz.func50, Tryz.ntmps50
    go_wp2_with fail
    refine C2.out.mono ?_
    rintro e w1 ⟨u, L, c, rfl, hr, ho, he⟩
    have R1 := hide' hr
    have O1 := hide' ho
    have X1 := hide' he
    clear hr ho he C0 C1 C2
    go_wp2
    go_ret2
    exact ⟨_, _, _, rfl, R1.out, O1.out, X1.out⟩

set_option maxHeartbeats 1000000 in
theorem crsVerdict_any (s : Value) (zs L : List Int) (a0 a1 a2 : Option Addr) (c0 c1 c2 : Nat) (w : World) (hv : Sl .u8 w s zs) (h8 : Bytes8 zs) (hl : zs.length ≤ 500) (hR : ResI zs 256 L 0)
    (h0 : Sl .i64 w (.slice a0 L.length c0) L) (h1 : Sl .i64 w (.slice a1 L.length c1) L) (h2 : Sl .i64 w (.slice a2 L.length c2) L) :
    Calls Tryz.prog 38 #[s, .agg #[.slice a0 L.length c0, .slice a1 L.length c1, .slice a2 L.length c2]] w fun e w' => ∃ r, e = .returned (.agg #[.slice a0 L.length c0, r, .bool true]) ∧ Own .i64 3 w.heap.size w' r (lcpL zs L) ∧ Ext w w' := by
  have HCH : Hid (chkB zs L (lcpL zs L) = true) := by
    obtain ⟨_, R, hR1, hR2⟩ := hR.ok (by omega) (fit256 h8)
    rw [hR2]
    exact chkB_yes (saB_yes hR1)
  have HLL : Hid (L.length ≤ 500) := by show _ ≤ _; have h1 := hR.len; omega
  have HP : Hid ((lcpL zs L).length ≤ 500) := by show _ ≤ _; have h1 := lcpL_le zs L; have := HLL.out; omega
  have HV := hide' hv
  have H8 := hide' h8
  have HL := hide' hl
  have H0 := hide' h0
  have H1 := hide' h1
  have H2 := hide' h2
  clear hR hv h8 hl h0 h1 h2
  have HG : Hid (∀ o o' : Obj, ((w.alloc o).alloc o').heap[w.heap.size]? = some o) := fun o o' => (heap_alloc_old _ _ (by simp)).trans (heap_alloc_top w o)
  have HG1 : Hid (∀ o o' : Obj, ((w.alloc o).alloc o').heap[w.heap.size + 1]? = some o') := fun o o' => by
    have := heap_alloc_top (w.alloc o) o'
    rwa [show (w.alloc o).heap.size = w.heap.size + 1 by simp] at this
  have HX : Hid (∀ o o' : Obj, Ext w ((w.alloc o).alloc o')) := fun o o' => (ext_alloc _ _).trans (ext_alloc _ _)
  have EQL : Hid (∀ (u : Value) (W : World) (x : List Int) (u' : Value), Sl .i64 W u x → Sl .i64 W u' x → x.length ≤ 500 → Calls Tryz.prog 54 #[u, u'] W fun e w' => e = .returned (.bool true) ∧ Ext W w') := fun u W x u' q1 q2 q3 => by
    refine (equalI_any u u' x x W q1 q2 (by omega) (by omega)).mono ?_
    rintro e w' ⟨rfl, m, rfl⟩
    exact ⟨by simp, Ext.drewN W m⟩
  go_enter Tryz.func38, Tryz.ntmps38
  go_wp2_with fail
  refine (klcp_any _ _ zs L _ (HV.out.ext (HX.out _ _)) (H0.out.ext (HX.out _ _)) HL.out (by have := HLL.out; omega)).mono ?_
  rintro e w1 ⟨r, rfl, ho, he⟩
  obtain ⟨ra, rc, hrs, _⟩ := ho.sl
  subst hrs
  have O1 := hide' ho
  have X1 := hide' ((HX.out _ _).trans he)
  have HB1 := hide' ((he.block w.heap.size (by simp; omega)).trans (HG.out _ _))
  have HV1 := hide' ((he.block (w.heap.size + 1) (by simp)).trans (HG1.out _ _))
  have hz1 := he.size
  clear ho he
  go_wp2_with fail
  refine (phLcp_any _ _ zs L w1 (HV.out.ext X1.out) (H0.out.ext X1.out) HL.out (by have := HLL.out; omega)).mono ?_
  rintro e w2 ⟨r2, rfl, ho, he⟩
  have O2 := hide' ho
  have O12 := hide' (O1.out.ext he)
  have X2 := hide' (X1.out.trans he)
  have HB2 := hide' ((he.block w.heap.size (Array.getElem?_eq_some_iff.1 HB1.out).1).trans HB1.out)
  have HV2 := hide' ((he.block (w.heap.size + 1) (Array.getElem?_eq_some_iff.1 HV1.out).1).trans HV1.out)
  clear ho he HB1 HV1
  obtain ⟨e0, e1, e2, _⟩ := cells3 HB2.out
  go_wp2_with fail
  refine (EQL.out _ w2 L _ (H0.out.ext X2.out) (H1.out.ext X2.out) HLL.out).mono ?_
  rintro e w3 ⟨rfl, he⟩
  have O13 := hide' (O12.out.ext he)
  have O23 := hide' (O2.out.ext he)
  have X3 := hide' (X2.out.trans he)
  have HB3 := hide' ((he.block w.heap.size (Array.getElem?_eq_some_iff.1 HB2.out).1).trans HB2.out)
  have HV3 := hide' ((he.block (w.heap.size + 1) (Array.getElem?_eq_some_iff.1 HV2.out).1).trans HV2.out)
  clear he HB2 HV2 e0 e1 e2
  obtain ⟨e0, e1, e2, _⟩ := cells3 HB3.out
  go_wp2_with fail
  refine (EQL.out _ w3 L _ (H0.out.ext X3.out) (H2.out.ext X3.out) HLL.out).mono ?_
  rintro e w4 ⟨rfl, he⟩
  have O14 := hide' (O13.out.ext he)
  have O24 := hide' (O23.out.ext he)
  have X4 := hide' (X3.out.trans he)
  have HV4 := hide' ((he.block (w.heap.size + 1) (Array.getElem?_eq_some_iff.1 HV3.out).1).trans HV3.out)
  clear he HB3 HV3 e0 e1 e2
  go_wp2_with fail
  refine (EQL.out _ w4 (lcpL zs L) _ O14.out.sl O24.out.sl HP.out).mono ?_
  rintro e w5 ⟨rfl, he⟩
  have O15 := hide' (O14.out.ext he)
  have X5 := hide' (X4.out.trans he)
  have HV5 := hide' ((he.block (w.heap.size + 1) (Array.getElem?_eq_some_iff.1 HV4.out).1).trans HV4.out)
  clear he HV4 O24
  go_wp2_with fail
  refine (chLcp_any _ _ _ zs L (lcpL zs L) w5 (HV.out.ext X5.out) H8.out (H0.out.ext X5.out) O15.out.sl HL.out (by have := HLL.out; omega) (by have := HP.out; omega)).mono ?_
  rw [HCH.out]
  rintro e w6 ⟨rfl, he⟩
  have O16 := hide' (O15.out.ext he)
  have X6 := hide' (X5.out.trans he)
  have HV6 := hide' ((he.block (w.heap.size + 1) (Array.getElem?_eq_some_iff.1 HV5.out).1).trans HV5.out)
  clear he HV5
  obtain ⟨e0, e1, e2, f0, f1, f2⟩ := cells3 HV6.out
  go_wp2
  have HVE := hide' (set3_2 (v := .bool true) (set3_1 (v := .slice ra (lcpL zs L).length rc) (set3_0 (v := .slice a0 L.length c0) HV6.out)))
  have B5 := hide' ((ButF.ofBut (fp := [w.heap.size + 1]) (by simp) (but_set w6 (w.heap.size + 1) 0 (.slice a0 L.length c0))).trans (Grows.refl _ _) ((ButF.ofBut (fp := [w.heap.size + 1]) (by simp) (but_set _ (w.heap.size + 1) 1 (.slice ra (lcpL zs L).length rc))).trans (Grows.refl _ _) (ButF.ofBut (fp := [w.heap.size + 1]) (by simp) (but_set _ (w.heap.size + 1) 2 (.bool true)))))
  (try simp only [Exit.inBlock, Exit.then])
  refine bodyPost_ret (results_cell_row rfl _ _ (w.heap.size + 1) 50 _ (0, 0) _ rfl HVE.out Tryz.underlying50 rfl (by kernel_rfl)) rfl ⟨_, rfl, ?_, ButF.ext X6.out B5.out (by simp)⟩
  refine (ButF.own O16.out B5.out fun j hj e => ?_).low (by simp; omega)
  have := (World.ownsRow.lt O16.out j hj).1
  simp only [List.mem_singleton] at e
  simp at this
  omega
end Go.Proofs.YtlmbdafilboblaaGreat

/- Contracts of Cross.Sort and Cross.Run. -/
namespace Go.Proofs.YtlmbdafilboblaaGreat
set_option linter.unusedVariables false
set_option linter.unusedSimpArgs false
open Go.RowKit

theorem crsSort_arg (v s : Value) (i : Int) (w : World) (h : i < 0 ∨ 2 < i) (hv : ∃ m, v = .pointer (some ⟨m, 0, none⟩)) :
    Calls Tryz.prog 37 #[v, .int .i64 i, s] w fun e w' => ∃ u, e = .returned (.tuple #[u, .int .i64 1]) ∧ Own .i64 3 w.heap.size w' u [] ∧ Ext w w' := by
  obtain ⟨m, rfl⟩ := hv
  have C := hide' (crsAsk_arg s i w h)
  clear h
  go_enter Tryz.func37, Tryz.ntmps37
  go_wp2_with fail
  refine C.out.mono ?_
  rintro e w1 ⟨rfl, rfl⟩
  clear C
  go_wp2
  go_ret2
  exact ⟨_, rfl, Own.nil _ _ _ _, Ext.refl _⟩
theorem crsSort_nil (s : Value) (i : Int) (w : World) :
    Calls Tryz.prog 37 #[.pointer none, .int .i64 i, s] w fun e w' => ∃ u, e = .returned (.tuple #[u, .int .i64 1]) ∧ Ext w w' := by
  go_enter Tryz.func37, Tryz.ntmps37
  go_wp2
  go_ret2
  exact ⟨_, rfl, Ext.refl _⟩
theorem crsSort_long (v s : Value) (zs : List Int) (i : Nat) (x0 x1 x2 : Nat) (fp : List Nat) (w : World) (h : Cro w v x0 x1 x2 fp) (hi : i < 3) (hs : Sl .u8 w s zs) (hz : ∀ z ∈ zs, z = 0) (hl : 100000 < zs.length) (hl2 : zs.length ≤ 100003) :
    Calls Tryz.prog 37 #[v, .int .i64 i, s] w fun e w' => ∃ u, e = .returned (.tuple #[u, .int .i64 2]) ∧ Ext w w' := by
  obtain ⟨m, rfl⟩ := h.ptr
  have h8 : Bytes8 zs := fun z hm => by rw [hz z hm]; omega
  have C := hide' (crsAsk_any s i zs w hi hs h8 (by omega))
  have HLO := hide' hl
  clear h hz hi hs h8 hl hl2
  go_enter Tryz.func37, Tryz.ntmps37
  go_wp2_with fail
  refine C.out.mono ?_
  rintro e w1 ⟨u, L, c, rfl, hr, _, he⟩
  obtain ⟨rfl, rfl⟩ := hr.long HLO.out
  have X1 := hide' he
  clear hr he C
  go_wp2
  go_ret2
  exact ⟨_, rfl, X1.out⟩

theorem But.ofFoot {m : Nat} {w w' : World} (h : ButF [m] w w') : But m w w' := ⟨h.os, h.tape, h.output, h.size, fun k hk hn => h.block k hk (fun e => hn (by rw [List.mem_singleton.1 e]))⟩

set_option maxHeartbeats 1000000 in
theorem crsSort_two (v s : Value) (zs : List Int) (i x0 x1 x2 : Nat) (fp : List Nat) (w : World) (h : Cro w v x0 x1 x2 fp) (hi : i < 3) (hs : Sl .u8 w s zs) (h8 : Bytes8 zs) (hl : zs.length ≤ 500) (hb : x0 ≤ 2000 ∧ x1 ≤ 2000 ∧ x2 ≤ 2000) :
    Calls Tryz.prog 37 #[v, .int .i64 i, s] w fun e w' => ∃ u L, e = .returned (.tuple #[u, .int .i64 0]) ∧ ResI zs 256 L 0 ∧ Own .i64 3 w.heap.size w' u L ∧ Cro w' v (up1 i 0 x0) (up1 i 1 x1) (up1 i 2 x2) fp ∧ ButF fp w w' := by
  obtain ⟨m, rfl, h2, rfl⟩ := h
  have C := hide' (crsAsk_any s i zs w hi hs h8 (by omega))
  have HB : Hid (x3 x0 x1 x2 i ≤ 2000) := x3_le hb.1 hb.2.1 hb.2.2
  have H2 := hide' h2
  have H8 := hide' h8
  have HL := hide' hl
  have HI := hide' hi
  have HM : Hid (m < w.heap.size) := (Array.getElem?_eq_some_iff.1 h2).1
  have HIF : Hid (decide ((i : Int) < 0) = false ∧ decide ((i : Int) < 3) = true) := ⟨by simp, by simp; omega⟩
  clear h2 h8 hl hi hb hs
  go_enter Tryz.func37, Tryz.ntmps37
  go_wp2_with fail
  refine C.out.mono ?_
  rintro e w1 ⟨u, L, c, rfl, hr, ho, he⟩
  obtain ⟨hc, _⟩ := hr.ok (by have := HL.out; omega) (fit256 H8.out)
  subst hc
  have R1 := hide' hr
  have O1 := hide' ho
  have X1 := hide' he
  have M1 := hide' ((he.block m HM.out).trans H2.out)
  obtain ⟨cc, ff⟩ := cells3i M1.out HI.out
  have HA := hide' (atAdd_any m i _ w1 HB.out cc ff)
  have S1 := hide' (set3i M1.out HI.out)
  have hlt := HI.out
  clear hr ho he C cc ff
  go_wp2_with fail
  refine HA.out.mono ?_
  rintro e w2 ⟨⟨y, rfl⟩, rfl⟩
  have B1 : Hid (ButF [m] w1 (w1.setCell ⟨m, i, none⟩ (.int .i64 ((x3 x0 x1 x2 i : Nat) + 1 : Int)))) := ButF.ofBut (by simp) (but_set _ _ _ _)
  clear HA
  go_wp2
  go_ret2
  refine ⟨u, L, rfl, R1.out, ButF.own O1.out B1.out (fun j hj e => ?_), ⟨m, rfl, S1.out, rfl⟩, (ButF.ofExt X1.out).trans (Grows.refl _ _) B1.out⟩
  have := (World.ownsRow.lt O1.out j hj).1
  have := HM.out
  simp only [List.mem_singleton] at e
  omega
theorem crsSort_ok (v s : Value) (zs : List Int) (i x0 x1 x2 : Nat) (fp : List Nat) (w : World) (h : Cro w v x0 x1 x2 fp) (hi : i < 3) (hs : Sl .u8 w s zs) (h8 : Bytes8 zs) (hl : zs.length ≤ 500) (hb : x0 ≤ 1000 ∧ x1 ≤ 1000 ∧ x2 ≤ 1000) :
    Calls Tryz.prog 37 #[v, .int .i64 i, s] w fun e w' => ∃ u L, e = .returned (.tuple #[u, .int .i64 0]) ∧ ResI zs 256 L 0 ∧ Own .i64 3 w.heap.size w' u L ∧ Cro w' v (up1 i 0 x0) (up1 i 1 x1) (up1 i 2 x2) fp ∧ ButF fp w w' :=
  crsSort_two v s zs i x0 x1 x2 fp w h hi hs h8 hl (by omega)

theorem crsRun_nil (s : Value) (w : World) :
    Calls Tryz.prog 22 #[.pointer none, s] w fun e w' => ∃ u, e = .returned (.tuple #[.agg #[.slice none 0 0, .slice none 0 0, .bool false], .int .i64 u]) ∧ u = 1 ∧ Ext w w' := by
  go_enter Tryz.func22, Tryz.ntmps22
  go_wp2
  (try simp only [Exit.inBlock, Exit.then])
  refine bodyPost_ret (results_agg_tmp rfl _ _ w.heap.size 50 _ (0, 0) _ rfl (heap_alloc_new _ _) Tryz.underlying50 rfl (by kernel_rfl)) rfl ⟨1, rfl, rfl, ext_alloc _ _⟩
theorem crsRun_long (v s : Value) (zs : List Int) (x0 x1 x2 : Nat) (fp : List Nat) (w : World) (h : Cro w v x0 x1 x2 fp) (hs : Sl .u8 w s zs) (hz : ∀ z ∈ zs, z = 0) (hl : 100000 < zs.length) (hl2 : zs.length ≤ 100003) :
    Calls Tryz.prog 22 #[v, s] w fun e w' => e = .returned (.tuple #[.agg #[.slice none 0 0, .slice none 0 0, .bool false], .int .i64 2]) ∧ Ext w w' := by
  obtain ⟨m, rfl⟩ := h.ptr
  obtain ⟨a, c, rfl, _⟩ := hs
  have d3 : decide ((100000 : Int) < (zs.length : Int)) = true := decide_eq_true (by omega)
  have d3' : decide (100000 < zs.length) = true := decide_eq_true (by omega)
  clear h hz
  go_enter Tryz.func22, Tryz.ntmps22
  go_wp2
  (try simp only [Exit.inBlock, Exit.then])
  refine bodyPost_ret (results_agg_tmp rfl _ _ w.heap.size 50 _ (0, 0) _ rfl (heap_alloc_new _ _) Tryz.underlying50 rfl (by kernel_rfl)) rfl ⟨rfl, ext_alloc _ _⟩

/-- How often one was asked, behind i rounds. -/
def upA (i j x : Nat) : Nat := if j < i then x + 1 else x
theorem upA_up {i j x : Nat} : up1 i j (upA i j x) = upA (i + 1) j x := by
  unfold up1 upA
  by_cases h1 : i = j
  · rw [if_pos h1, if_neg (by omega), if_pos (by omega)]
  · rw [if_neg h1]
    by_cases h2 : j < i
    · rw [if_pos h2, if_pos (by omega)]
    · rw [if_neg h2, if_neg (by omega)]
theorem upA_le {i j x n : Nat} (h : x ≤ n) : upA i j x ≤ n + 1 := by unfold upA; split <;> omega
/-- The j-th order, if i rounds are done. -/
def Got (B : Nat) (w : World) (L : List Int) (i j : Nat) (v : Value) : Prop := j < i → Own .i64 3 B w v L ∧ ∃ a c, v = .slice a L.length c
theorem Got.butF {B : Nat} {w w' : World} {L : List Int} {i j : Nat} {v : Value} {fp : List Nat} (h : Got B w L i j v) (hb : ButF fp w w') (hf : ∀ k ∈ fp, k < B) : Got B w' L i j v := fun hj => by
  obtain ⟨h1, h2⟩ := h hj
  refine ⟨ButF.own h1 hb (fun k hk e => ?_), h2⟩
  have := (World.ownsRow.lt h1 k hk).1
  have := hf k e
  omega
theorem Got.next {B : Nat} {w : World} {L : List Int} {i j : Nat} {v : Value} (h : Got B w L i j v) (hn : i ≠ j) : Got B w L (i + 1) j v := fun hj => h (by omega)
theorem Got.put {w : World} {L : List Int} {i m B : Nat} {v0 v1 v2 u : Value} {T : TypeId} (h : w.heap[m]? = some (.cells #[v0, v1, v2] T (0, 0))) (hi : i < 3) (h0 : Got B w L i 0 v0) (h1 : Got B w L i 1 v1) (h2 : Got B w L i 2 v2) (hu : Own .i64 3 B w u L ∧ ∃ a c, u = .slice a L.length c) (hm : m < B) :
    ∃ y0 y1 y2, (w.setCell ⟨m, i, none⟩ u).heap[m]? = some (.cells #[y0, y1, y2] T (0, 0)) ∧ Got B (w.setCell ⟨m, i, none⟩ u) L (i + 1) 0 y0 ∧ Got B (w.setCell ⟨m, i, none⟩ u) L (i + 1) 1 y1 ∧ Got B (w.setCell ⟨m, i, none⟩ u) L (i + 1) 2 y2 := by
  have hbf : ButF [m] w (w.setCell ⟨m, i, none⟩ u) := ButF.ofBut (by simp) (but_set _ _ _ _)
  have hf : ∀ k ∈ [m], k < B := fun k hk => by rw [List.mem_singleton.1 hk]; exact hm
  have hu' : ∀ n, Got B (w.setCell ⟨m, i, none⟩ u) L n i u := fun n => Got.butF (fun _ => hu) hbf hf
  have hi3 : i = 0 ∨ i = 1 ∨ i = 2 := by omega
  rcases hi3 with rfl | rfl | rfl
  · exact ⟨u, v1, v2, set3_0 h, hu' _, (h1.butF hbf hf).next (by omega), (h2.butF hbf hf).next (by omega)⟩
  · exact ⟨v0, u, v2, set3_1 h, (h0.butF hbf hf).next (by omega), hu' _, (h2.butF hbf hf).next (by omega)⟩
  · exact ⟨v0, v1, u, set3_2 h, (h0.butF hbf hf).next (by omega), (h1.butF hbf hf).next (by omega), hu' _⟩

set_option maxHeartbeats 2000000 in
theorem crsRun_ok (v s : Value) (zs : List Int) (x0 x1 x2 : Nat) (fp : List Nat) (w : World) (h : Cro w v x0 x1 x2 fp) (hs : Sl .u8 w s zs) (h8 : Bytes8 zs) (hl : zs.length ≤ 500) (hb : x0 ≤ 1000 ∧ x1 ≤ 1000 ∧ x2 ≤ 1000) :
    Calls Tryz.prog 22 #[v, s] w fun e w' => ∃ a r L, e = .returned (.tuple #[.agg #[a, r, .bool true], .int .i64 0]) ∧ ResI zs 256 L 0 ∧ Own .i64 3 w.heap.size w' a L ∧ Own .i64 3 w.heap.size w' r (lcpL zs L) ∧ (∀ j, a.ownBlock = some j → r.ownBlock ≠ some j) ∧ Cro w' v (x0 + 1) (x1 + 1) (x2 + 1) fp ∧ ButF fp w w' := by
  obtain ⟨m, rfl, h2, rfl⟩ := h
  have hR0 : ResI zs 256 (natL (sortE zs)) 0 := .inr (.inr ⟨by omega, fit256 h8, rfl, sortE zs, sortE_ord zs, rfl⟩)
  generalize natL (sortE zs) = L at hR0
  have HR := hide' hR0
  have H2 := hide' h2
  have H8 := hide' h8
  have HL := hide' hl
  have HBN := hide' hb
  have HM : Hid (m < w.heap.size) := (Array.getElem?_eq_some_iff.1 h2).1
  have HS := hide' hs
  obtain ⟨a, c, rfl, _⟩ := id hs
  have d3 : decide ((100000 : Int) < (zs.length : Int)) = false := decide_eq_false (by omega)
  have d3' : decide (100000 < zs.length) = false := decide_eq_false (by omega)
  have HG : Hid (∀ o o' : Obj, ((w.alloc o).alloc o').heap[w.heap.size]? = some o) := fun o o' => (heap_alloc_old _ _ (by simp)).trans (heap_alloc_top w o)
  have HG1 : Hid (∀ o o' : Obj, ((w.alloc o).alloc o').heap[w.heap.size + 1]? = some o') := fun o o' => by
    have := heap_alloc_top (w.alloc o) o'
    rwa [show (w.alloc o).heap.size = w.heap.size + 1 by simp] at this
  have HX : Hid (∀ o o' : Obj, Ext w ((w.alloc o).alloc o')) := fun o o' => (ext_alloc _ _).trans (ext_alloc _ _)
  have HSZ : Hid (∀ o o' : Obj, ((w.alloc o).alloc o').heap.size = w.heap.size + 2) := fun o o' => by simp
  clear h2 h8 hl hs hR0 hb
  go_enter Tryz.func22, Tryz.ntmps22
  go_wp2
  go_loopw [17] (fun iv wr => ∃ (i : Nat), i ≤ 3 ∧ iv = .int .i64 i ∧ ∃ v0 v1 v2, Hid (wr.heap[w.heap.size + 1]? = some (.cells #[v0, v1, v2] 71 (0, 0))) ∧ Hid (Got (w.heap.size + 2) wr L i 0 v0) ∧ Hid (Got (w.heap.size + 2) wr L i 1 v1) ∧ Hid (Got (w.heap.size + 2) wr L i 2 v2)
    ∧ Hid (wr.heap[w.heap.size]? = some (Obj.cells #[.slice none 0 0, .slice none 0 0, .bool false] 50 (0, 0)))
    ∧ Hid (wr.heap[m]? = some (.cells #[.int .i64 (upA i 0 x0 : Nat), .int .i64 (upA i 1 x1 : Nat), .int .i64 (upA i 2 x2 : Nat)] 70 (0, 0))) ∧ Hid (ButF [m] w wr) ∧ Hid (w.heap.size + 2 ≤ wr.heap.size)) (fun iv _ => 3 - (intOf iv).toNat)
  case atStart =>
    refine ⟨0, by omega, rfl, _, _, _, HG1.out _ _, fun h => absurd h (by omega), fun h => absurd h (by omega), fun h => absurd h (by omega), HG.out _ _, ?_, ButF.ofExt (HX.out _ _), Nat.le_of_eq (HSZ.out _ _).symm⟩
    show _ = _
    rw [(HX.out _ _).block m HM.out, H2.out]
    simp [upA]
  case round =>
    obtain ⟨i, hi, rfl, v0, v1, v2, HC, G0, G1, G2, HV, HCR, HBF, HWS⟩ := hrel
    by_cases hlt : i < 3
    · have d1 : decide ((i : Int) < 3) = true := by simp; omega
      have HSR := hide' (HS.out.but' (noByte3 H2.out) (But.ofFoot HBF.out))
      have C := hide' (crsSort_two (.pointer (some ⟨m, 0, none⟩)) _ zs i _ _ _ [m] wr ⟨m, rfl, HCR.out, rfl⟩ hlt HSR.out H8.out HL.out (by
        have h1 := HBN.out
        have h2 := @upA_le i 0 x0 1000 (by omega)
        have h3 := @upA_le i 1 x1 1000 (by omega)
        have h4 := @upA_le i 2 x2 1000 (by omega)
        omega))
      go_wp2_with fail
      refine C.out.mono ?_
      rintro e w1 ⟨u, L1, rfl, hr, ho, hcr, hbf⟩
      obtain ⟨rfl, _⟩ := HR.out.eq hr
      obtain ⟨m', hme, hcm, _⟩ := hcr
      have hmm : m' = m := by simp at hme; exact hme.symm
      rw [hmm] at hcm
      rw [upA_up, upA_up, upA_up] at hcm
      have hgs := HWS.out
      have hms := HM.out
      have hC1 : w1.heap[w.heap.size + 1]? = some (.cells #[v0, v1, v2] 71 (0, 0)) := (hbf.block _ (by omega) (by simp; omega)).trans HC.out
      have hV1 : w1.heap[w.heap.size]? = some (Obj.cells #[.slice none 0 0, .slice none 0 0, .bool false] 50 (0, 0)) := (hbf.block _ (by omega) (by simp; omega)).trans HV.out
      have hO := ho.low (show w.heap.size + 2 ≤ wr.heap.size from hgs)
      obtain ⟨ua, uc, rfl, _⟩ := hO.sl
      have hf : ∀ k ∈ [m], k < w.heap.size + 2 := fun k hk => by rw [List.mem_singleton.1 hk]; omega
      obtain ⟨y0, y1, y2, q, q0, q1, q2⟩ := Got.put hC1 hlt (G0.out.butF hbf hf) (G1.out.butF hbf hf) (G2.out.butF hbf hf) ⟨hO, _, _, rfl⟩ (by omega)
      have HC2 := hide' q
      have K0 := hide' q0
      have K1 := hide' q1
      have K2 := hide' q2
      have hbs : ButF [w.heap.size + 1] w1 (w1.setCell ⟨w.heap.size + 1, i, none⟩ (.slice ua L.length uc)) := ButF.ofBut (by simp) (but_set _ _ _ _)
      have HV2 := hide' ((hbs.block w.heap.size (Array.getElem?_eq_some_iff.1 hV1).1 (by simp)).trans hV1)
      have HCR2 := hide' ((hbs.block m (Array.getElem?_eq_some_iff.1 hcm).1 (by simp; omega)).trans hcm)
      have HBF2 : Hid (ButF [m] w (w1.setCell ⟨w.heap.size + 1, i, none⟩ (.slice ua L.length uc))) := (HBF.out.trans (Grows.refl _ _) hbf).trans (fun k hk => .inr (by rw [List.mem_singleton.1 hk]; omega)) hbs
      have HWS2 : Hid (w.heap.size + 2 ≤ (w1.setCell ⟨w.heap.size + 1, i, none⟩ (.slice ua L.length uc)).heap.size) := Nat.le_trans hgs (Nat.le_trans hbf.size hbs.size)
      obtain ⟨fc, ff⟩ : (∃ y, w1.cell? ⟨w.heap.size + 1, i, none⟩ = some y) ∧ w1.frozen? ⟨w.heap.size + 1, i, none⟩ = false := by
        obtain ⟨c0, c1, c2, f0, f1, f2⟩ := cells3 hC1
        have hi3 : i = 0 ∨ i = 1 ∨ i = 2 := by omega
        rcases hi3 with rfl | rfl | rfl
        · exact ⟨⟨_, c0⟩, f0⟩
        · exact ⟨⟨_, c1⟩, f1⟩
        · exact ⟨⟨_, c2⟩, f2⟩
      obtain ⟨y, fy⟩ := fc
      clear C HC G0 G1 G2 HV HCR HBF HWS HSR hr ho hcm hbf hgs hms hC1 hV1 hO hf q q0 q1 q2 hbs hmm hme
      go_wp2
      go_roundw
      case rel => exact ⟨i + 1, by omega, by go_num, y0, y1, y2, HC2, K0, K1, K2, HV2, HCR2, HBF2, HWS2⟩
      case measure => simp [intOf]; omega
    · have d1 : decide ((i : Int) < 3) = false := by simp; omega
      have hi3 : i = 3 := by omega
      have g0 := G0.out
      have g1 := G1.out
      have g2 := G2.out
      have hcr := HCR.out
      rw [hi3] at g0 g1 g2 hcr
      obtain ⟨o0, a0, k0, rfl⟩ := g0 (by omega)
      obtain ⟨o1, a1, k1, rfl⟩ := g1 (by omega)
      obtain ⟨o2, a2, k2, rfl⟩ := g2 (by omega)
      have HC4 : Hid (wr.heap[m]? = some (.cells #[.int .i64 (x0 + 1 : Nat), .int .i64 (x1 + 1 : Nat), .int .i64 (x2 + 1 : Nat)] 70 (0, 0))) := hcr
      have O0 := hide' o0
      have HSR := hide' (HS.out.but' (noByte3 H2.out) (But.ofFoot HBF.out))
      have C := hide' (crsVerdict_any _ zs L a0 a1 a2 k0 k1 k2 wr HSR.out H8.out HL.out HR.out o0.sl o1.sl o2.sl)
      obtain ⟨e0, e1, e2, _⟩ := cells3 HC.out
      clear g0 g1 g2 hcr o0 o1 o2 G0 G1 G2 HCR HC hi3 HSR
      go_wp2_with fail
      refine C.out.mono ?_
      rintro e w4 ⟨r, rfl, ho, he⟩
      have O4 := hide' ho
      have E4 := hide' he
      have HAP : Hid (∀ j, (Value.slice a0 L.length k0).ownBlock = some j → r.ownBlock ≠ some j) := fun j h1 h2 => by
        have a1 := O0.out.lts j h1
        have a2 := (World.ownsRow.lt ho j h2).1
        omega
      have O34 := hide' (O0.out.ext he)
      have HV4 := hide' ((he.block w.heap.size (Array.getElem?_eq_some_iff.1 HV.out).1).trans HV.out)
      have HC5 := hide' ((he.block m (Array.getElem?_eq_some_iff.1 HC4.out).1).trans HC4.out)
      obtain ⟨ra, rc, hrs, _⟩ := ho.sl
      subst hrs
      clear ho he C e0 e1 e2
      obtain ⟨c0, c1, c2, f0, f1, f2⟩ := cells3 HV4.out
      go_wp2
      have HVE := hide' (set3_2 (v := .bool true) (set3_1 (v := .slice ra (lcpL zs L).length rc) (set3_0 (v := .slice a0 L.length k0) HV4.out)))
      have B5 := hide' ((ButF.ofBut (fp := [w.heap.size]) (by simp) (but_set w4 w.heap.size 0 (.slice a0 L.length k0))).trans (Grows.refl _ _) ((ButF.ofBut (fp := [w.heap.size]) (by simp) (but_set _ w.heap.size 1 (.slice ra (lcpL zs L).length rc))).trans (Grows.refl _ _) (ButF.ofBut (fp := [w.heap.size]) (by simp) (but_set _ w.heap.size 2 (.bool true)))))
      (try simp only [Exit.inBlock, Exit.then])
      have hms := HM.out
      have hgs := HWS.out
      refine bodyPost_ret (results_agg_tmp rfl _ _ w.heap.size 50 _ (0, 0) _ rfl HVE.out Tryz.underlying50 rfl (by kernel_rfl)) rfl ⟨_, _, L, rfl, HR.out, ?_, ?_, HAP.out, ⟨m, rfl, ?_, rfl⟩, ?_⟩
      · refine (ButF.own O34.out B5.out fun j hj e => ?_).low (by omega)
        have := (World.ownsRow.lt O34.out j hj).1
        simp only [List.mem_singleton] at e
        omega
      · refine (ButF.own O4.out B5.out fun j hj e => ?_).low (by omega)
        have := (World.ownsRow.lt O4.out j hj).1
        simp only [List.mem_singleton] at e
        omega
      · rw [B5.out.block m (Array.getElem?_eq_some_iff.1 HC5.out).1 (by simp; omega)]
        exact HC5.out
      · exact (HBF.out.trans (Grows.refl _ _) (ButF.ofExt E4.out)).trans (fun k hk => .inr (by rw [List.mem_singleton.1 hk]; exact Nat.le_refl _)) B5.out
end Go.Proofs.YtlmbdafilboblaaGreat

/- The contract of whorlref4.Ints: are two rows of numbers one? -/
namespace Go.Proofs.YtlmbdafilboblaaGreat
set_option linter.unusedVariables false
set_option linter.unusedSimpArgs false
open Go.RowKit

set_option maxHeartbeats 400000 in
theorem ints_any (u v : Value) (x y : List Int) (w : World) (hu : Sl .i64 w u x) (hv : Sl .i64 w v y) (hx : x.length ≤ 1000000) (hy : y.length ≤ 1000000) :
    Calls Tryz.prog 23 #[u, v] w fun e w' => e = .returned (.bool (decide (x = y))) ∧ ∃ m, w' = w.drewN m := by
  have HU := hide' hu
  have HV := hide' hv
  obtain ⟨a, c, rfl, _⟩ := hu
  obtain ⟨a', c', rfl, _⟩ := hv
  by_cases hl : x.length = y.length
  · obtain ⟨n, hn1⟩ : ∃ n, x.length = n := ⟨_, rfl⟩
    have hn2 : y.length = n := by omega
    rw [hn1] at HU hx ⊢
    rw [hn2] at HV hy ⊢
    have HXL := hide' hn1
    have HYL := hide' hn2
    clear hn1 hn2 hl
    go_enter Tryz.func23, Tryz.ntmps23
    go_wp2
    go_loopw [5] (fun vk wr => ∃ (k : Nat), k ≤ n ∧ vk = .int .i64 k ∧ Hid (x.take k = y.take k) ∧ ∃ m, wr = w.drewN m) (fun vk _ => n - (intOf vk).toNat)
    case atStart => exact ⟨0, Nat.zero_le _, rfl, (show _ = _ by simp), 0, rfl⟩
    case round =>
      obtain ⟨k, hk, rfl, HK, m, rfl⟩ := hrel
      by_cases l1 : k < n
      · have hne1 : x ≠ [] := fun h => by have := HXL.out; rw [h] at this; simp at this; omega
        have hne2 : y ≠ [] := fun h => by have := HYL.out; rw [h] at this; simp at this; omega
        obtain ⟨_, b1, o1, e1, c1⟩ := HU.out.at hne1
        obtain ⟨_, b2, o2, e2, c2⟩ := HV.out.at hne2
        have c1' := c1 k l1
        have c2' := c2 k l1
        obtain ⟨p, HP⟩ : ∃ p, Hid (x.getD k 0 = p) := ⟨_, rfl⟩
        obtain ⟨q, HQ⟩ : ∃ q, Hid (y.getD k 0 = q) := ⟨_, rfl⟩
        rw [HP.out] at c1'
        rw [HQ.out] at c2'
        subst e1 e2
        clear c1 c2 hne1 hne2
        have l1' : (k : Int) < n := by omega
        by_cases hpq : p = q
        · have HK' : Hid (x.take (k + 1) = y.take (k + 1)) := take_ext_succ (by rw [HXL.out]; exact l1) (by rw [HYL.out]; exact l1) HK.out (by rw [HP.out, HQ.out, hpq])
          subst hpq
          go_wp2_with fail
          go_quiet (fail)
          go_wp2
          go_roundw
          case rel => exact ⟨k + 1, by omega, by go_num, HK', _, rfl⟩
          case measure => simp [intOf]; omega
        · have hpq' : (p == q) = false := by simpa using hpq
          have HD : Hid (decide (x = y) = false) := by
            show _ = _
            refine decide_eq_false fun h => hpq ?_
            rw [← HP.out, ← HQ.out, h]
          clear hpq
          go_wp2_with fail
          go_quiet (fail)
          go_wp2
          go_ret
          rw [HD.out]
          exact ⟨rfl, _, by first | rfl | rw [World.drewN_drewN]⟩
      · have l1' : decide ((k : Int) < n) = false := by simp; omega
        have HD : Hid (decide (x = y) = true) := by
          show _ = _
          refine decide_eq_true ?_
          have := HK.out
          rwa [List.take_of_length_le (by rw [HXL.out]; omega), List.take_of_length_le (by rw [HYL.out]; omega)] at this
        go_wp2
        go_ret
        rw [HD.out]
        exact ⟨rfl, _, rfl⟩
  · have hd : ((x.length : Int) == (y.length : Int)) = false := by simp; omega
    have HD : Hid (decide (x = y) = false) := by
      show _ = _
      exact decide_eq_false fun h => hl (by rw [h])
    clear hl
    go_enter Tryz.func23, Tryz.ntmps23
    go_wp2
    go_ret
    rw [HD.out]
    exact ⟨rfl, 0, rfl⟩

theorem ints_same (u v : Value) (x : List Int) (w : World) (hu : Sl .i64 w u x) (hv : Sl .i64 w v x) (hx : x.length ≤ 1000000) :
    Calls Tryz.prog 23 #[u, v] w fun e w' => e = .returned (.bool true) ∧ Ext w w' := by
  have := toExt (ints_any u v x x w hu hv hx hx)
  rwa [decide_eq_true rfl] at this
end Go.Proofs.YtlmbdafilboblaaGreat

/- whorltop's own known answer: banana, by all three sorters. -/
namespace Go.Proofs.YtlmbdafilboblaaGreat
set_option linter.unusedVariables false
set_option linter.unusedSimpArgs false
open Go.RowKit

set_option maxHeartbeats 2000000 in
theorem topKnown_any (w : World) : Calls Tryz.prog 9 #[] w fun e w' => e = .returned (.bool true) ∧ Ext w w' := by
  have hc6 := fun w => Go.Lib.run_convert_bytes_const (P := Tryz.prog) w 22 5 #[.int .u8 98, .int .u8 97, .int .u8 110, .int .u8 97, .int .u8 110, .int .u8 97] 6 6 Tryz.underlying22 Tryz.underlying5
  have H6 : Hid (∀ w : World, Sl .u8 (w.alloc (.cells (([98, 97, 110, 97, 110, 97] : List Int).map (Value.int .u8)).toArray 5 (6, 7))) (.slice (some ⟨w.heap.size, 0, none⟩) 6 6) [98, 97, 110, 97, 110, 97]) := fun w => Sl.lit' (k := .u8) (e := 5) (fr := (6, 7)) w [98, 97, 110, 97, 110, 97] 6 rfl (by decide)
  have H1 : Hid (∀ (w : World), Sl .i64 (w.alloc (.cells (([5, 3, 1, 0, 4, 2] : List Int).map (Value.int .i64)).toArray 3)) (.slice (some ⟨w.heap.size, 0, none⟩) 6 6) [5, 3, 1, 0, 4, 2]) := fun w => Sl.lit (k := .i64) (e := 3) w _ 6 rfl (by decide)
  have J1 : Hid (∀ (w : World) (o : Obj), Sl .i64 ((w.alloc o).alloc (.cells (([5, 3, 1, 0, 4, 2] : List Int).map (Value.int .i64)).toArray 3)) (.slice (some ⟨w.heap.size + 1, 0, none⟩) 6 6) [5, 3, 1, 0, 4, 2]) := fun w o => by
    have := H1.out (w.alloc o)
    rwa [show (w.alloc o).heap.size = w.heap.size + 1 by simp] at this
  have E2 : Hid (∀ (w : World) (o o' : Obj), Ext w ((w.alloc o).alloc o')) := fun w o o' => (ext_alloc w o).trans (ext_alloc _ o')
  go_enter Tryz.func9, Tryz.ntmps9
  go_wp2_with fail
  refine (crsNew_any w).mono ?_
  rintro e w1 ⟨v, fp, rfl, hm, hn, he⟩
  have M1 := hide' hm
  have N1 := hide' hn
  have X1 := hide' he
  clear hm hn he
  obtain ⟨m, rfl⟩ := M1.out.ptr
  go_wp2_with fail
  refine (crsRun_ok _ _ [98, 97, 110, 97, 110, 97] 0 0 0 fp _ (M1.out.ext (ext_alloc _ _)) (H6.out w1) banana_bytes (by decide) (by decide)).mono ?_
  rintro e w3 ⟨a, r, L, rfl, hR, ha, hr, _, hm, hb⟩
  obtain ⟨_, R, hR1, rfl⟩ := hR.ok (by decide) (fit256 banana_bytes)
  obtain rfl := hR1.eq banana_ord
  have A3 := hide' ha.sl
  have X3 := hide' (ButF.ext (X1.out.trans (ext_alloc _ _)) hb N1.out)
  obtain ⟨aa, ac, rfl, _⟩ := ha.sl
  obtain ⟨ra, rc, rfl, _⟩ := hr.sl
  clear hm ha hr hb hR hR1 M1 N1 X1
  go_wp2_with fail
  refine (ints_same _ _ [5, 3, 1, 0, 4, 2] _ (A3.out.ext (E2.out w3 _ _)) (J1.out w3 _) (by decide)).mono ?_
  rintro e w4 ⟨rfl, he⟩
  have X4 := hide' (X3.out.trans ((E2.out w3 _ _).trans he))
  clear he
  go_wp2
  go_ret
  exact ⟨rfl, X4.out⟩
end Go.Proofs.YtlmbdafilboblaaGreat

/- Texts that are less than all their endings, and the row of such that a text is. Plain numbers, no conditions. -/
namespace Go.Proofs.YtlmbdafilboblaaGreat
set_option linter.unusedVariables false
set_option linter.unusedSimpArgs false

/-- Less: at a first other place, or by its end. -/
theorem cmpI_neg : ∀ (x y : List Int), cmpI x y < 0 ↔ ∃ j, j < y.length ∧ j ≤ x.length ∧ (∀ k, k < j → x.getD k 0 = y.getD k 0) ∧ (j = x.length ∨ x.getD j 0 < y.getD j 0)
  | [], [] => by simp [cmpI]
  | [], b :: y => ⟨fun _ => ⟨0, by simp, by simp, fun k hk => by omega, .inl rfl⟩, fun _ => by simp [cmpI]⟩
  | a :: x, [] => by simp [cmpI]
  | a :: x, b :: y => by
    have ih := cmpI_neg x y
    simp only [cmpI]
    by_cases h1 : a < b
    · rw [if_pos h1]
      exact ⟨fun _ => ⟨0, by simp, by simp, fun k hk => by omega, .inr (by simpa using h1)⟩, fun _ => by decide⟩
    · rw [if_neg h1]
      by_cases h2 : b < a
      · rw [if_pos h2]
        refine ⟨fun h => by omega, fun ⟨j, _, _, h3, h4⟩ => ?_⟩
        cases j with
        | zero =>
          rcases h4 with h4 | h4
          · simp at h4
          · simp at h4; omega
        | succ j => have := h3 0 (by omega); simp at this; omega
      · rw [if_neg h2, ih]
        have e : a = b := by omega
        subst e
        constructor
        · rintro ⟨j, g1, g2, g3, g4⟩
          refine ⟨j + 1, by simp; omega, by simp; omega, fun k hk => ?_, ?_⟩
          · cases k with
            | zero => simp
            | succ k => simpa using g3 k (by omega)
          · rcases g4 with g4 | g4
            · exact .inl (by simp [g4])
            · exact .inr (by simpa using g4)
        · rintro ⟨j, g1, g2, g3, g4⟩
          cases j with
          | zero =>
            rcases g4 with g4 | g4
            · simp at g4
            · simp at g4
          | succ j =>
            refine ⟨j, by simpa using g1, by simpa using g2, fun k hk => by simpa using g3 (k + 1) (by omega), ?_⟩
            rcases g4 with g4 | g4
            · exact .inl (by simpa using g4)
            · exact .inr (by simpa using g4)

theorem cmpI_lt_le {x y z : List Int} (h : cmpI x y < 0) (h' : cmpI y z ≤ 0) : cmpI x z < 0 := by
  have h1 := cmpI_trans x y z (by omega) h'
  by_cases h2 : cmpI x z = 0
  · have := cmpI_zero h2
    subst this
    have := cmpI_swap x y
    omega
  · omega
theorem cmpI_le_lt {x y z : List Int} (h : cmpI x y ≤ 0) (h' : cmpI y z < 0) : cmpI x z < 0 := by
  have h1 := cmpI_trans x y z h (by omega)
  by_cases h2 : cmpI x z = 0
  · have := cmpI_zero h2
    subst this
    have := cmpI_swap x y
    omega
  · omega
theorem cmpI_ge {x y : List Int} (h : ¬ cmpI x y < 0) : cmpI y x ≤ 0 := by
  have := cmpI_swap x y
  omega
theorem cmpI_app (p x y : List Int) : cmpI (p ++ x) (p ++ y) = cmpI x y := by
  induction p with
  | nil => rfl
  | cons a p ih => rw [List.cons_append, List.cons_append, cmpI, if_neg (by omega), if_neg (by omega), ih]
theorem cmpI_pre (x y : List Int) : cmpI x (x ++ y) ≤ 0 := by
  have h := cmpI_app x [] y
  rw [List.append_nil] at h
  rw [h]
  cases y <;> simp [cmpI]
theorem cmpI_pre_lt (x : List Int) {y : List Int} (hy : y ≠ []) : cmpI x (x ++ y) < 0 := by
  have h := cmpI_app x [] y
  rw [List.append_nil] at h
  rw [h]
  cases y with
  | nil => exact absurd rfl hy
  | cons b y => simp [cmpI]

theorem getD_left {x y : List Int} {k : Nat} (h : k < x.length) : (x ++ y).getD k 0 = x.getD k 0 := by
  simp only [List.getD_eq_getElem?_getD]
  rw [List.getElem?_append_left h]
theorem getD_right {x y : List Int} (k : Nat) : (x ++ y).getD (x.length + k) 0 = y.getD k 0 := by
  simp only [List.getD_eq_getElem?_getD]
  rw [List.getElem?_append_right (by omega)]
  congr 2; omega
theorem getD_drop (x : List Int) (i k : Nat) : (x.drop i).getD k 0 = x.getD (i + k) 0 := by
  simp only [List.getD_eq_getElem?_getD, List.getElem?_drop]
theorem getD_take {x : List Int} {n k : Nat} (h : k < n) : (x.take n).getD k 0 = x.getD k 0 := by
  simp only [List.getD_eq_getElem?_getD, List.getElem?_take]
  rw [if_pos h]

/-- Less than all its endings. -/
abbrev Lyn (s : List Int) : Prop := s.length ≠ 0 ∧ ∀ i, i < s.length → 1 ≤ i → cmpI s (s.drop i) < 0

def lynB (s : List Int) : Bool := decide (Lyn s)
theorem lynB_true {s : List Int} (h : Lyn s) : lynB s = true := decide_eq_true h
theorem lynB_false {s : List Int} (h : ¬ Lyn s) : lynB s = false := decide_eq_false h

/-- The first n of a row: less than all their endings, place by place. -/
def LynF (f : Nat → Int) (n : Nat) : Prop := 1 ≤ n ∧ ∀ i, 1 ≤ i → i < n → ∃ j, i + j < n ∧ (∀ k, k < j → f k = f (i + k)) ∧ f j < f (i + j)

theorem LynF.congr {f g : Nat → Int} {n : Nat} (h : LynF f n) (he : ∀ k, k < n → f k = g k) : LynF g n := by
  refine ⟨h.1, fun i h1 h2 => ?_⟩
  obtain ⟨j, g1, g2, g3⟩ := h.2 i h1 h2
  refine ⟨j, g1, fun k hk => ?_, ?_⟩
  · rw [← he k (by omega), ← he (i + k) (by omega)]; exact g2 k hk
  · rw [← he j (by omega), ← he (i + j) g1]; exact g3

theorem lyn_iff (s : List Int) : Lyn s ↔ LynF (fun k => s.getD k 0) s.length := by
  unfold Lyn LynF
  refine and_congr (by omega) ⟨fun h i h1 h2 => ?_, fun h i h2 h1 => ?_⟩
  · obtain ⟨j, g1, g2, g3, g4⟩ := (cmpI_neg _ _).1 (h i h2 h1)
    rw [List.length_drop] at g1
    refine ⟨j, by omega, fun k hk => ?_, ?_⟩
    · have := g3 k hk; rwa [getD_drop] at this
    · rcases g4 with g4 | g4
      · omega
      · rwa [getD_drop] at g4
  · obtain ⟨j, g1, g2, g3⟩ := h i h1 h2
    refine (cmpI_neg _ _).2 ⟨j, by rw [List.length_drop]; omega, by omega, fun k hk => ?_, .inr ?_⟩
    · rw [getD_drop]; exact g2 k hk
    · rw [getD_drop]; exact g3

theorem lyn_take {s : List Int} {n : Nat} (hn : n ≤ s.length) : Lyn (s.take n) ↔ LynF (fun k => s.getD k 0) n := by
  have hl : (s.take n).length = n := by simp; omega
  rw [lyn_iff, hl]
  exact ⟨fun h => h.congr fun k hk => getD_take hk, fun h => h.congr fun k hk => (getD_take hk).symm⟩

/-- The longest beginning that is one. -/
def downI (s : List Int) : Nat → Nat
  | 0 => 0
  | n + 1 => if Lyn (s.take (n + 1)) then n + 1 else downI s n
def longI (s : List Int) : Nat := downI s s.length
def facF : Nat → List Int → List Int
  | 0, _ => []
  | f + 1, s => if s.length = 0 then [] else (longI s : Int) :: facF f (s.drop (longI s))
/-- The lengths of the longest ones, one behind the other. -/
def facL (s : List Int) : List Int := facF s.length s

structure Long (s : List Int) (n : Nat) : Prop where
  pos : 1 ≤ n
  le : n ≤ s.length
  lyn : Lyn (s.take n)
  none : ∀ m, n < m → m ≤ s.length → ¬ Lyn (s.take m)

theorem Long.unique {s : List Int} {n m : Nat} (h : Long s n) (h' : Long s m) : n = m := by
  rcases Nat.lt_trichotomy n m with g | g | g
  · exact absurd h'.lyn (h.none m g h'.le)
  · exact g
  · exact absurd h.lyn (h'.none n g h.le)

theorem lyn_one {s : List Int} (h : s.length ≠ 0) : Lyn (s.take 1) := by
  rw [lyn_take (by omega)]
  exact ⟨Nat.le_refl _, fun i h1 h2 => by omega⟩

theorem downI_spec (s : List Int) : ∀ n, 1 ≤ n → n ≤ s.length → 1 ≤ downI s n ∧ downI s n ≤ n ∧ Lyn (s.take (downI s n)) ∧ ∀ m, downI s n < m → m ≤ n → ¬ Lyn (s.take m)
  | 0, h, _ => by omega
  | n + 1, _, hn => by
    unfold downI
    by_cases h : Lyn (s.take (n + 1))
    · rw [if_pos h]; exact ⟨by omega, Nat.le_refl _, h, fun m _ _ => by omega⟩
    · rw [if_neg h]
      by_cases h0 : n = 0
      · subst h0; exact absurd (lyn_one (by omega)) h
      · obtain ⟨h1, h2, h3, h4⟩ := downI_spec s n (by omega) (by omega)
        refine ⟨h1, by omega, h3, fun m g1 g2 => ?_⟩
        by_cases e : m = n + 1
        · subst e; exact h
        · exact h4 m g1 (by omega)
theorem longI_spec {s : List Int} (h : s.length ≠ 0) : Long s (longI s) := by
  obtain ⟨h1, h2, h3, h4⟩ := downI_spec s s.length (by omega) (Nat.le_refl _)
  exact ⟨h1, h2, h3, h4⟩
theorem longI_eq {s : List Int} {n : Nat} (h : Long s n) : longI s = n := (longI_spec (by have := h.pos; have := h.le; omega)).unique h
theorem lyn_longI {s : List Int} (h : s.length ≠ 0) : Lyn s ↔ longI s = s.length := by
  have hl := longI_spec h
  constructor
  · intro g
    refine longI_eq ⟨by omega, Nat.le_refl _, by rw [List.take_length]; exact g, fun m g1 g2 => by omega⟩
  · intro g
    have := hl.lyn
    rwa [g, List.take_length] at this

theorem facF_more : ∀ (f : Nat) (s : List Int), s.length ≤ f → facF f s = facF s.length s := by
  intro f
  induction f using Nat.strongRecOn with
  | ind f ih =>
    intro s hs
    cases f with
    | zero => have : s.length = 0 := by omega
              rw [this]
    | succ f =>
      by_cases h0 : s.length = 0
      · rw [h0]; simp [facF, h0]
      · have hl := longI_spec h0
        obtain ⟨m, hm⟩ : ∃ m, s.length = m + 1 := ⟨s.length - 1, by omega⟩
        have hp := hl.pos
        rw [hm]
        simp only [facF, if_neg h0]
        rw [ih f (by omega) (s.drop (longI s)) (by rw [List.length_drop]; omega), ih m (by omega) (s.drop (longI s)) (by rw [List.length_drop]; omega)]
theorem facL_nil {s : List Int} (h : s.length = 0) : facL s = [] := by
  unfold facL; rw [h]; rfl
theorem facL_cons {s : List Int} (h : s.length ≠ 0) : facL s = (longI s : Int) :: facL (s.drop (longI s)) := by
  have hp := (longI_spec h).pos
  obtain ⟨m, hm⟩ : ∃ m, s.length = m + 1 := ⟨s.length - 1, by omega⟩
  unfold facL
  rw [hm]
  simp only [facF, if_neg h]
  rw [facF_more m _ (by rw [List.length_drop]; omega)]
theorem facL_len : ∀ (n : Nat) (s : List Int), s.length ≤ n → (facL s).length ≤ s.length := by
  intro n
  induction n with
  | zero => intro s hs; rw [facL_nil (by omega)]; simp
  | succ n ih =>
    intro s hs
    by_cases h : s.length = 0
    · rw [facL_nil h]; simp
    · have hp := (longI_spec h).pos
      have hd : (s.drop (longI s)).length = s.length - longI s := List.length_drop
      rw [facL_cons h, List.length_cons]
      have := ih (s.drop (longI s)) (by omega)
      omega

/-- What the search keeps: the first e are the first L, which are less than all their endings, again and again, and a beginning of them. -/
structure Duv (s : List Int) (L e : Nat) : Prop where
  pos : 1 ≤ L
  le : L ≤ e
  len : e ≤ s.length
  lyn : LynF (fun k => s.getD k 0) L
  per : ∀ i, L ≤ i → i < e → s.getD i 0 = s.getD (i - L) 0

theorem Duv.start {s : List Int} (h : s.length ≠ 0) : Duv s 1 1 :=
  ⟨Nat.le_refl _, Nat.le_refl _, by omega, ⟨Nat.le_refl _, fun i h1 h2 => by omega⟩, fun i h1 h2 => by omega⟩
theorem Duv.same {s : List Int} {L e : Nat} (h : Duv s L e) (he : e < s.length) (hs : s.getD (e - L) 0 = s.getD e 0) : Duv s L (e + 1) := by
  refine ⟨h.pos, by have := h.le; omega, he, h.lyn, fun i h1 h2 => ?_⟩
  by_cases g : i = e
  · subst g; exact hs.symm
  · exact h.per i h1 (by omega)
theorem Duv.mod {s : List Int} {L e : Nat} (h : Duv s L e) : ∀ i, i < e → s.getD i 0 = s.getD (i % L) 0 := by
  intro i
  induction i using Nat.strongRecOn with
  | ind i ih =>
    intro hi
    by_cases g : i < L
    · rw [Nat.mod_eq_of_lt g]
    · have hp := h.pos
      rw [h.per i (by omega) hi, ih (i - L) (by omega) (by omega), Nat.mod_eq_sub_mod (by omega : L ≤ i)]
theorem Duv.grow {s : List Int} {L e : Nat} (h : Duv s L e) (he : e < s.length) (hs : s.getD (e - L) 0 < s.getD e 0) : Duv s (e + 1) (e + 1) := by
  have hp := h.pos
  have hle := h.le
  have hm : s.getD (e - L) 0 = s.getD (e % L) 0 := by rw [h.mod (e - L) (by omega), ← Nat.mod_eq_sub_mod (by omega : L ≤ e)]
  refine ⟨by omega, Nat.le_refl _, he, ⟨by omega, fun i h1 h2 => ?_⟩, fun i h1 h2 => by omega⟩
  show ∃ j, i + j < e + 1 ∧ (∀ k, k < j → s.getD k 0 = s.getD (i + k) 0) ∧ s.getD j 0 < s.getD (i + j) 0
  by_cases hr : i % L = 0
  · have hmm : ∀ k, (i + k) % L = k % L := fun k => by rw [Nat.add_mod, hr, Nat.zero_add, Nat.mod_mod]
    refine ⟨e - i, by omega, fun k hk => ?_, ?_⟩
    · rw [h.mod k (by omega), h.mod (i + k) (by omega), hmm]
    · have : (e - i) % L = e % L := by
        have := hmm (e - i)
        rw [show i + (e - i) = e by omega] at this
        exact this.symm
      rw [h.mod (e - i) (by omega), this, ← hm, show i + (e - i) = e by omega]
      exact hs
  · have hrl : i % L < L := Nat.mod_lt _ (by omega)
    obtain ⟨j, g1, g2, g3⟩ := h.lyn.2 (i % L) (by omega) hrl
    have g2 : ∀ k, k < j → s.getD k 0 = s.getD (i % L + k) 0 := g2
    have g3 : s.getD j 0 < s.getD (i % L + j) 0 := g3
    have hk : ∀ k, k ≤ j → (i + k) % L = i % L + k := fun k hk => by rw [Nat.add_mod, Nat.add_mod_mod, Nat.mod_eq_of_lt (by omega)]
    by_cases hij : i + j < e
    · refine ⟨j, by omega, fun k hkj => ?_, ?_⟩
      · rw [h.mod (i + k) (by omega), hk k (by omega)]; exact g2 k hkj
      · rw [h.mod (i + j) hij, hk j (Nat.le_refl _)]; exact g3
    · refine ⟨e - i, by omega, fun k hkj => ?_, ?_⟩
      · rw [h.mod (i + k) (by omega), hk k (by omega)]; exact g2 k (by omega)
      · have e1 := hk (e - i) (by omega)
        rw [show i + (e - i) = e by omega] at e1 ⊢
        have e2 : s.getD (e - i) 0 ≤ s.getD (i % L + (e - i)) 0 := by
          by_cases g : e - i = j
          · rw [g]; omega
          · have := g2 (e - i) (by omega); omega
        rw [← e1, ← hm] at e2
        omega

/-- Where it stops. -/
def Stop (s : List Int) (L e : Nat) : Prop := e = s.length ∨ (e < s.length ∧ s.getD e 0 < s.getD (e - L) 0)

theorem Duv.long {s : List Int} {L e : Nat} (h : Duv s L e) (hs : Stop s L e) : longI s = L := by
  have hp := h.pos
  have hle := h.le
  have hlen := h.len
  refine longI_eq ⟨hp, by omega, (lyn_take (by omega)).2 h.lyn, fun m h1 h2 hl => ?_⟩
  obtain ⟨j, g1, g2, g3⟩ := ((lyn_take h2).1 hl).2 L hp h1
  have g2 : ∀ k, k < j → s.getD k 0 = s.getD (L + k) 0 := g2
  have g3 : s.getD j 0 < s.getD (L + j) 0 := g3
  by_cases hj : L + j < e
  · have := h.per (L + j) (by omega) hj
    rw [show L + j - L = j by omega] at this
    omega
  · rcases hs with hs | ⟨_, hs⟩
    · omega
    · by_cases hj2 : L + j = e
      · rw [hj2] at g3
        rw [show e - L = j by omega] at hs
        omega
      · have := g2 (e - L) (by omega)
        rw [show L + (e - L) = e by omega] at this
        omega
theorem Duv.fac {L : Nat} : ∀ (t : Nat) (s : List Int) (e : Nat), Duv s L e → Stop s L e → e / L = t → facL s = List.replicate t (L : Int) ++ facL (s.drop (L * t)) := by
  intro t
  induction t with
  | zero =>
    intro s e h hs ht
    have hp := h.pos
    have hle := h.le
    have := Nat.div_pos hle (by omega)
    omega
  | succ t ih =>
    intro s e h hs ht
    have hp := h.pos
    have hle := h.le
    have hlen := h.len
    rw [facL_cons (by omega), h.long hs, List.replicate_succ, List.cons_append]
    congr 1
    by_cases h0 : t = 0
    · subst h0; simp
    · have ht2 : (e - L) / L = t := by have := Nat.div_eq_sub_div (show 0 < L by omega) hle; omega
      have h2 : L ≤ e - L := by
        rcases Nat.lt_or_ge (e - L) L with g | g
        · rw [Nat.div_eq_of_lt g] at ht2; omega
        · exact g
      have hl : (s.drop L).length = s.length - L := List.length_drop
      have hd : Duv (s.drop L) L (e - L) := by
        refine ⟨hp, h2, by omega, h.lyn.congr fun k hk => ?_, fun i h1 h3 => ?_⟩
        · show s.getD k 0 = (s.drop L).getD k 0
          rw [getD_drop, h.per (L + k) (by omega) (by omega)]
          congr 1; omega
        · rw [getD_drop, getD_drop, h.per (L + i) (by omega) (by omega)]
          congr 1; omega
      have hs2 : Stop (s.drop L) L (e - L) := by
        rcases hs with hs | ⟨hs1, hs⟩
        · exact .inl (by omega)
        · refine .inr ⟨by omega, ?_⟩
          rw [getD_drop, getD_drop, show L + (e - L) = e by omega, show L + (e - L - L) = e - L by omega]
          exact hs
      rw [ih (s.drop L) (e - L) hd hs2 ht2, List.drop_drop]
      congr 3
      rw [Nat.mul_succ, Nat.add_comm]

/-- Of two that are, the less one first, is one. -/
theorem lyn_join {u v : List Int} (hu : Lyn u) (hv : Lyn v) (h : cmpI u v < 0) : Lyn (u ++ v) := by
  have hul := hu.1
  have hvl := hv.1
  have hmid : cmpI (u ++ v) v < 0 := by
    obtain ⟨j, g1, g2, g3, g4⟩ := (cmpI_neg _ _).1 h
    by_cases hj : j < u.length
    · rcases g4 with g4 | g4
      · omega
      · refine (cmpI_neg _ _).2 ⟨j, g1, by rw [List.length_append]; omega, fun k hk => ?_, .inr ?_⟩
        · rw [getD_left (by omega)]; exact g3 k hk
        · rw [getD_left hj]; exact g4
    · have hj : j = u.length := by omega
      subst hj
      have hpre : v = u ++ v.drop u.length := by
        conv => lhs; rw [← List.take_append_drop u.length v]
        congr 1
        refine (getD_ext (by simp; omega) fun k hk => ?_).symm
        rw [getD_take hk]; exact g3 k hk
      conv => lhs; rhs; rw [hpre]
      rw [cmpI_app]
      exact hv.2 u.length g1 (by omega)
  refine ⟨by rw [List.length_append]; omega, fun i h1 h2 => ?_⟩
  rw [List.length_append] at h1
  rcases Nat.lt_trichotomy i u.length with g | g | g
  · obtain ⟨j, g1, g2, g3⟩ := ((lyn_iff u).1 hu).2 i h2 g
    refine (cmpI_neg _ _).2 ⟨j, by rw [List.length_drop, List.length_append]; omega, by rw [List.length_append]; omega, fun k hk => ?_, .inr ?_⟩
    · rw [getD_drop, getD_left (by omega), getD_left (by omega)]; exact g2 k hk
    · rw [getD_drop, getD_left (by omega), getD_left (by omega)]; exact g3
  · subst g
    rw [List.drop_left]
    exact hmid
  · have e : (u ++ v).drop i = v.drop (i - u.length) := by
      rw [List.drop_append]
      simp
      omega
    rw [e]
    exact cmpI_lt_le hmid (by have := hv.2 (i - u.length) (by omega) (by omega); omega)

/-- None is less than the next. -/
theorem falls {s : List Int} (h : s.length ≠ 0) (h' : (s.drop (longI s)).length ≠ 0) :
    ¬ cmpI (s.take (longI s)) ((s.drop (longI s)).take (longI (s.drop (longI s)))) < 0 := by
  intro hc
  have h1 := longI_spec h
  have h2 := longI_spec h'
  have hj := lyn_join h1.lyn h2.lyn hc
  have hl : (s.drop (longI s)).length = s.length - longI s := List.length_drop
  have hp := h2.pos
  have hle := h2.le
  have hle1 := h1.le
  refine h1.none (longI s + longI (s.drop (longI s))) (by omega) (by omega) ?_
  rw [List.take_add]
  exact hj

theorem long_pair {u v : List Int} (hu : Lyn u) (hv : Lyn v) (h : ¬ cmpI u v < 0) : longI (u ++ v) = u.length := by
  have hul := hu.1
  refine longI_eq ⟨by omega, by rw [List.length_append]; omega, by rw [List.take_left]; exact hu, fun m h1 h2 hl => ?_⟩
  rw [List.length_append] at h2
  have e1 : (u ++ v).take m = u ++ v.take (m - u.length) := by
    rw [List.take_append, List.take_of_length_le (by omega)]
  rw [e1] at hl
  have hz : v.take (m - u.length) ≠ [] := by
    intro g
    have := congrArg List.length g
    rw [List.length_take, List.length_nil] at this
    omega
  have a1 : cmpI (u ++ v.take (m - u.length)) (v.take (m - u.length)) < 0 := by
    have := hl.2 u.length (by rw [List.length_append, List.length_take]; omega) (by omega)
    rwa [List.drop_left] at this
  have a2 : cmpI (v.take (m - u.length)) v ≤ 0 := by
    have := cmpI_pre (v.take (m - u.length)) (v.drop (m - u.length))
    rwa [List.take_append_drop] at this
  have a3 := cmpI_ge h
  have a4 := cmpI_pre_lt u hz
  have a5 := cmpI_lt_le (cmpI_lt_le (cmpI_lt_le a1 a2) a3) (by omega : cmpI u (u ++ v.take (m - u.length)) ≤ 0)
  rw [cmpI_self] at a5
  omega

theorem facL_lyn {s : List Int} (h : Lyn s) : facL s = [(s.length : Int)] := by
  rw [facL_cons h.1, (lyn_longI h.1).1 h, List.drop_length]
  rfl
theorem facL_pair {u v : List Int} (hu : Lyn u) (hv : Lyn v) (h : ¬ cmpI u v < 0) : facL (u ++ v) = [(u.length : Int), (v.length : Int)] := by
  rw [facL_cons (by rw [List.length_append]; have := hu.1; omega), long_pair hu hv h, List.drop_left, facL_lyn hv]
theorem lyn_pair {u v : List Int} (hu : Lyn u) (hv : Lyn v) : Lyn (u ++ v) ↔ cmpI u v < 0 := by
  refine ⟨fun h => ?_, lyn_join hu hv⟩
  refine Classical.byContradiction fun g => ?_
  have h1 := long_pair hu hv g
  rw [(lyn_longI h.1).1 h, List.length_append] at h1
  have := hv.1
  omega
theorem facL_join {u v : List Int} (hu : Lyn u) (hv : Lyn v) : (facL (u ++ v)).length = if cmpI u v < 0 then 1 else 2 := by
  by_cases h : cmpI u v < 0
  · rw [if_pos h, facL_lyn (lyn_join hu hv h)]; rfl
  · rw [if_neg h, facL_pair hu hv h]; rfl

/-- Again and again. -/
theorem facL_rep {x : List Int} {n : Nat} (hx : x.length ≠ 0) (hn : 1 ≤ n) : facL (repI x n) = List.replicate n (x.length : Int) ↔ Lyn x := by
  have hN := repI_len x n
  have hge : x.length ≤ n * x.length := Nat.le_mul_of_pos_left _ (by omega)
  have htk : (repI x n).take x.length = x := by
    refine getD_ext (by simp; omega) fun k hk => ?_
    have hk' : k < x.length := by simp at hk; omega
    rw [getD_take hk', repI_at x n k (by omega), Nat.mod_eq_of_lt hk']
  constructor
  · intro h
    obtain ⟨m, rfl⟩ : ∃ m, n = m + 1 := ⟨n - 1, by omega⟩
    rw [facL_cons (by omega), List.replicate_succ] at h
    have hh := (List.cons.inj h).1
    have := (longI_spec (s := repI x (m + 1)) (by omega)).lyn
    rw [show longI (repI x (m + 1)) = x.length by omega, htk] at this
    exact this
  · intro h
    have hd : Duv (repI x n) x.length (n * x.length) := by
      refine ⟨by omega, hge, by omega, (lyn_take (by omega)).1 (by rw [htk]; exact h), fun i h1 h2 => ?_⟩
      rw [repI_at x n i h2, repI_at x n (i - x.length) (by omega), ← Nat.mod_eq_sub_mod h1]
    have := Duv.fac n _ _ hd (.inl hN.symm) (Nat.mul_div_cancel _ (by omega))
    rw [this, List.drop_of_length_le (by rw [hN, Nat.mul_comm]; omega)]
    simp [facL, facF]

theorem ab_lyn : Lyn [97, 98] := by decide
theorem aa_lyn : ¬ Lyn [97, 97] := by decide
theorem nil_lyn : ¬ Lyn [] := by decide
theorem banana_fac : facL [98, 97, 110, 97, 110, 97] = [1, 2, 2, 1] := by decide
end Go.Proofs.YtlmbdafilboblaaGreat

/- Contracts of lyndon.leading and lyndon.Factors. -/
namespace Go.Proofs.YtlmbdafilboblaaGreat
set_option linter.unusedVariables false
set_option linter.unusedSimpArgs false
open Go.RowKit

/-- The first factor, and how many times in a row. -/
structure Lead (zs : List Int) (L t : Nat) : Prop where
  pos : 1 ≤ L
  times : 1 ≤ t
  le : L * t ≤ zs.length
  long : longI zs = L
  fac : facL zs = List.replicate t (L : Int) ++ facL (zs.drop (L * t))

theorem Duv.lead {s : List Int} {L e : Nat} (h : Duv s L e) (hs : Stop s L e) : Lead s L (e / L) := by
  have hp := h.pos
  have hle := h.le
  refine ⟨hp, Nat.div_pos hle (by omega), ?_, h.long hs, Duv.fac _ s e h hs rfl⟩
  exact Nat.le_trans (Nat.mul_div_le e L) h.len

set_option maxHeartbeats 400000 in
theorem leading_any (v : Value) (zs : List Int) (w : World) (hs : Sl .u8 w v zs) (h0 : zs.length ≠ 0) (hlen : zs.length ≤ 1000000) :
    Calls Tryz.prog 44 #[v] w fun e w' => ∃ L t : Nat, e = .returned (.tuple #[.int .i64 (L : Int), .int .i64 (t : Int)]) ∧ Lead zs L t ∧ ∃ m, w' = w.drewN m := by
  have hne : zs ≠ [] := fun h => by rw [h] at h0; simp at h0
  have HV := hide' hs
  obtain ⟨a, c, rfl, _⟩ := hs
  obtain ⟨n, hn⟩ : ∃ n, zs.length = n := ⟨_, rfl⟩
  rw [hn] at HV h0 hlen ⊢
  have HL := hide' hn
  obtain ⟨_, b1, o1, rfl, c1⟩ := HV.out.at hne
  have C1 := hide' c1
  clear c1 hne hn HV
  go_enter Tryz.func44, Tryz.ntmps44
  go_wp2
  go_loopw [2, 4] (fun vl ve wr => ∃ (L e : Nat), 1 ≤ L ∧ L ≤ e ∧ e ≤ n ∧ vl = .int .i64 L ∧ ve = .int .i64 e ∧ Hid (Duv zs L e) ∧ ∃ m, wr = w.drewN m) (fun _ ve _ => n - (intOf ve).toNat)
  case atStart => exact ⟨1, 1, Nat.le_refl _, Nat.le_refl _, by omega, rfl, rfl, (show Duv _ _ _ from Duv.start (by rw [HL.out]; exact h0)), 0, rfl⟩
  case round =>
    obtain ⟨L, e, hL, hLe, hen, rfl, rfl, HD, m, rfl⟩ := hrel
    by_cases hlt : e < n
    · have hlt' : (e : Int) < n := by omega
      have hsub : (e : Int) - (L : Int) = ((e - L : Nat) : Int) := by omega
      have ce := C1.out e hlt
      have cj := C1.out (e - L) (by omega)
      obtain ⟨p, HP⟩ : ∃ p, Hid (zs.getD (e - L) 0 = p) := ⟨_, rfl⟩
      obtain ⟨q, HQ⟩ : ∃ q, Hid (zs.getD e 0 = q) := ⟨_, rfl⟩
      rw [HP.out] at cj
      rw [HQ.out] at ce
      obtain ⟨J, hJ⟩ : ∃ j, e - L = j := ⟨_, rfl⟩
      rw [hJ] at hsub cj
      have hJn : (J : Int) < n := by omega
      by_cases hpq : p ≤ q
      · by_cases hpq2 : p < q
        · have HD2 : Hid (Duv zs (e + 1) (e + 1)) := HD.out.grow (by rw [HL.out]; exact hlt) (by rw [HP.out, HQ.out]; exact hpq2)
          go_wp2_with fail
          go_quiet (fail)
          go_wp2_with fail
          go_quiet (fail)
          go_wp2
          go_roundw
          case rel => exact ⟨e + 1, e + 1, by omega, Nat.le_refl _, by omega, by go_num, by go_num, HD2, _, by first | rfl | rw [World.drewN_drewN, World.drewN_drewN] | rw [World.drewN_drewN]⟩
          case measure => simp [intOf]; omega
        · have HD2 : Hid (Duv zs L (e + 1)) := HD.out.same (by rw [HL.out]; exact hlt) (by rw [HP.out, HQ.out]; omega)
          have d2 : decide (p < q) = false := by simpa using hpq2
          go_wp2_with fail
          go_quiet (fail)
          go_wp2_with fail
          go_quiet (fail)
          go_wp2
          go_roundw
          case rel => exact ⟨L, e + 1, hL, by omega, by omega, rfl, by go_num, HD2, _, by first | rfl | rw [World.drewN_drewN, World.drewN_drewN] | rw [World.drewN_drewN]⟩
          case measure => simp [intOf]; omega
      · have d1 : decide (p ≤ q) = false := by simpa using hpq
        have HLd : Hid (Lead zs L (e / L)) := HD.out.lead (.inr ⟨by rw [HL.out]; exact hlt, by rw [HP.out, HQ.out]; omega⟩)
        have hd1 : (e : Int).tdiv (L : Int) = ((e / L : Nat) : Int) := by rw [Int.tdiv_eq_ediv_of_nonneg (by omega)]; simp
        have hd2 : (e : Int) / (L : Int) = ((e / L : Nat) : Int) := by simp
        have hdl : e / L ≤ e := Nat.div_le_self _ _
        obtain ⟨t, HT⟩ : ∃ t, Hid (e / L = t) := ⟨_, rfl⟩
        rw [HT.out] at hd1 hd2 hdl HLd
        have lne : (L : Int) ≠ 0 := by omega
        have lq : ((L : Int) == 0) = false := by simpa using lne
        go_wp2_with fail
        go_quiet (fail)
        go_wp2_with fail
        go_quiet (fail)
        go_wp2
        go_ret2
        exact ⟨L, t, rfl, HLd.out, _, by first | rfl | rw [World.drewN_drewN, World.drewN_drewN] | rw [World.drewN_drewN]⟩
    · have hlt' : decide ((e : Int) < n) = false := by simp; omega
      have HLd : Hid (Lead zs L (e / L)) := HD.out.lead (.inl (by rw [HL.out]; omega))
      have hd1 : (e : Int).tdiv (L : Int) = ((e / L : Nat) : Int) := by rw [Int.tdiv_eq_ediv_of_nonneg (by omega)]; simp
      have hd2 : (e : Int) / (L : Int) = ((e / L : Nat) : Int) := by simp
      have hdl : e / L ≤ e := Nat.div_le_self _ _
      obtain ⟨t, HT⟩ : ∃ t, Hid (e / L = t) := ⟨_, rfl⟩
      rw [HT.out] at hd1 hd2 hdl HLd
      have lne : (L : Int) ≠ 0 := by omega
      have lq : ((L : Int) == 0) = false := by simpa using lne
      go_wp2_with fail
      go_quiet (fail)
      go_wp2_with fail
      go_quiet (fail)
      go_wp2
      go_ret2
      exact ⟨L, t, rfl, HLd.out, _, by first | rfl | rw [World.drewN_drewN, World.drewN_drewN] | rw [World.drewN_drewN]⟩

set_option maxHeartbeats 800000 in
theorem factors_any (v : Value) (zs : List Int) (w : World) (hs : Sl .u8 w v zs) (hlen : zs.length ≤ 1000000) :
    Calls Tryz.prog 31 #[v] w fun e w' => ∃ s, e = .returned s ∧ Own .i64 3 w.heap.size w' s (facL zs) ∧ Ext w w' := by
  have HS := hide' hs
  have HLN : Hid ((facL zs).length ≤ 1000000) := Nat.le_trans (facL_len _ zs (Nat.le_refl _)) hlen
  obtain ⟨N, HN⟩ : ∃ n, Hid (zs.length = n) := ⟨_, rfl⟩
  rw [HN.out] at hlen
  clear hs
  go_enter Tryz.func31, Tryz.ntmps31
  go_wp2
  go_loopw [0, 3] (fun vs vo wr => ∃ (k : Nat) (out : List Int), k ≤ N ∧ Hid (Sl .u8 w vs (zs.drop k)) ∧ Hid (Own .i64 3 w.heap.size wr vo out) ∧ Hid (out ++ facL (zs.drop k) = facL zs) ∧ Hid (Ext w wr)) (fun vs _ _ => match vs with | .slice _ n _ => n | _ => 0)
  case atStart => exact ⟨0, [], Nat.zero_le _, HS, Own.nil _ _ _ _, (show _ = _ by simp), Ext.refl _⟩
  case round =>
    obtain ⟨k, out, hk, HV, HO, HF, HE⟩ := hrel
    have hv := HV.out
    obtain ⟨a, c, rfl, _⟩ := hv
    have hdl : (zs.drop k).length + k ≤ N := by rw [List.length_drop, HN.out]; omega
    obtain ⟨n, hn⟩ : ∃ n, (zs.drop k).length = n := ⟨_, rfl⟩
    have HnL := hide' hn
    rw [hn] at HV hdl ⊢
    clear hn
    by_cases h0 : n = 0
    · subst h0
      have HR : Hid (out = facL zs) := by
        show _ = _
        rw [← HF.out, facL_nil HnL.out, List.append_nil]
      go_wp2
      go_ret
      exact ⟨_, rfl, by rw [← HR.out]; exact HO.out, HE.out⟩
    · have hn0 : (0 : Int) < n := by omega
      have hn0' : 0 < n := by omega
      go_wp2_with fail
      refine (leading_any _ (zs.drop k) wr (HV.out.ext HE.out) (by rw [HnL.out]; exact h0) (by rw [HnL.out]; omega)).mono ?_
      rintro e w1 ⟨L, t, rfl, hl, m, rfl⟩
      have hL := hl.pos
      have ht := hl.times
      have hM := hl.le
      rw [HnL.out] at hM
      have HFC := hide' hl.fac
      clear hl
      have hmul : (L : Int) * (t : Int) = ((L * t : Nat) : Int) := by simp
      have hLM : L ≤ L * t := Nat.le_mul_of_pos_right _ (by omega)
      have htM : t ≤ L * t := Nat.le_mul_of_pos_left _ (by omega)
      obtain ⟨M, HM⟩ : ∃ M, Hid (L * t = M) := ⟨_, rfl⟩
      rw [HM.out] at hM hmul hLM htM HFC
      have HF2 : Hid (out ++ List.replicate t (L : Int) ++ facL (zs.drop (k + M)) = facL zs) := by
        show _ = _
        rw [← HF.out, HFC.out, List.drop_drop, List.append_assoc]
      have HOL : Hid (out.length + t ≤ 1000000) := by
        have h1 := congrArg List.length HF2.out
        have h2 := HLN.out
        simp only [List.length_append, List.length_replicate] at h1
        show _ ≤ _
        omega
      obtain ⟨a1, t1, s1, _⟩ := HV.out.runDrop (P := Tryz.prog) 22 5 Tryz.underlying22 size8 M (by rw [HnL.out]; exact hM)
      rw [List.drop_drop] at s1
      have S1 := hide' s1
      clear s1
      obtain ⟨n2, hn2⟩ : ∃ n2, n - M = n2 := ⟨_, rfl⟩
      rw [hn2] at t1 S1
      obtain ⟨c2, hc2⟩ : ∃ c2, c - M = c2 := ⟨_, rfl⟩
      rw [hc2] at t1 S1
      have hn2' : n2 < n := by omega
      clear hn2 hc2
      have HEr := hide' (HE.out.trans (Ext.drewN wr m))
      have HOr : Hid (Own .i64 3 w.heap.size (wr.drewN m) u3 out) := HO.out.ext (Ext.drewN _ _)
      go_wp2
      go_loopw [3, 15] (fun vo vi wi => ∃ (i : Nat) (xs : List Int), i ≤ t ∧ vi = .int .i64 i ∧ Hid (Own .i64 3 w.heap.size wi vo xs) ∧ Hid (xs = out ++ List.replicate i (L : Int)) ∧ Hid (Ext w wi)) (fun _ vi _ => t - (intOf vi).toNat)
      case atStart => exact ⟨0, out, Nat.zero_le _, rfl, HOr, (show _ = _ by rw [List.replicate_zero, List.append_nil]), HEr⟩
      case round =>
        obtain ⟨i, xs, hi, rfl, HOi, HXi, HEi⟩ := hrel
        by_cases hlt : i < t
        · have hlt' : (i : Int) < t := by omega
          have hsz := HEi.out.size
          have hol : Hid (xs.length + 1 ≤ 1000000) := by
            have := HOL.out
            show _ ≤ _
            rw [HXi.out]
            simp only [List.length_append, List.length_replicate]
            omega
          go_wp2_with (at_builtin; refine wpList_snoc _ rfl _ _ 32 rfl 3 .i64 8 Tryz.underlying32 infoI64 w.heap.size _ xs (L : Int) ⟨wr.heap.size, 0, none⟩ rfl rfl ?c4 (HOi.out.alloc _) ?c3 ?c5 ?_)
          case c4 => simp only [World.cell?, heap_alloc_top]; simp
          case c3 => have := hol.out; unfold maxLen; omega
          case c5 => simp; omega
          intro v1 w1 ho1 hb1
          have HX1 : Hid (xs ++ [(L : Int)] = out ++ List.replicate (i + 1) (L : Int)) := by
            show _ = _
            rw [HXi.out, List.append_assoc, ← List.replicate_succ']
          have HO1 := hide' ho1
          have HE1 : Hid (Ext w w1) := Below.trans (HEi.out.trans (ext_alloc _ _)) hb1
          clear ho1 hb1
          go_wp2
          go_roundw
          case rel => exact ⟨i + 1, _, by omega, by go_num, HO1, HX1, HE1⟩
          case measure => simp [intOf]; omega
        · have hlt' : decide ((i : Int) < t) = false := by simp; omega
          have hit : i = t := by omega
          subst hit
          rw [HXi.out] at HOi
          go_wp2
          go_roundw
          case rel => exact ⟨k + M, _, by omega, S1, HOi, HF2, HEi⟩
          case measure => exact hn2'
end Go.Proofs.YtlmbdafilboblaaGreat

/- Words that are less than all their endings, none less than the next: one behind the other they are just the factors. Plain numbers, no conditions. -/
namespace Go.Proofs.YtlmbdafilboblaaGreat
set_option linter.unusedVariables false
set_option linter.unusedSimpArgs false

/-- A row cut by lengths. -/
def cutFac : List Int → List Int → List (List Int)
  | [], _ => []
  | n :: l, s => s.take n.toNat :: cutFac l (s.drop n.toNat)
/-- The factors, as words. -/
def facW (s : List Int) : List (List Int) := cutFac (facL s) s
theorem facW_nil : facW [] = [] := by unfold facW; rw [facL_nil rfl]; rfl
theorem facW_cons {s : List Int} (h : s.length ≠ 0) : facW s = s.take (longI s) :: facW (s.drop (longI s)) := by
  unfold facW
  rw [facL_cons h]
  show s.take ((longI s : Int)).toNat :: cutFac _ (s.drop ((longI s : Int)).toNat) = _
  rw [Int.toNat_natCast]
/-- What begins within words that are at most u has an ending that is at most u. -/
theorem end_le {u : List Int} : ∀ {ws : List (List Int)}, (∀ w ∈ ws, cmpI w u ≤ 0) → ∀ m, 0 < m → m ≤ ws.flatten.length → ∃ i, i < m ∧ cmpI ((ws.flatten.take m).drop i) u ≤ 0 := by
  intro ws
  induction ws with
  | nil => intro _ m h1 h2; simp at h2; omega
  | cons w ws ih =>
    intro hw m h1 h2
    rw [List.flatten_cons] at h2 ⊢
    rcases Nat.lt_or_ge w.length m with g | g
    · rw [List.length_append] at h2
      obtain ⟨i, h3, h4⟩ := ih (fun x hx => hw x (List.mem_cons_of_mem _ hx)) (m - w.length) (by omega) (by omega)
      refine ⟨w.length + i, by omega, ?_⟩
      rw [List.take_append, List.take_of_length_le (by omega), List.drop_append, List.drop_of_length_le (by omega), List.nil_append, Nat.add_sub_cancel_left]
      exact h4
    · refine ⟨0, h1, ?_⟩
      rw [List.drop_zero, List.take_append_of_le_length g]
      have h3 := cmpI_pre (w.take m) (w.drop m)
      rw [List.take_append_drop] at h3
      exact cmpI_trans _ _ _ h3 (hw w List.mem_cons_self)
theorem long_words {u : List Int} {ws : List (List Int)} (hu : Lyn u) (hw : ∀ w ∈ ws, cmpI w u ≤ 0) : longI (u ++ ws.flatten) = u.length := by
  have hul := hu.1
  refine longI_eq ⟨by omega, by rw [List.length_append]; omega, by rw [List.take_append_of_le_length (Nat.le_refl _), List.take_length]; exact hu, fun m h1 h2 hl => ?_⟩
  rw [List.length_append] at h2
  obtain ⟨i, h3, h4⟩ := end_le hw (m - u.length) (by omega) (by omega)
  have e : (u ++ ws.flatten).take m = u ++ ws.flatten.take (m - u.length) := by rw [List.take_append, List.take_of_length_le (by omega)]
  rw [e] at hl
  have hlen : (u ++ ws.flatten.take (m - u.length)).length = m := by
    rw [List.length_append, List.length_take]
    omega
  have h5 := hl.2 (u.length + i) (by rw [hlen]; omega) (by omega)
  rw [List.drop_append, List.drop_of_length_le (by omega), List.nil_append, Nat.add_sub_cancel_left] at h5
  have h6 := cmpI_trans _ _ _ h4 (cmpI_pre u (ws.flatten.take (m - u.length)))
  rw [cmpI_swap] at h6
  omega
/-- There is just one such row of words. -/
theorem fac_unique : ∀ {ws : List (List Int)}, (∀ w ∈ ws, Lyn w) → ws.Pairwise (fun u v => ¬ cmpI u v < 0) → facW ws.flatten = ws := by
  intro ws
  induction ws with
  | nil => intro _ _; exact facW_nil
  | cons u ws ih =>
    intro hl hp
    rw [List.pairwise_cons] at hp
    have hu := hl u List.mem_cons_self
    have hlong := long_words hu fun w hw => cmpI_ge (hp.1 w hw)
    rw [List.flatten_cons, facW_cons (by rw [List.length_append]; have := hu.1; omega), hlong, List.take_append_of_le_length (Nat.le_refl _), List.take_length]
    rw [List.drop_append, List.drop_of_length_le (Nat.le_refl _), Nat.sub_self, List.drop_zero, List.nil_append]
    rw [ih (fun w hw => hl w (List.mem_cons_of_mem _ hw)) hp.2]
/-- Together the factors are the text. -/
theorem facW_flat : ∀ (n : Nat) (s : List Int), s.length ≤ n → (facW s).flatten = s ∧ ∀ w ∈ facW s, Lyn w := by
  intro n
  induction n with
  | zero =>
    intro s hs
    have : s = [] := List.length_eq_zero_iff.1 (by omega)
    subst this
    rw [facW_nil]
    simp
  | succ n ih =>
    intro s hs
    by_cases h : s.length = 0
    · have : s = [] := List.length_eq_zero_iff.1 h
      subst this
      rw [facW_nil]
      simp
    · have hl := longI_spec h
      have hp := hl.pos
      obtain ⟨h1, h2⟩ := ih (s.drop (longI s)) (by rw [List.length_drop]; omega)
      rw [facW_cons h, List.flatten_cons, h1, List.take_append_drop]
      refine ⟨rfl, fun w hw => ?_⟩
      rcases List.mem_cons.1 hw with g | g
      · rw [g]; exact hl.lyn
      · exact h2 w g
end Go.Proofs.YtlmbdafilboblaaGreat

/- Borders, periods and roots of a row of numbers. Plain numbers, no conditions. -/
namespace Go.Proofs.YtlmbdafilboblaaGreat
set_option linter.unusedVariables false
set_option linter.unusedSimpArgs false

/-- Among the first n of s each is the one d behind it. -/
def Per (s : List Int) (n d : Nat) : Prop := ∀ i, i + d < n → s.getD i 0 = s.getD (i + d) 0
/-- The first k of s are also the last of its first n. -/
def Bord (s : List Int) (n k : Nat) : Prop := k < n ∧ Per s n (n - k)
/-- The longest such. -/
def Bor (s : List Int) (n b : Nat) : Prop := Bord s n b ∧ ∀ k, Bord s n k → k ≤ b

def bdown (s : List Int) (n : Nat) : Nat → Nat
  | 0 => 0
  | k + 1 => if s.take (k + 1) = (s.take n).drop (n - (k + 1)) then k + 1 else bdown s n k
def borI (s : List Int) (n : Nat) : Nat := bdown s n (n - 1)

theorem cut_getD (s : List Int) (n m k j : Nat) (hj : j < k) (hm : m + k = n) : ((s.take n).drop m).getD j 0 = s.getD (m + j) 0 := by
  simp only [List.getD_eq_getElem?_getD, List.getElem?_drop, List.getElem?_take]
  rw [if_pos (by omega)]
theorem take_getD (s : List Int) (k j : Nat) (hj : j < k) : (s.take k).getD j 0 = s.getD j 0 := by
  simp only [List.getD_eq_getElem?_getD, List.getElem?_take]
  rw [if_pos hj]
theorem bord_iff {s : List Int} {n k : Nat} (hk : k ≤ n) (hn : n ≤ s.length) : s.take k = (s.take n).drop (n - k) ↔ Per s n (n - k) := by
  constructor
  · intro h i hi
    have h1 : (s.take k).getD i 0 = ((s.take n).drop (n - k)).getD i 0 := congrArg (fun l => l.getD i 0) h
    rw [take_getD _ _ _ (by omega), cut_getD s n (n - k) k i (by omega) (by omega)] at h1
    rw [h1, Nat.add_comm]
  · intro h
    refine getD_ext (by simp; omega) fun i hi => ?_
    have hi' : i < k := by simp at hi; omega
    rw [take_getD _ _ _ hi', cut_getD s n (n - k) k i hi' (by omega), h i (by omega), Nat.add_comm]

theorem bdown_spec (s : List Int) (n : Nat) (hn : n ≤ s.length) : ∀ m, m < n → Bord s n (bdown s n m) ∧ ∀ k, k ≤ m → Bord s n k → k ≤ bdown s n m := by
  intro m
  induction m with
  | zero => intro hm; exact ⟨⟨hm, fun i hi => by simp only [bdown] at hi; omega⟩, fun k hk _ => hk⟩
  | succ m ih =>
    intro hm
    unfold bdown
    by_cases h : s.take (m + 1) = (s.take n).drop (n - (m + 1))
    · rw [if_pos h]
      exact ⟨⟨hm, (bord_iff (by omega) hn).1 h⟩, fun k hk _ => hk⟩
    · rw [if_neg h]
      obtain ⟨h1, h2⟩ := ih (by omega)
      refine ⟨h1, fun k hk hb => ?_⟩
      by_cases hkm : k = m + 1
      · subst hkm
        exact absurd ((bord_iff (by omega) hn).2 hb.2) h
      · exact h2 k (by omega) hb

theorem borI_spec {s : List Int} {n : Nat} (h0 : 0 < n) (hn : n ≤ s.length) : Bor s n (borI s n) := by
  obtain ⟨h1, h2⟩ := bdown_spec s n hn (n - 1) (by omega)
  exact ⟨h1, fun k hk => h2 k (by have := hk.1; omega) hk⟩
theorem borI_eq {s : List Int} {n b : Nat} (hn : n ≤ s.length) (h : Bor s n b) : borI s n = b := by
  have h1 := borI_spec (s := s) (n := n) (by have := h.1.1; omega) hn
  have := h1.2 b h.1
  have := h.2 _ h1.1
  omega
theorem borI_lt {s : List Int} {n : Nat} (h0 : 0 < n) (hn : n ≤ s.length) : borI s n < n := (borI_spec h0 hn).1.1

/-- What the search for the next border keeps. -/
def Srch (s : List Int) (i n : Nat) : Prop := Bord s i n ∧ ∀ k, n < k → Bord s i k → s.getD k 0 ≠ s.getD i 0

theorem Srch.start {s : List Int} {i : Nat} (h0 : 0 < i) (hi : i ≤ s.length) : Srch s i (borI s i) := by
  have h := borI_spec h0 hi
  exact ⟨h.1, fun k hk hb => by have := h.2 k hb; omega⟩
theorem Bord.trans {s : List Int} {i n m : Nat} (h : Bord s i n) (k : Bord s n m) : Bord s i m := by
  obtain ⟨h1, h2⟩ := h
  obtain ⟨k1, k2⟩ := k
  refine ⟨by omega, fun j hj => ?_⟩
  rw [k2 j (by omega), h2 (j + (n - m)) (by omega)]
  congr 1
  omega
theorem Bord.inner {s : List Int} {i n m : Nat} (h : Bord s i n) (k : Bord s i m) (hm : m < n) : Bord s n m := by
  obtain ⟨h1, h2⟩ := h
  obtain ⟨k1, k2⟩ := k
  refine ⟨hm, fun j hj => ?_⟩
  rw [k2 j (by omega), h2 (j + (n - m)) (by omega)]
  congr 1
  omega
theorem Srch.down {s : List Int} {i n : Nat} (hi : i ≤ s.length) (h : Srch s i n) (h0 : 0 < n) (hne : s.getD n 0 ≠ s.getD i 0) : Srch s i (borI s n) := by
  have hn : n < i := h.1.1
  have hb := borI_spec (s := s) h0 (by omega)
  refine ⟨h.1.trans hb.1, fun k hk hk2 => ?_⟩
  by_cases h1 : k = n
  · subst h1; exact hne
  · by_cases h2 : n < k
    · exact h.2 k h2 hk2
    · have := hb.2 k (h.1.inner hk2 (by omega))
      omega
theorem Bord.longer {s : List Int} {i n : Nat} (h : Bord s i n) (he : s.getD n 0 = s.getD i 0) : Bord s (i + 1) (n + 1) := by
  obtain ⟨h1, h2⟩ := h
  refine ⟨by omega, fun j hj => ?_⟩
  by_cases hjn : j = n
  · subst hjn
    rw [he]
    congr 1
    omega
  · rw [h2 j (by omega)]
    congr 1
    omega
theorem Bord.shorter {s : List Int} {i n : Nat} (h : Bord s (i + 1) (n + 1)) : Bord s i n ∧ s.getD n 0 = s.getD i 0 := by
  obtain ⟨h1, h2⟩ := h
  refine ⟨⟨by omega, fun j hj => ?_⟩, ?_⟩
  · rw [h2 j (by omega)]
    congr 1
    omega
  · rw [h2 n (by omega)]
    congr 1
    omega
theorem Srch.found {s : List Int} {i n : Nat} (hi : i < s.length) (h : Srch s i n) (he : s.getD n 0 = s.getD i 0) : borI s (i + 1) = n + 1 := by
  refine borI_eq (by omega) ⟨h.1.longer he, fun k hk => ?_⟩
  cases k with
  | zero => omega
  | succ k =>
    obtain ⟨h1, h2⟩ := hk.shorter
    by_cases hkn : n < k
    · exact absurd h2 (h.2 k hkn h1)
    · omega
theorem Srch.none {s : List Int} {i : Nat} (hi : i < s.length) (h : Srch s i 0) (he : s.getD 0 0 ≠ s.getD i 0) : borI s (i + 1) = 0 := by
  refine borI_eq (by omega) ⟨⟨by omega, fun j hj => by omega⟩, fun k hk => ?_⟩
  cases k with
  | zero => omega
  | succ k =>
    obtain ⟨h1, h2⟩ := hk.shorter
    by_cases hkn : k = 0
    · subst hkn; exact absurd h2 he
    · exact absurd h2 (h.2 k (by omega) h1)

/-- All borders. -/
def borsL (s : List Int) : List Int := (List.range s.length).map fun i => (borI s (i + 1) : Int)
theorem borsL_len (s : List Int) : (borsL s).length = s.length := by simp [borsL]
theorem borsL_at {s : List Int} {i : Nat} (hi : i < s.length) : (borsL s).getD i 0 = (borI s (i + 1) : Int) := by
  simp [borsL, List.getD, List.getElem?_eq_getElem, hi]

/-- The least period. -/
def leastI (s : List Int) : Nat := s.length - borI s s.length
theorem leastI_spec {s : List Int} (h : 0 < s.length) : 1 ≤ leastI s ∧ leastI s ≤ s.length ∧ Per s s.length (leastI s) ∧ ∀ d, 1 ≤ d → Per s s.length d → leastI s ≤ d := by
  obtain ⟨h1, h2⟩ := borI_spec (s := s) h (Nat.le_refl _)
  have := h1.1
  unfold leastI
  refine ⟨by omega, by omega, h1.2, fun d hd hp => ?_⟩
  by_cases hdl : d ≤ s.length
  · have := h2 (s.length - d) ⟨by omega, by rwa [show s.length - (s.length - d) = d by omega]⟩
    omega
  · omega
theorem leastI_eq {s : List Int} {p : Nat} (h : 0 < s.length) (h1 : 1 ≤ p) (h2 : Per s s.length p) (h3 : ∀ d, 1 ≤ d → d < p → ¬ Per s s.length d) : leastI s = p := by
  obtain ⟨a1, a2, a3, a4⟩ := leastI_spec h
  have := a4 p h1 h2
  by_cases hlt : leastI s < p
  · exact absurd a3 (h3 _ a1 hlt)
  · omega

theorem Per.sub {s : List Int} {n p q : Nat} (hp : Per s n p) (hq : Per s n q) (h : p + q ≤ n) (hle : p ≤ q) : Per s n (q - p) := by
  intro i hi
  by_cases hiq : i + q < n
  · rw [hq i hiq]
    have := hp (i + (q - p)) (by omega)
    rw [this]
    congr 1
    omega
  · have h1 := hp (i - p) (by omega)
    have h2 := hq (i - p) (by omega)
    rw [show i - p + p = i by omega] at h1
    rw [show i - p + q = i + (q - p) by omega] at h2
    rw [← h1, h2]
theorem Per.gcd {s : List Int} {n : Nat} : ∀ (m p q : Nat), p + q ≤ m → p + q ≤ n → Per s n p → Per s n q → Per s n (Nat.gcd p q) := by
  intro m
  induction m with
  | zero =>
    intro p q h _ hp _
    have e1 : p = 0 := by omega
    have e2 : q = 0 := by omega
    subst e1 e2
    exact hp
  | succ m ih =>
    intro p q h hn hp hq
    by_cases h1 : p = 0
    · subst h1; rw [Nat.gcd_zero_left]; exact hq
    by_cases h2 : q = 0
    · subst h2; rw [Nat.gcd_zero_right]; exact hp
    by_cases hle : p ≤ q
    · have := ih p (q - p) (by omega) (by omega) hp (hp.sub hq hn hle)
      rwa [Nat.gcd_sub_self_right hle] at this
    · have := ih (p - q) q (by omega) (by omega) (hq.sub hp (by omega) (by omega)) hq
      rwa [Nat.gcd_sub_self_left (by omega)] at this
theorem Per.mod {s : List Int} {n d : Nat} (h : Per s n d) (hd : 0 < d) (i : Nat) (hi : i < n) : s.getD i 0 = s.getD (i % d) 0 := by
  induction i using Nat.strongRecOn with
  | ind i ih =>
    by_cases hlt : i < d
    · rw [Nat.mod_eq_of_lt hlt]
    · have h1 := h (i - d) (by omega)
      rw [show i - d + d = i by omega] at h1
      rw [← h1, ih (i - d) (by omega) (by omega)]
      congr 1
      exact (Nat.mod_eq_sub_mod (by omega)).symm
theorem Per.ofMod {s : List Int} {n d : Nat} (h : ∀ i, i < n → s.getD i 0 = s.getD (i % d) 0) : Per s n d := by
  intro i hi
  rw [h i (by omega), h (i + d) hi, Nat.add_mod_right]

/-- How long the root is. -/
def rootN (s : List Int) : Nat := if s.length % leastI s = 0 then leastI s else s.length
theorem rootN_spec {s : List Int} (h : 0 < s.length) : 1 ≤ rootN s ∧ rootN s ≤ s.length ∧ rootN s ∣ s.length ∧ Per s s.length (rootN s) ∧ ∀ d, 1 ≤ d → d ∣ s.length → Per s s.length d → rootN s ≤ d := by
  obtain ⟨a1, a2, a3, a4⟩ := leastI_spec h
  have base : 1 ≤ rootN s ∧ rootN s ≤ s.length ∧ rootN s ∣ s.length ∧ Per s s.length (rootN s) := by
    unfold rootN
    by_cases hm : s.length % leastI s = 0
    · rw [if_pos hm]
      exact ⟨a1, a2, Nat.dvd_of_mod_eq_zero hm, a3⟩
    · rw [if_neg hm]
      exact ⟨h, Nat.le_refl _, Nat.dvd_refl _, fun i hi => by omega⟩
  refine ⟨base.1, base.2.1, base.2.2.1, base.2.2.2, fun d hd hdv hp => ?_⟩
  have hpd := a4 d hd hp
  by_cases hdl : d = s.length
  · rw [hdl]; exact base.2.1
  · obtain ⟨c, hc⟩ := hdv
    have h2 : 2 * d ≤ s.length := by
      have hc0 : c ≠ 0 := fun e => by rw [e] at hc; omega
      have hc1 : c ≠ 1 := fun e => by rw [e] at hc; omega
      have : d * 2 ≤ d * c := Nat.mul_le_mul_left d (by omega)
      omega
    have hg := Per.gcd _ _ _ (Nat.le_refl _) (show leastI s + d ≤ s.length by omega) a3 hp
    have hgp : 0 < Nat.gcd (leastI s) d := Nat.gcd_pos_of_pos_left _ (by omega)
    have hge := a4 _ hgp hg
    have hgl : Nat.gcd (leastI s) d ≤ leastI s := Nat.le_of_dvd (by omega) (Nat.gcd_dvd_left _ _)
    have hgg : Nat.gcd (leastI s) d = leastI s := by omega
    have hdd : leastI s ∣ d := by rw [← hgg]; exact Nat.gcd_dvd_right _ _
    have hsl : leastI s ∣ s.length := by rw [hc]; exact Nat.dvd_mul_right_of_dvd hdd c
    have : rootN s = leastI s := by unfold rootN; rw [if_pos (Nat.mod_eq_zero_of_dvd hsl)]
    omega

/-- A row so many times has its root. -/
theorem rootN_rep {s : List Int} {n : Nat} (h : 0 < s.length) (hn : 0 < n) : rootN (repI s n) = rootN s := by
  obtain ⟨a1, a2, a3, a4, a5⟩ := rootN_spec h
  have hL := repI_len s n
  have hN : 0 < n * s.length := Nat.mul_pos hn h
  have hle : s.length ≤ n * s.length := Nat.le_mul_of_pos_left _ hn
  obtain ⟨b1, b2, b3, b4, b5⟩ := rootN_spec (s := repI s n) (by omega)
  have hp : Per (repI s n) (repI s n).length (rootN s) := by
    refine Per.ofMod fun i hi => ?_
    have hm1 : i % s.length < s.length := Nat.mod_lt _ h
    have hm2 : i % rootN s < rootN s := Nat.mod_lt _ a1
    rw [repI_at _ _ _ (by omega), repI_at _ _ _ (by omega), a4.mod a1 _ hm1, Nat.mod_mod_of_dvd _ a3, Nat.mod_eq_of_lt (show i % rootN s < s.length by omega)]
  have hdv : rootN s ∣ (repI s n).length := by rw [hL]; exact Nat.dvd_mul_left_of_dvd a3 n
  have hq := b5 _ a1 hdv hp
  by_cases h1 : n = 1
  · subst h1
    have : repI s 1 = s := by simp [repI]
    rw [this]
  · by_cases hql : rootN (repI s n) = (repI s n).length
    · omega
    · have e2 : 2 * s.length ≤ n * s.length := Nat.mul_le_mul_right _ (by omega)
      have hqq : 2 * rootN (repI s n) ≤ (repI s n).length := by
        obtain ⟨c, hc⟩ := b3
        have hc0 : c ≠ 0 := fun e => by rw [e] at hc; omega
        have hc1 : c ≠ 1 := fun e => by rw [e] at hc; omega
        have : rootN (repI s n) * 2 ≤ rootN (repI s n) * c := Nat.mul_le_mul_left _ (by omega)
        omega
      have hg := Per.gcd _ _ _ (Nat.le_refl _) (show rootN s + rootN (repI s n) ≤ (repI s n).length by omega) hp b4
      have hgp : 0 < Nat.gcd (rootN s) (rootN (repI s n)) := Nat.gcd_pos_of_pos_left _ (by omega)
      have hgs : Per s s.length (Nat.gcd (rootN s) (rootN (repI s n))) := by
        intro i hi
        have := hg i (by omega)
        rw [repI_at _ _ _ (by omega), repI_at _ _ _ (by omega), Nat.mod_eq_of_lt (by omega), Nat.mod_eq_of_lt hi] at this
        exact this
      have hge := a5 _ hgp (Nat.dvd_trans (Nat.gcd_dvd_left _ _) a3) hgs
      have hgl : Nat.gcd (rootN s) (rootN (repI s n)) ≤ rootN (repI s n) := Nat.le_of_dvd (by omega) (Nat.gcd_dvd_right _ _)
      omega
theorem root_rep {s : List Int} {n : Nat} (h : 0 < s.length) (hn : 0 < n) : (repI s n).take (rootN (repI s n)) = s.take (rootN s) := by
  rw [rootN_rep h hn]
  obtain ⟨a1, a2, _⟩ := rootN_spec h
  cases n with
  | zero => omega
  | succ n => rw [repI_cons, List.take_append_of_le_length a2]

/-- A root has none but itself. -/
theorem rootN_root {s : List Int} (h : 0 < s.length) : rootN (s.take (rootN s)) = rootN s := by
  obtain ⟨a1, a2, a3, a4, a5⟩ := rootN_spec h
  have hl : (s.take (rootN s)).length = rootN s := by rw [List.length_take]; omega
  obtain ⟨b1, b2, b3, b4, _⟩ := rootN_spec (s := s.take (rootN s)) (by omega)
  rw [hl] at b2 b3 b4
  have hp : Per s s.length (rootN (s.take (rootN s))) := by
    refine Per.ofMod fun i hi => ?_
    have hm1 : i % rootN s < rootN s := Nat.mod_lt _ a1
    have h1 := b4.mod b1 (i % rootN s) hm1
    have hm2 : i % rootN s % rootN (s.take (rootN s)) < rootN (s.take (rootN s)) := Nat.mod_lt _ b1
    rw [take_getD _ _ _ hm1, take_getD _ _ _ (by omega), Nat.mod_mod_of_dvd _ b3] at h1
    rw [a4.mod a1 i hi, h1]
  have := a5 _ b1 (Nat.dvd_trans b3 a3) hp
  omega
theorem rootN_nil : rootN [] = 0 := by unfold rootN leastI; simp
end Go.Proofs.YtlmbdafilboblaaGreat

/- Words without end, compared. Plain numbers, no conditions. -/
namespace Go.Proofs.YtlmbdafilboblaaGreat
set_option linter.unusedVariables false
set_option linter.unusedSimpArgs false

/-- The k-th of a word without end. -/
def atW (u : List Int) (k : Nat) : Int := u.getD (k % u.length) 0
/-- The first n of a word without end; of the empty one nothing. -/
def infI (u : List Int) (n : Nat) : List Int := (repI u n).take n
/-- -1, 0, 1. -/
def omI (u v : List Int) : Int := cmpI (infI u (u.length + v.length)) (infI v (u.length + v.length))

theorem infI_nil (n : Nat) : infI [] n = [] := by
  have : (repI [] n).length = 0 := by rw [repI_len]; simp
  unfold infI
  rw [List.length_eq_zero_iff.1 this]; simp
theorem infI_len {u : List Int} (n : Nat) (h : 0 < u.length) : (infI u n).length = n := by
  unfold infI
  rw [List.length_take, repI_len]
  have : n * 1 ≤ n * u.length := Nat.mul_le_mul_left n h
  omega
theorem infI_at {u : List Int} {n k : Nat} (h : 0 < u.length) (hk : k < n) : (infI u n).getD k 0 = atW u k := by
  have : n * 1 ≤ n * u.length := Nat.mul_le_mul_left n h
  unfold infI
  rw [take_getD _ _ _ hk, repI_at _ _ _ (by omega)]
  rfl

theorem atW_per (u : List Int) (k : Nat) : atW u (k + u.length) = atW u k := by unfold atW; rw [Nat.add_mod_right]

/-- Words that are alike for as many as both have together are alike without end. -/
theorem atW_same {u v : List Int} (hu : 0 < u.length) (hv : 0 < v.length) (h : ∀ k, k < u.length + v.length → atW u k = atW v k) : ∀ k, atW u k = atW v k := by
  obtain ⟨x, hx⟩ : ∃ x, x = infI u (u.length + v.length) := ⟨_, rfl⟩
  have hl : x.length = u.length + v.length := by rw [hx, infI_len _ hu]
  have hxa : ∀ k, k < u.length + v.length → x.getD k 0 = atW u k := fun k hk => by rw [hx]; exact infI_at hu hk
  have p1 : Per x (u.length + v.length) u.length := fun i hi => by rw [hxa i (by omega), hxa _ hi, atW_per]
  have p2 : Per x (u.length + v.length) v.length := fun i hi => by rw [hxa i (by omega), hxa _ hi, h i (by omega), h _ hi, atW_per]
  have pg := Per.gcd _ _ _ (Nat.le_refl _) (Nat.le_refl _) p1 p2
  have hg : 0 < Nat.gcd u.length v.length := Nat.gcd_pos_of_pos_left _ hu
  intro k
  have h1 : atW u k = x.getD (k % Nat.gcd u.length v.length) 0 := by
    have hm : k % u.length < u.length := Nat.mod_lt _ hu
    have e : atW u k = atW u (k % u.length) := by unfold atW; rw [Nat.mod_mod]
    rw [e, ← hxa _ (by omega), pg.mod hg _ (by omega), Nat.mod_mod_of_dvd _ (Nat.gcd_dvd_left _ _)]
  have h2 : atW v k = x.getD (k % Nat.gcd u.length v.length) 0 := by
    have hm : k % v.length < v.length := Nat.mod_lt _ hv
    have e : atW v k = atW v (k % v.length) := by unfold atW; rw [Nat.mod_mod]
    rw [e, ← h _ (by omega), ← hxa _ (by omega), pg.mod hg _ (by omega), Nat.mod_mod_of_dvd _ (Nat.gcd_dvd_right _ _)]
  rw [h1, h2]

/-- Less, place by place. -/
def LtF (f g : Nat → Int) : Prop := ∃ m, (∀ k, k < m → f k = g k) ∧ f m < g m
theorem LtF.irr {f g : Nat → Int} (h : LtF f g) (k : LtF g f) : False := by
  obtain ⟨m, h1, h2⟩ := h
  obtain ⟨n, k1, k2⟩ := k
  rcases Nat.lt_trichotomy m n with g | g | g
  · have := k1 m g; omega
  · subst g; omega
  · have := h1 n g; omega
theorem LtF.trans {f g h : Nat → Int} (a : LtF f g) (b : LtF g h) : LtF f h := by
  obtain ⟨m, h1, h2⟩ := a
  obtain ⟨n, k1, k2⟩ := b
  rcases Nat.lt_trichotomy m n with q | q | q
  · exact ⟨m, fun k hk => (h1 k hk).trans (k1 k (by omega)), by rw [← k1 m q]; exact h2⟩
  · subst q; exact ⟨m, fun k hk => (h1 k hk).trans (k1 k hk), by omega⟩
  · exact ⟨n, fun k hk => (h1 k (by omega)).trans (k1 k hk), by rw [h1 n q]; exact k2⟩
theorem first_other {f g : Nat → Int} : ∀ n, (∀ k, k < n → f k = g k) ∨ ∃ m, m < n ∧ (∀ k, k < m → f k = g k) ∧ f m ≠ g m
  | 0 => .inl fun k hk => by omega
  | n + 1 => by
    rcases first_other (f := f) (g := g) n with h | ⟨m, h1, h2, h3⟩
    · by_cases e : f n = g n
      · refine .inl fun k hk => ?_
        by_cases hk2 : k = n
        · subst hk2; exact e
        · exact h k (by omega)
      · exact .inr ⟨n, by omega, h, e⟩
    · exact .inr ⟨m, by omega, h2, h3⟩

/-- As the first other one tells. -/
theorem cmpI_first {x y : List Int} {m : Nat} (hx : m < x.length) (hy : m < y.length) (h : ∀ k, k < m → x.getD k 0 = y.getD k 0) (hne : x.getD m 0 ≠ y.getD m 0) : cmpI x y = if x.getD m 0 < y.getD m 0 then -1 else 1 := by
  have key : ∀ k, k ≤ m → cmpI x y = cmpI (x.drop k) (y.drop k) := by
    intro k
    induction k with
    | zero => intro _; simp
    | succ k ih => intro hk; rw [ih (by omega), cmpI_same (by omega) (by omega) (h k (by omega))]
  rw [key m (Nat.le_refl _)]
  by_cases hlt : x.getD m 0 < y.getD m 0
  · rw [if_pos hlt, cmpI_lt hx hy hlt]
  · rw [if_neg hlt, cmpI_gt hx hy (by omega)]

/-- However much is looked at, if it is enough. -/
theorem omI_eq (u v : List Int) (N : Nat) (hN : u.length + v.length ≤ N) : cmpI (infI u N) (infI v N) = omI u v := by
  unfold omI
  by_cases hu : u = []
  · subst hu
    by_cases hv : v = []
    · subst hv; simp only [infI_nil]
    · have hv' : 0 < v.length := List.length_pos_iff.2 hv
      have e : ∀ n, 0 < n → cmpI [] (infI v n) = -1 := fun n hn => by
        have hl := infI_len n hv'
        cases hc : infI v n with
        | nil => rw [hc] at hl; simp at hl; omega
        | cons a l => rfl
      simp only [infI_nil]
      simp at hN
      rw [e _ (by omega), e _ (by simp; omega)]
  · have hu' : 0 < u.length := List.length_pos_iff.2 hu
    by_cases hv : v = []
    · subst hv
      have e : ∀ n, 0 < n → cmpI (infI u n) [] = 1 := fun n hn => by
        have hl := infI_len n hu'
        cases hc : infI u n with
        | nil => rw [hc] at hl; simp at hl; omega
        | cons a l => rfl
      simp only [infI_nil]
      simp at hN
      rw [e _ (by omega), e _ (by simp; omega)]
    · have hv' : 0 < v.length := List.length_pos_iff.2 hv
      have e : ∀ n, u.length + v.length ≤ n → (∀ k, k < u.length + v.length → atW u k = atW v k) → cmpI (infI u n) (infI v n) = 0 := fun n hn h => by
        have : infI u n = infI v n := getD_ext (by rw [infI_len _ hu', infI_len _ hv']) fun k hk => by
          rw [infI_len _ hu'] at hk
          rw [infI_at hu' hk, infI_at hv' hk, atW_same hu' hv' h k]
        rw [this, cmpI_self]
      have e2 : ∀ n m, m < n → (∀ k, k < m → atW u k = atW v k) → atW u m ≠ atW v m → cmpI (infI u n) (infI v n) = if atW u m < atW v m then -1 else 1 := fun n m hm h hne => by
        have := cmpI_first (x := infI u n) (y := infI v n) (m := m) (by rw [infI_len _ hu']; exact hm) (by rw [infI_len _ hv']; exact hm)
          (fun k hk => by rw [infI_at hu' (by omega), infI_at hv' (by omega)]; exact h k hk) (by rw [infI_at hu' hm, infI_at hv' hm]; exact hne)
        rw [infI_at hu' hm, infI_at hv' hm] at this
        exact this
      rcases first_other (f := atW u) (g := atW v) (u.length + v.length) with h | ⟨m, h1, h2, h3⟩
      · rw [e _ hN h, e _ (Nat.le_refl _) h]
      · rw [e2 N m (by omega) h2 h3, e2 _ m h1 h2 h3]

theorem omI_none_left {v : List Int} (hv : 0 < v.length) : omI [] v = -1 := by
  unfold omI
  rw [infI_nil]
  have hl := infI_len (([] : List Int).length + v.length) hv
  cases hc : infI v (([] : List Int).length + v.length) with
  | nil => rw [hc] at hl; simp at hl; omega
  | cons a l => rfl
theorem omI_swap (u v : List Int) : omI v u = - omI u v := by
  unfold omI
  rw [Nat.add_comm v.length, cmpI_swap]
theorem omI_none_right {v : List Int} (hv : 0 < v.length) : omI v [] = 1 := by rw [omI_swap, omI_none_left hv]; rfl
theorem omI_nil : omI [] [] = 0 := by decide
theorem omI_other {u v : List Int} (hu : 0 < u.length) (hv : 0 < v.length) {m : Nat} (hm : m < u.length + v.length) (h : ∀ k, k < m → atW u k = atW v k) (hne : atW u m ≠ atW v m) : omI u v = if atW u m < atW v m then -1 else 1 := by
  unfold omI
  have := cmpI_first (x := infI u (u.length + v.length)) (y := infI v (u.length + v.length)) (m := m) (by rw [infI_len _ hu]; exact hm) (by rw [infI_len _ hv]; exact hm)
    (fun k hk => by rw [infI_at hu (by omega), infI_at hv (by omega)]; exact h k hk) (by rw [infI_at hu hm, infI_at hv hm]; exact hne)
  rw [infI_at hu hm, infI_at hv hm] at this
  exact this
theorem omI_same {u v : List Int} (hu : 0 < u.length) (hv : 0 < v.length) (h : ∀ k, k < u.length + v.length → atW u k = atW v k) : omI u v = 0 := by
  have : infI u (u.length + v.length) = infI v (u.length + v.length) := getD_ext (by rw [infI_len _ hu, infI_len _ hv]) fun k hk => by
    rw [infI_len _ hu] at hk
    rw [infI_at hu hk, infI_at hv hk, h k hk]
  unfold omI
  rw [this, cmpI_self]
theorem omI_zero {u v : List Int} (hu : 0 < u.length) (hv : 0 < v.length) : omI u v = 0 ↔ ∀ k, atW u k = atW v k := by
  constructor
  · intro h
    have := cmpI_zero h
    refine atW_same hu hv fun k hk => ?_
    rw [← infI_at hu hk, this, infI_at hv hk]
  · exact fun h => omI_same hu hv fun k _ => h k
theorem omI_neg {u v : List Int} (hu : 0 < u.length) (hv : 0 < v.length) : omI u v < 0 ↔ LtF (atW u) (atW v) := by
  rcases first_other (f := atW u) (g := atW v) (u.length + v.length) with h | ⟨m, h1, h2, h3⟩
  · rw [omI_same hu hv h]
    constructor
    · intro h; omega
    · rintro ⟨m, _, h2⟩
      have := atW_same hu hv h m
      omega
  · rw [omI_other hu hv h1 h2 h3]
    by_cases hlt : atW u m < atW v m
    · rw [if_pos hlt]
      exact ⟨fun _ => ⟨m, h2, hlt⟩, fun _ => by omega⟩
    · rw [if_neg hlt]
      refine ⟨fun h => by omega, fun h => absurd h fun h => ?_⟩
      have hgt : LtF (atW v) (atW u) := ⟨m, fun k hk => (h2 k hk).symm, by omega⟩
      exact (LtF.irr h hgt).elim

theorem omI_three (u v : List Int) : omI u v = -1 ∨ omI u v = 0 ∨ omI u v = 1 := cmpI_three _ _

/-- Of three, through the middle one. -/
theorem omI_trans (u v w : List Int) (h : omI u v ≤ 0) (h' : omI v w ≤ 0) : omI u w ≤ 0 := by
  have hN : ∀ a b : List Int, a.length + b.length ≤ u.length + v.length + w.length → cmpI (infI a (u.length + v.length + w.length)) (infI b (u.length + v.length + w.length)) = omI a b := fun a b h => omI_eq a b _ h
  rw [← hN u v (by omega)] at h
  rw [← hN v w (by omega)] at h'
  rw [← hN u w (by omega)]
  exact cmpI_trans _ _ _ h h'
theorem omI_alike (u v w : List Int) (h : omI u v = 0) : omI v w = omI u w := by
  have hN : ∀ a b : List Int, a.length + b.length ≤ u.length + v.length + w.length → cmpI (infI a (u.length + v.length + w.length)) (infI b (u.length + v.length + w.length)) = omI a b := fun a b h => omI_eq a b _ h
  rw [← hN u v (by omega)] at h
  rw [← hN v w (by omega), ← hN u w (by omega), cmpI_zero h]

/-- A word again and again is the same without end. -/
theorem atW_rep {u : List Int} {n : Nat} (hn : 0 < n) (hu : 0 < u.length) (k : Nat) : atW (repI u n) k = atW u k := by
  unfold atW
  rw [repI_at _ _ _ (by rw [repI_len]; exact Nat.mod_lt _ (Nat.mul_pos hn hu)), repI_len, Nat.mod_mul_left_mod]
theorem omI_rep {u : List Int} {a b : Nat} (hu : 0 < u.length) (ha : 0 < a) (hb : 0 < b) : omI (repI u a) (repI u b) = 0 :=
  (omI_zero (by rw [repI_len]; exact Nat.mul_pos ha hu) (by rw [repI_len]; exact Nat.mul_pos hb hu)).2 fun k => by rw [atW_rep ha hu, atW_rep hb hu]
theorem repI_root {u : List Int} (hu : 0 < u.length) : repI (u.take (rootN u)) (u.length / rootN u) = u := by
  obtain ⟨a1, a2, a3, a4, _⟩ := rootN_spec hu
  have hl : (u.take (rootN u)).length = rootN u := by rw [List.length_take]; omega
  have hm : u.length / rootN u * rootN u = u.length := Nat.div_mul_cancel a3
  refine getD_ext (by rw [repI_len, hl, hm]) fun k hk => ?_
  rw [repI_len, hl, hm] at hk
  rw [repI_at _ _ _ (by rw [hl, hm]; exact hk), hl, take_getD _ _ _ (Nat.mod_lt _ a1), ← a4.mod a1 k hk]
/-- The same without end just if there is one root. -/
theorem omI_root {u v : List Int} (hu : 0 < u.length) (hv : 0 < v.length) : omI u v = 0 ↔ u.take (rootN u) = v.take (rootN v) := by
  constructor
  · intro h
    have h1 := (omI_zero hu hv).1 h
    have e : repI u v.length = repI v u.length := by
      refine getD_ext (by rw [repI_len, repI_len, Nat.mul_comm]) fun k hk => ?_
      rw [repI_len] at hk
      rw [repI_at _ _ _ hk, repI_at _ _ _ (by rw [Nat.mul_comm]; exact hk)]
      exact h1 k
    rw [← root_rep hu hv, ← root_rep hv hu, e]
  · intro h
    obtain ⟨a1, a2, a3, _⟩ := rootN_spec hu
    obtain ⟨b1, b2, b3, _⟩ := rootN_spec hv
    have := omI_rep (u := u.take (rootN u)) (a := u.length / rootN u) (b := v.length / rootN v) (by rw [List.length_take]; omega) (Nat.div_pos a2 a1) (Nat.div_pos b2 b1)
    rw [repI_root hu, h, repI_root hv] at this
    exact this
/-- As what is long enough of both tells. -/
theorem omI_long {u v : List Int} (hu : 0 < u.length) (hv : 0 < v.length) : cmpI (repI u (2 * v.length)) (repI v (2 * u.length)) = omI u v := by
  have hL : 2 * v.length * u.length = 2 * u.length * v.length := by rw [Nat.mul_assoc, Nat.mul_assoc, Nat.mul_comm v.length]
  have g : ∀ {x : List Int} {n N : Nat}, 0 < x.length → n * x.length = N → repI x n = infI x N := by
    intro x n N hx hN
    refine getD_ext (by rw [repI_len, infI_len _ hx, hN]) fun k hk => ?_
    rw [repI_len] at hk
    rw [repI_at _ _ _ hk, infI_at hx (by omega)]
    rfl
  rw [g hu hL, g hv rfl, omI_eq]
  have e1 : 1 * u.length ≤ v.length * u.length := Nat.mul_le_mul_right _ hv
  have e2 : v.length * 1 ≤ v.length * u.length := Nat.mul_le_mul_left _ hu
  rw [Nat.mul_assoc, Nat.mul_comm u.length]
  omega
end Go.Proofs.YtlmbdafilboblaaGreat

/- Ranks, and the order of endless rows by doubling. Plain numbers, no conditions. -/
namespace Go.Proofs.YtlmbdafilboblaaGreat
set_option linter.unusedVariables false
set_option linter.unusedSimpArgs false

/-- How many times the pair of keys turns, up to the i-th. -/
def cls (ord : List Nat) (f s : Nat → Nat) : Nat → Nat
  | 0 => 0
  | i + 1 => cls ord f s i + (if f (ord.getD (i + 1) 0) = f (ord.getD i 0) ∧ s (ord.getD (i + 1) 0) = s (ord.getD i 0) then 0 else 1)

/-- Less by the first key, then by the second. -/
def Lt2 (f s : Nat → Nat) (p q : Nat) : Prop := f p < f q ∨ (f p = f q ∧ s p < s q)

theorem cls_le (ord : List Nat) (f s : Nat → Nat) : ∀ i, cls ord f s i ≤ i
  | 0 => Nat.le_refl _
  | i + 1 => by have := cls_le ord f s i; unfold cls; split <;> omega

theorem pair_at {R : Nat → Nat → Prop} {l : List Nat} (h : l.Pairwise R) {i j : Nat} (hij : i < j) (hj : j < l.length) : R (l.getD i 0) (l.getD j 0) := by
  have := List.pairwise_iff_getElem.1 h i j (by omega) hj hij
  simpa [List.getD, List.getElem?_eq_getElem hj, List.getElem?_eq_getElem (show i < l.length by omega)] using this

theorem cls_up {ord : List Nat} {f s : Nat → Nat} (h : ord.Pairwise fun p q => ¬ Lt2 f s q p) {i : Nat} : ∀ {j : Nat}, i ≤ j → j < ord.length →
    (cls ord f s i = cls ord f s j ∧ f (ord.getD i 0) = f (ord.getD j 0) ∧ s (ord.getD i 0) = s (ord.getD j 0)) ∨ (cls ord f s i < cls ord f s j ∧ Lt2 f s (ord.getD i 0) (ord.getD j 0)) := by
  intro j hij
  induction hij with
  | refl => intro _; exact .inl ⟨rfl, rfl, rfl⟩
  | step hm ih =>
    rename_i m
    intro hj
    have hj' : m + 1 < ord.length := hj
    have hs := pair_at h (show m < m + 1 by omega) hj'
    have ih' := ih (by omega)
    have hc : cls ord f s (m + 1) = cls ord f s m + (if f (ord.getD (m + 1) 0) = f (ord.getD m 0) ∧ s (ord.getD (m + 1) 0) = s (ord.getD m 0) then 0 else 1) := rfl
    unfold Lt2 at *
    show (cls ord f s i = cls ord f s (m + 1) ∧ _ = f (ord.getD (m + 1) 0) ∧ _ = s (ord.getD (m + 1) 0)) ∨ (cls ord f s i < cls ord f s (m + 1) ∧ (_ < f (ord.getD (m + 1) 0) ∨ _ = f (ord.getD (m + 1) 0) ∧ _ < s (ord.getD (m + 1) 0)))
    rw [hc]
    generalize ord.getD (m + 1) 0 = q at *
    generalize ord.getD m 0 = p at *
    generalize ord.getD i 0 = o at *
    split
    · rename_i e; omega
    · rename_i e; omega

/-- What the ranks of an order are. -/
theorem rank_iff {ord : List Nat} {f s rk : Nat → Nat} {M : Nat} (hp : ord.Perm (List.range M)) (h : ord.Pairwise fun p q => ¬ Lt2 f s q p) (hr : ∀ i, i < M → rk (ord.getD i 0) = cls ord f s i) :
    ∀ p q, p < M → q < M → (rk p < rk q ↔ Lt2 f s p q) := by
  have hl : ord.length = M := by rw [hp.length_eq, List.length_range]
  have key : ∀ i j, i ≤ j → j < M → (rk (ord.getD i 0) = rk (ord.getD j 0) ∧ f (ord.getD i 0) = f (ord.getD j 0) ∧ s (ord.getD i 0) = s (ord.getD j 0)) ∨ (rk (ord.getD i 0) < rk (ord.getD j 0) ∧ Lt2 f s (ord.getD i 0) (ord.getD j 0)) := fun i j hij hj => by
    rw [hr i (by omega), hr j hj]
    exact cls_up h hij (by omega)
  intro p q hpM hqM
  obtain ⟨i, hi, rfl⟩ := mem_getN (hp.mem_iff.2 (List.mem_range.2 hpM))
  obtain ⟨j, hj, rfl⟩ := mem_getN (hp.mem_iff.2 (List.mem_range.2 hqM))
  unfold Lt2 at *
  rcases Nat.le_total i j with g | g
  · have := key i j g (by omega); omega
  · have := key j i g (by omega); omega

theorem cls_onto (ord : List Nat) (f s : Nat → Nat) : ∀ i r, r ≤ cls ord f s i → ∃ j, j ≤ i ∧ cls ord f s j = r
  | 0, r, h => ⟨0, Nat.le_refl _, by have : cls ord f s 0 = 0 := rfl; omega⟩
  | i + 1, r, h => by
    by_cases e : r = cls ord f s (i + 1)
    · exact ⟨i + 1, Nat.le_refl _, e.symm⟩
    · have hc : cls ord f s (i + 1) = cls ord f s i + (if f (ord.getD (i + 1) 0) = f (ord.getD i 0) ∧ s (ord.getD (i + 1) 0) = s (ord.getD i 0) then 0 else 1) := rfl
      have : r ≤ cls ord f s i := by
        rw [hc] at h e
        split at h <;> split at e <;> omega
      obtain ⟨j, h1, h2⟩ := cls_onto ord f s i r this
      exact ⟨j, by omega, h2⟩
theorem cls_mono {ord : List Nat} {f s : Nat → Nat} {i j : Nat} (h : i ≤ j) : cls ord f s i ≤ cls ord f s j := by
  induction h with
  | refl => exact Nat.le_refl _
  | step _ ih =>
    rename_i m _
    have hc : cls ord f s (m + 1) = cls ord f s m + (if f (ord.getD (m + 1) 0) = f (ord.getD m 0) ∧ s (ord.getD (m + 1) 0) = s (ord.getD m 0) then 0 else 1) := rfl
    show _ ≤ cls ord f s (m + 1)
    omega

/-- How many ranks there are. -/
def clsT (ord : List Nat) (f s : Nat → Nat) (i : Nat) : Nat := match i with | 0 => 0 | i + 1 => cls ord f s i + 1

theorem rank_dense {ord : List Nat} {f s rk : Nat → Nat} {M : Nat} (hp : ord.Perm (List.range M)) (hr : ∀ i, i < M → rk (ord.getD i 0) = cls ord f s i) :
    (∀ p, p < M → rk p < clsT ord f s M) ∧ ∀ r, r < clsT ord f s M → ∃ p, p < M ∧ rk p = r := by
  have hl : ord.length = M := by rw [hp.length_eq, List.length_range]
  cases M with
  | zero => exact ⟨fun p h => by omega, fun r h => by simp [clsT] at h⟩
  | succ M =>
    constructor
    · intro p hpM
      obtain ⟨i, hi, rfl⟩ := mem_getN (hp.mem_iff.2 (List.mem_range.2 hpM))
      rw [hr i (by omega)]
      have := cls_mono (ord := ord) (f := f) (s := s) (show i ≤ M by omega)
      show _ < cls ord f s M + 1
      omega
    · intro r h
      obtain ⟨j, h1, h2⟩ := cls_onto ord f s M r (by simp only [clsT] at h; omega)
      refine ⟨ord.getD j 0, ?_, by rw [hr j (by omega), h2]⟩
      exact List.mem_range.1 (hp.mem_iff.1 (getN_mem (by omega)))

/-- Ranks that part no more than others did are the same ones. -/
theorem dense_up {M n : Nat} {a b : Nat → Nat} (hon : ∀ r, r < n → ∃ p, p < M ∧ a p = r) (hab : ∀ p q, p < M → q < M → a p < a q → b p < b q) : ∀ r p, p < M → a p = r → a p < n → r ≤ b p := by
  intro r
  induction r with
  | zero => intro p _ _ _; omega
  | succ r ih =>
    intro p hp e hn
    obtain ⟨q, hq, eq⟩ := hon r (by omega)
    have h1 := ih q hq eq (by omega)
    have h2 := hab q p hq hp (by omega)
    omega
theorem dense_same {M n : Nat} {a b : Nat → Nat} (hon : ∀ r, r < n → ∃ p, p < M ∧ a p = r) (han : ∀ p, p < M → a p < n) (hbn : ∀ p, p < M → b p < n) (hab : ∀ p q, p < M → q < M → a p < a q → b p < b q) : ∀ p, p < M → b p = a p := by
  have up : ∀ d p, p < M → a p + d + 1 = n → b p ≤ a p := by
    intro d
    induction d with
    | zero => intro p hp e; have := hbn p hp; omega
    | succ d ih =>
      intro p hp e
      obtain ⟨q, hq, eq⟩ := hon (a p + 1) (by omega)
      have h1 := ih q hq (by omega)
      have h2 := hab p q hp hq (by omega)
      omega
  intro p hp
  have h1 := dense_up hon hab _ p hp rfl (han p hp)
  have h2 := up (n - 1 - a p) p hp (by have := han p hp; omega)
  omega
theorem dense_more {M n m : Nat} {a b : Nat → Nat} (hon : ∀ r, r < n → ∃ p, p < M ∧ a p = r) (hbm : ∀ p, p < M → b p < m) (hab : ∀ p q, p < M → q < M → a p < a q → b p < b q) : n ≤ m := by
  cases n with
  | zero => omega
  | succ n =>
    obtain ⟨p, hp, e⟩ := hon n (by omega)
    have h1 := dense_up hon hab _ p hp rfl (by omega)
    have := hbm p hp
    omega

/-- So many steps on. -/
def itN (nx : Nat → Nat) : Nat → Nat → Nat
  | 0, p => p
  | k + 1, p => itN nx k (nx p)
theorem itN_add (nx : Nat → Nat) : ∀ (a b p : Nat), itN nx (a + b) p = itN nx b (itN nx a p)
  | 0, b, p => by rw [Nat.zero_add]; rfl
  | a + 1, b, p => by
    rw [show a + 1 + b = (a + b) + 1 by omega]
    exact itN_add nx a b (nx p)
theorem itN_lt {nx : Nat → Nat} {M : Nat} (h : ∀ p, p < M → nx p < M) : ∀ k p, p < M → itN nx k p < M
  | 0, p, hp => hp
  | k + 1, p, hp => itN_lt h k (nx p) (h p hp)
/-- What is read from p on. -/
def seqN (b : Nat → Int) (nx : Nat → Nat) (p k : Nat) : Int := b (itN nx k p)
theorem seqN_on (b : Nat → Int) (nx : Nat → Nat) (L p k : Nat) : seqN b nx (itN nx L p) k = seqN b nx p (L + k) := by
  unfold seqN; rw [itN_add]

/-- Less within the first L. -/
def LtN (L : Nat) (f g : Nat → Int) : Prop := ∃ m, m < L ∧ (∀ k, k < m → f k = g k) ∧ f m < g m
theorem LtN.irr {L : Nat} {f g : Nat → Int} (h : LtN L f g) (k : LtN L g f) : False := by
  obtain ⟨m, _, h1, h2⟩ := h
  obtain ⟨n, _, k1, k2⟩ := k
  exact LtF.irr ⟨m, h1, h2⟩ ⟨n, k1, k2⟩
theorem LtN.three {L : Nat} (f g : Nat → Int) : LtN L f g ∨ LtN L g f ∨ ∀ k, k < L → f k = g k := by
  rcases first_other (f := f) (g := g) L with h | ⟨m, h1, h2, h3⟩
  · exact .inr (.inr h)
  · by_cases hlt : f m < g m
    · exact .inl ⟨m, h1, h2, hlt⟩
    · exact .inr (.inl ⟨m, h1, fun k hk => (h2 k hk).symm, by omega⟩)
theorem LtN.ne {L : Nat} {f g : Nat → Int} (h : LtN L f g) (k : ∀ k, k < L → f k = g k) : False := by
  obtain ⟨m, hm, _, h2⟩ := h
  have := k m hm
  omega
/-- By both halves. -/
theorem LtN.twice {L : Nat} {f g : Nat → Int} : LtN (L + L) f g ↔ LtN L f g ∨ ((∀ k, k < L → f k = g k) ∧ LtN L (fun k => f (L + k)) (fun k => g (L + k))) := by
  constructor
  · rintro ⟨m, hm, h1, h2⟩
    by_cases h : m < L
    · exact .inl ⟨m, h, h1, h2⟩
    · refine .inr ⟨fun k hk => h1 k (by omega), m - L, by omega, fun k hk => h1 (L + k) (by omega), ?_⟩
      show f (L + (m - L)) < g (L + (m - L))
      rw [show L + (m - L) = m by omega]; exact h2
  · rintro (⟨m, hm, h1, h2⟩ | ⟨h0, m, hm, h1, h2⟩)
    · exact ⟨m, by omega, h1, h2⟩
    · refine ⟨L + m, by omega, fun k hk => ?_, h2⟩
      by_cases h : k < L
      · exact h0 k h
      · have := h1 (k - L) (by omega)
        simp only [show L + (k - L) = k by omega] at this
        exact this

/-- The ranks tell the order by the first L. -/
def Rk (M : Nat) (b : Nat → Int) (nx : Nat → Nat) (L : Nat) (rk : Nat → Nat) : Prop := ∀ p q, p < M → q < M → (rk p < rk q ↔ LtN L (seqN b nx p) (seqN b nx q))
theorem Rk.same {M L : Nat} {b : Nat → Int} {nx rk : Nat → Nat} (h : Rk M b nx L rk) {p q : Nat} (hp : p < M) (hq : q < M) : rk p = rk q ↔ ∀ k, k < L → seqN b nx p k = seqN b nx q k := by
  have h1 := h p q hp hq
  have h2 := h q p hq hp
  rcases LtN.three (L := L) (seqN b nx p) (seqN b nx q) with g | g | g
  · have := h1.2 g
    exact ⟨fun e => by omega, fun e => (LtN.ne g e).elim⟩
  · have := h2.2 g
    exact ⟨fun e => by omega, fun e => (LtN.ne g (fun k hk => (e k hk).symm)).elim⟩
  · refine ⟨fun _ => g, fun _ => ?_⟩
    have a1 : ¬ rk p < rk q := fun e => LtN.ne (h1.1 e) g
    have a2 : ¬ rk q < rk p := fun e => LtN.ne (h2.1 e) (fun k hk => (g k hk).symm)
    omega
theorem Rk.start {M : Nat} {b : Nat → Int} {nx rk : Nat → Nat} (h : ∀ p, p < M → b p = (rk p : Int)) : Rk M b nx 1 rk := by
  intro p q hp hq
  have e1 : seqN b nx p 0 = (rk p : Int) := h p hp
  have e2 : seqN b nx q 0 = (rk q : Int) := h q hq
  constructor
  · intro e
    exact ⟨0, by omega, fun k hk => by omega, by rw [e1, e2]; omega⟩
  · rintro ⟨m, hm, _, h2⟩
    have : m = 0 := by omega
    subst this
    rw [e1, e2] at h2
    omega
theorem Rk.twice {M L : Nat} {b : Nat → Int} {nx rk : Nat → Nat} (hn : ∀ p, p < M → nx p < M) (h : Rk M b nx L rk) {p q : Nat} (hp : p < M) (hq : q < M) :
    Lt2 rk (fun p => rk (itN nx L p)) p q ↔ LtN (L + L) (seqN b nx p) (seqN b nx q) := by
  rw [LtN.twice]
  unfold Lt2
  have e1 : (fun k => seqN b nx p (L + k)) = seqN b nx (itN nx L p) := by funext k; exact (seqN_on b nx L p k).symm
  have e2 : (fun k => seqN b nx q (L + k)) = seqN b nx (itN nx L q) := by funext k; exact (seqN_on b nx L q k).symm
  rw [e1, e2, ← h p q hp hq, ← h _ _ (itN_lt hn L p hp) (itN_lt hn L q hq), h.same hp hq]

/-- Ranks that twice as many do not part are parted by none. -/
theorem Rk.whole {M L : Nat} {b : Nat → Int} {nx rk : Nat → Nat} (hL : 0 < L) (hn : ∀ p, p < M → nx p < M) (h : Rk M b nx L rk) (hs : ∀ p q, p < M → q < M → rk p = rk q → rk (itN nx L p) = rk (itN nx L q)) {p q : Nat} (hp : p < M) (hq : q < M) :
    (rk p = rk q → ∀ k, seqN b nx p k = seqN b nx q k) := by
  intro e k
  induction k using Nat.strongRecOn generalizing p q with
  | ind k ih =>
    by_cases hk : k < L
    · exact (h.same hp hq).1 e k hk
    · have h1 := ih (k - L) (by omega) (itN_lt hn L p hp) (itN_lt hn L q hq) (hs p q hp hq e)
      rw [seqN_on, seqN_on, show L + (k - L) = k by omega] at h1
      exact h1

/-- Less without end; of the same ones by place. -/
def RR (b : Nat → Int) (nx : Nat → Nat) (p q : Nat) : Prop := LtF (seqN b nx p) (seqN b nx q) ∨ ((∀ k, seqN b nx p k = seqN b nx q k) ∧ p < q)

theorem Rk.order {M L : Nat} {b : Nat → Int} {nx rk : Nat → Nat} (hL : 0 < L) (hn : ∀ p, p < M → nx p < M) (h : Rk M b nx L rk) (hs : ∀ p q, p < M → q < M → rk p = rk q → rk (itN nx L p) = rk (itN nx L q)) {p q : Nat} (hp : p < M) (hq : q < M)
    (ho : rk p < rk q ∨ (rk p = rk q ∧ (rk (itN nx L p) < rk (itN nx L q) ∨ (rk (itN nx L p) = rk (itN nx L q) ∧ p < q)))) : RR b nx p q := by
  rcases ho with ho | ⟨h1, ho⟩
  · obtain ⟨m, _, h1, h2⟩ := (h p q hp hq).1 ho
    exact .inl ⟨m, h1, h2⟩
  · have := hs p q hp hq h1
    exact .inr ⟨h.whole hL hn hs hp hq h1, by omega⟩
end Go.Proofs.YtlmbdafilboblaaGreat

/- What omega.inOrder keeps from round to round. Plain numbers, no conditions. -/
namespace Go.Proofs.YtlmbdafilboblaaGreat
set_option linter.unusedVariables false
set_option linter.unusedSimpArgs false

def thL (rs ah : List Nat) : List Nat := ah.map fun p => rs.getD p 0
def ordL (M : Nat) (rs ah : List Nat) : List Nat := csort (max 256 M) (csort (max 256 M) (List.range M) fun p => (thL rs ah).getD p 0) fun p => rs.getD p 0
abbrev clsL (M : Nat) (rs ah : List Nat) (i : Nat) : Nat := cls (ordL M rs ah) (fun p => rs.getD p 0) (fun p => (thL rs ah).getD p 0) i
abbrev numL (M : Nat) (rs ah : List Nat) : Nat := clsT (ordL M rs ah) (fun p => rs.getD p 0) (fun p => (thL rs ah).getD p 0) M

structure InO (M : Nat) (b : Nat → Int) (nx : Nat → Nat) (num : Nat) (rs ah : List Nat) : Prop where
  lr : rs.length = M
  la : ah.length = M
  cl : ∀ p, p < M → nx p < M
  ex : ∃ L, 0 < L ∧ (∀ p, p < M → ah.getD p 0 = itN nx L p) ∧ Rk M b nx L fun p => rs.getD p 0
  bd : ∀ p, p < M → rs.getD p 0 < max 256 M
  dn : num = 0 ∨ ((∀ p, p < M → rs.getD p 0 < num) ∧ ∀ r, r < num → ∃ p, p < M ∧ rs.getD p 0 = r)

section
variable {M num : Nat} {b : Nat → Int} {nx : Nat → Nat} {rs ah : List Nat}

theorem mapN_at {l : List Nat} {f : Nat → Nat} {p : Nat} (h : p < l.length) : (l.map f).getD p 0 = f (l.getD p 0) := by
  simp [List.getD, List.getElem?_eq_getElem h]
theorem InO.asLt (h : InO M b nx num rs ah) {p : Nat} (hp : p < M) : ah.getD p 0 < M := by
  obtain ⟨L, _, h1, _⟩ := h.ex
  rw [h1 p hp]
  exact itN_lt h.cl L p hp
theorem InO.asIn (h : InO M b nx num rs ah) : ∀ p ∈ ah, p < M := fun p hp => by
  obtain ⟨i, hi, rfl⟩ := mem_getN hp
  exact h.asLt (by rw [h.la] at hi; exact hi)
theorem InO.thLen (h : InO M b nx num rs ah) : (thL rs ah).length = M := by unfold thL; rw [List.length_map, h.la]
theorem InO.thAt (h : InO M b nx num rs ah) {p : Nat} (hp : p < M) : (thL rs ah).getD p 0 = rs.getD (ah.getD p 0) 0 := by
  unfold thL; rw [mapN_at (by rw [h.la]; exact hp)]
theorem InO.thBd (h : InO M b nx num rs ah) : ∀ p, p < M → (thL rs ah).getD p 0 < max 256 M := fun p hp => by
  rw [h.thAt hp]; exact h.bd _ (h.asLt hp)
theorem InO.perm1 (h : InO M b nx num rs ah) : (csort (max 256 M) (List.range M) fun p => (thL rs ah).getD p 0).Perm (List.range M) :=
  csort_perm fun p hp => h.thBd p (List.mem_range.1 hp)
theorem InO.perm (h : InO M b nx num rs ah) : (ordL M rs ah).Perm (List.range M) :=
  (csort_perm fun p hp => h.bd p (List.mem_range.1 (h.perm1.mem_iff.1 hp))).trans h.perm1
theorem InO.sorted (h : InO M b nx num rs ah) : (ordL M rs ah).Pairwise fun p q => rs.getD p 0 < rs.getD q 0 ∨ (rs.getD p 0 = rs.getD q 0 ∧ ((thL rs ah).getD p 0 < (thL rs ah).getD q 0 ∨ ((thL rs ah).getD p 0 = (thL rs ah).getD q 0 ∧ p < q))) :=
  csort_sorted _ _ (csort_sorted _ _ List.pairwise_lt_range)
theorem InO.sorted2 (h : InO M b nx num rs ah) : (ordL M rs ah).Pairwise fun p q => ¬ Lt2 (fun p => rs.getD p 0) (fun p => (thL rs ah).getD p 0) q p := by
  refine h.sorted.imp ?_
  intro p q hpq
  simp only [Lt2]
  omega
theorem InO.lt2 (h : InO M b nx num rs ah) {L : Nat} (h1 : ∀ p, p < M → ah.getD p 0 = itN nx L p) {p q : Nat} (hp : p < M) (hq : q < M) :
    Lt2 (fun p => rs.getD p 0) (fun p => (thL rs ah).getD p 0) p q ↔ Lt2 (fun p => rs.getD p 0) (fun p => (fun p => rs.getD p 0) (itN nx L p)) p q := by
  simp only [Lt2]
  rw [h.thAt hp, h.thAt hq, h1 p hp, h1 q hq]

/-- No more were parted: it is in order. -/
theorem InO.stop (h : InO M b nx num rs ah) {bs : List Nat} (hb : ∀ i, i < M → bs.getD ((ordL M rs ah).getD i 0) 0 = clsL M rs ah i) (he : numL M rs ah = num) : (ordL M rs ah).Pairwise (RR b nx) := by
  obtain ⟨L, hL, h1, hR⟩ := h.ex
  rcases h.dn with h0 | ⟨hlt, hon⟩
  · have hM : M = 0 := by
      cases M with
      | zero => rfl
      | succ M => exfalso; rw [h0] at he; simp [numL, clsT] at he
    have hl : (ordL M rs ah).length = 0 := by rw [h.perm.length_eq, List.length_range, hM]
    rw [List.length_eq_zero_iff.1 hl]
    exact List.Pairwise.nil
  · have hi := rank_iff (rk := fun p => bs.getD p 0) h.perm h.sorted2 hb
    obtain ⟨d1, d2⟩ := rank_dense (rk := fun p => bs.getD p 0) h.perm hb
    have hsame := dense_same (M := M) (n := num) (a := fun p => rs.getD p 0) (b := fun p => bs.getD p 0) hon hlt (fun p hp => by rw [← he]; exact d1 p hp)
      (fun p q hp hq hpq => (hi p q hp hq).2 (.inl hpq))
    have hs : ∀ p q, p < M → q < M → rs.getD p 0 = rs.getD q 0 → rs.getD (itN nx L p) 0 = rs.getD (itN nx L q) 0 := fun p q hp hq e => by
      have e2 : bs.getD p 0 = bs.getD q 0 := by rw [hsame p hp, hsame q hq]; exact e
      have n1 : ¬ Lt2 (fun p => rs.getD p 0) (fun p => (thL rs ah).getD p 0) p q := fun hh => by have := (hi p q hp hq).2 hh; omega
      have n2 : ¬ Lt2 (fun p => rs.getD p 0) (fun p => (thL rs ah).getD p 0) q p := fun hh => by have := (hi q p hq hp).2 hh; omega
      simp only [Lt2] at n1 n2
      rw [h.thAt hp, h.thAt hq, h1 p hp, h1 q hq] at n1 n2
      omega
    refine List.Pairwise.imp_of_mem ?_ h.sorted
    intro p q hp hq hpq
    have hp' := List.mem_range.1 (h.perm.mem_iff.1 hp)
    have hq' := List.mem_range.1 (h.perm.mem_iff.1 hq)
    rw [h.thAt hp', h.thAt hq', h1 p hp', h1 q hq'] at hpq
    exact hR.order hL h.cl hs hp' hq' hpq

theorem numL_le (M : Nat) (rs ah : List Nat) : numL M rs ah ≤ M := by
  cases M with
  | zero => exact Nat.le_refl _
  | succ M => have := cls_le (ordL (M + 1) rs ah) (fun p => rs.getD p 0) (fun p => (thL rs ah).getD p 0) M; show cls _ _ _ _ + 1 ≤ _; omega

/-- Some were: on with twice as many. -/
theorem InO.next (h : InO M b nx num rs ah) {bs : List Nat} (hl : bs.length = M) (hb : ∀ i, i < M → bs.getD ((ordL M rs ah).getD i 0) 0 = clsL M rs ah i) (he : numL M rs ah ≠ num) : InO M b nx (numL M rs ah) bs (thL ah ah) ∧ num < numL M rs ah := by
  obtain ⟨L, hL, h1, hR⟩ := h.ex
  have hi := rank_iff (rk := fun p => bs.getD p 0) h.perm h.sorted2 hb
  obtain ⟨d1, d2⟩ := rank_dense (rk := fun p => bs.getD p 0) h.perm hb
  have hn := numL_le M rs ah
  refine ⟨⟨hl, ?_, h.cl, ⟨L + L, by omega, fun p hp => ?_, fun p q hp hq => ?_⟩, fun p hp => ?_, .inr ⟨d1, d2⟩⟩, ?_⟩
  · unfold thL; rw [List.length_map, h.la]
  · unfold thL
    rw [mapN_at (by rw [h.la]; exact hp), h1 _ (h.asLt hp), h1 p hp, itN_add]
  · rw [hi p q hp hq, h.lt2 h1 hp hq]
    exact hR.twice h.cl hp hq
  · have := d1 p hp
    have h2 : clsT (ordL M rs ah) (fun p => rs.getD p 0) (fun p => (thL rs ah).getD p 0) M ≤ M := hn
    omega
  · rcases h.dn with h0 | ⟨hlt, hon⟩
    · omega
    · have := dense_more (M := M) (n := num) (m := numL M rs ah) (a := fun p => rs.getD p 0) (b := fun p => bs.getD p 0) hon d1 (fun p q hp hq hpq => (hi p q hp hq).2 (.inl hpq))
      omega

theorem InO.start {M : Nat} {b : Nat → Int} {nx : Nat → Nat} {rs ah : List Nat} (lr : rs.length = M) (la : ah.length = M) (hnx : ∀ p, p < M → nx p < M) (hr : ∀ p, p < M → b p = (rs.getD p 0 : Nat)) (hb : ∀ p, p < M → rs.getD p 0 < 256) (ha : ∀ p, p < M → ah.getD p 0 = nx p) : InO M b nx 0 rs ah :=
  ⟨lr, la, hnx, ⟨1, by omega, fun p hp => by rw [ha p hp]; rfl, Rk.start hr⟩, fun p hp => by have := hb p hp; omega, .inl rfl⟩
end
end Go.Proofs.YtlmbdafilboblaaGreat

/- All rotations of words, listed and in order. Plain numbers, no conditions. -/
namespace Go.Proofs.YtlmbdafilboblaaGreat
set_option linter.unusedVariables false
set_option linter.unusedSimpArgs false

def wordAt (zss : List (List Int)) (i : Nat) : List Int := zss.getD i []
def rowP (i n : Nat) : List (Nat × Nat) := (List.range n).map fun j => (i, j)
/-- All rotations of the first so many words. -/
def listK (zss : List (List Int)) (k : Nat) : List (Nat × Nat) := (List.range k).flatMap fun i => rowP i (wordAt zss i).length
def listP (zss : List (List Int)) : List (Nat × Nat) := listK zss zss.length
def offP (zss : List (List Int)) (k : Nat) : Nat := (listK zss k).length

theorem rowP_len (i n : Nat) : (rowP i n).length = n := by simp [rowP]
theorem rowP_at {i n j : Nat} (h : j < n) : (rowP i n).getD j (0, 0) = (i, j) := by simp [rowP, List.getD, h]
theorem rowP_succ (i n : Nat) : rowP i (n + 1) = rowP i n ++ [(i, n)] := by simp [rowP, List.range_succ]
theorem listK_succ (zss : List (List Int)) (k : Nat) : listK zss (k + 1) = listK zss k ++ rowP k (wordAt zss k).length := by
  unfold listK
  rw [List.range_succ, List.flatMap_append]
  simp
theorem offP_succ (zss : List (List Int)) (k : Nat) : offP zss (k + 1) = offP zss k + (wordAt zss k).length := by
  unfold offP
  rw [listK_succ, List.length_append, rowP_len]
theorem offP_mono (zss : List (List Int)) : ∀ {k l : Nat}, k ≤ l → offP zss k ≤ offP zss l := by
  intro k l h
  induction h with
  | refl => exact Nat.le_refl _
  | step _ ih => rw [offP_succ]; omega
theorem offP_in (zss : List (List Int)) {k l t : Nat} (h : k < l) (ht : t < (wordAt zss k).length) : offP zss k + t < offP zss l := by
  have := offP_mono zss (show k + 1 ≤ l from h)
  rw [offP_succ] at this
  omega
theorem listK_at (zss : List (List Int)) : ∀ {K k t : Nat}, k < K → t < (wordAt zss k).length → (listK zss K).getD (offP zss k + t) (0, 0) = (k, t) := by
  intro K
  induction K with
  | zero => intro k t h _; omega
  | succ K ih =>
    intro k t hk ht
    rw [listK_succ]
    by_cases h : k < K
    · have hlt : offP zss k + t < (listK zss K).length := offP_in zss h ht
      rw [← ih h ht]
      simp only [List.getD_eq_getElem?_getD]
      rw [List.getElem?_append_left hlt]
    · have e : k = K := by omega
      subst e
      rw [← rowP_at (i := k) ht]
      simp only [List.getD_eq_getElem?_getD]
      rw [List.getElem?_append_right (by unfold offP; omega)]
      congr 2
      unfold offP; omega
theorem listK_split (zss : List (List Int)) : ∀ {K j : Nat}, j < offP zss K → ∃ k t, k < K ∧ t < (wordAt zss k).length ∧ j = offP zss k + t := by
  intro K
  induction K with
  | zero => intro j h; simp [offP, listK] at h
  | succ K ih =>
    intro j hj
    by_cases h : j < offP zss K
    · obtain ⟨k, t, h1, h2, h3⟩ := ih h
      exact ⟨k, t, by omega, h2, h3⟩
    · rw [offP_succ] at hj
      exact ⟨K, j - offP zss K, by omega, by omega, by omega⟩
theorem offP_flat (zss : List (List Int)) : ∀ {k : Nat}, k ≤ zss.length → offP zss k = (zss.take k).flatten.length := by
  intro k
  induction k with
  | zero => intro _; simp [offP, listK]
  | succ k ih =>
    intro h
    rw [offP_succ, ih (by omega), List.take_add_one, List.getElem?_eq_getElem (by omega), Option.toList_some, List.flatten_append, List.length_append]
    simp [wordAt, List.getD, List.getElem?_eq_getElem (show k < zss.length by omega)]

/-- What is read from a rotation's beginning on, without end. -/
def sqP (zss : List (List Int)) (t : Nat × Nat) (k : Nat) : Int := (wordAt zss t.1).getD ((t.2 + k) % (wordAt zss t.1).length) 0
theorem sqP_turn {zss : List (List Int)} {t : Nat × Nat} (h : t.2 < (wordAt zss t.1).length) (k : Nat) : atW (turnI (wordAt zss t.1) t.2) k = sqP zss t k := by
  unfold atW sqP
  rw [turnI_len (by omega), turnI_at h (Nat.mod_lt _ (by omega)), Nat.add_mod_mod]
/-- Ahead in the list. -/
def Bef (t u : Nat × Nat) : Prop := t.1 < u.1 ∨ (t.1 = u.1 ∧ t.2 < u.2)
/-- Less without end; of the same ones by the word's place, then the rotation's. -/
def RP (zss : List (List Int)) (t u : Nat × Nat) : Prop := LtF (sqP zss t) (sqP zss u) ∨ ((∀ k, sqP zss t k = sqP zss u k) ∧ Bef t u)

theorem RP.asymm {zss : List (List Int)} {t u : Nat × Nat} (h : RP zss t u) (k : RP zss u t) : False := by
  rcases h with h | ⟨h1, h2⟩ <;> rcases k with k | ⟨k1, k2⟩
  · exact LtF.irr h k
  · obtain ⟨m, _, h2⟩ := h; have := k1 m; omega
  · obtain ⟨m, _, h3⟩ := k; have := h1 m; omega
  · unfold Bef at *; omega

def bP (zss : List (List Int)) (p : Nat) : Int := sqP zss ((listP zss).getD p (0, 0)) 0
def nxP (zss : List (List Int)) (p : Nat) : Nat := p - ((listP zss).getD p (0, 0)).2 + (((listP zss).getD p (0, 0)).2 + 1) % (wordAt zss ((listP zss).getD p (0, 0)).1).length

theorem listP_at {zss : List (List Int)} {i j : Nat} (hi : i < zss.length) (hj : j < (wordAt zss i).length) : (listP zss).getD (offP zss i + j) (0, 0) = (i, j) := listK_at zss hi hj
theorem nxP_at {zss : List (List Int)} {i j : Nat} (hi : i < zss.length) (hj : j < (wordAt zss i).length) : nxP zss (offP zss i + j) = offP zss i + (j + 1) % (wordAt zss i).length := by
  unfold nxP
  rw [listP_at hi hj]
  show offP zss i + j - j + (j + 1) % (wordAt zss i).length = _
  omega
theorem itP_at {zss : List (List Int)} {i : Nat} (hi : i < zss.length) : ∀ (k : Nat) {j : Nat}, j < (wordAt zss i).length → itN (nxP zss) k (offP zss i + j) = offP zss i + (j + k) % (wordAt zss i).length
  | 0, j, hj => by rw [Nat.add_zero, Nat.mod_eq_of_lt hj]; rfl
  | k + 1, j, hj => by
    show itN (nxP zss) k (nxP zss (offP zss i + j)) = _
    rw [nxP_at hi hj, itP_at hi k (Nat.mod_lt _ (by omega)), Nat.mod_add_mod]
    congr 2
    omega
theorem seqP_at {zss : List (List Int)} {i j : Nat} (hi : i < zss.length) (hj : j < (wordAt zss i).length) (k : Nat) : seqN (bP zss) (nxP zss) (offP zss i + j) k = sqP zss (i, j) k := by
  have hm : (j + k) % (wordAt zss i).length < (wordAt zss i).length := Nat.mod_lt _ (by omega)
  unfold seqN bP
  rw [itP_at hi k hj, listP_at hi hm]
  simp only [sqP, Nat.add_zero, Nat.mod_mod]
theorem nxP_lt {zss : List (List Int)} : ∀ p, p < (listP zss).length → nxP zss p < (listP zss).length := fun p hp => by
  obtain ⟨i, j, hi, hj, rfl⟩ := listK_split zss (K := zss.length) hp
  rw [nxP_at hi hj]
  exact offP_in zss hi (Nat.mod_lt _ (by omega))
theorem RR_RP {zss : List (List Int)} {p q : Nat} (hp : p < (listP zss).length) (hq : q < (listP zss).length) (h : RR (bP zss) (nxP zss) p q) : RP zss ((listP zss).getD p (0, 0)) ((listP zss).getD q (0, 0)) := by
  obtain ⟨i, j, hi, hj, rfl⟩ := listK_split zss (K := zss.length) hp
  obtain ⟨i', j', hi', hj', rfl⟩ := listK_split zss (K := zss.length) hq
  rw [listP_at hi hj, listP_at hi' hj']
  have e1 : seqN (bP zss) (nxP zss) (offP zss i + j) = sqP zss (i, j) := by funext k; exact seqP_at hi hj k
  have e2 : seqN (bP zss) (nxP zss) (offP zss i' + j') = sqP zss (i', j') := by funext k; exact seqP_at hi' hj' k
  unfold RR at h
  rw [e1, e2] at h
  rcases h with h | ⟨h1, h2⟩
  · exact .inl h
  · refine .inr ⟨h1, ?_⟩
    show i < i' ∨ (i = i' ∧ j < j')
    rcases Nat.lt_trichotomy i i' with g | g | g
    · exact .inl g
    · subst g; exact .inr ⟨rfl, by omega⟩
    · have := offP_in zss g hj'; omega

theorem map_range_getD {α : Type} (l : List α) (d : α) : (List.range l.length).map (fun p => l.getD p d) = l := by
  refine List.ext_getElem (by simp) fun k h1 h2 => ?_
  simp [List.getD, List.getElem?_eq_getElem h2]
/-- The order that omega makes, as pairs. -/
theorem turns_sorted {zss : List (List Int)} {ord : List Nat} (hp : ord.Perm (List.range (listP zss).length)) (hr : ord.Pairwise (RR (bP zss) (nxP zss))) :
    (ord.map fun p => (listP zss).getD p (0, 0)).Perm (listP zss) ∧ (ord.map fun p => (listP zss).getD p (0, 0)).Pairwise (RP zss) := by
  constructor
  · have := hp.map fun p => (listP zss).getD p (0, 0)
    rwa [map_range_getD] at this
  · rw [List.pairwise_map]
    refine List.Pairwise.imp_of_mem ?_ hr
    intro p q h1 h2 h
    exact RR_RP (List.mem_range.1 (hp.mem_iff.1 h1)) (List.mem_range.1 (hp.mem_iff.1 h2)) h
theorem sorted_unique {zss : List (List Int)} {l l' : List (Nat × Nat)} (h1 : l.Perm (listP zss)) (h2 : l'.Perm (listP zss)) (k1 : l.Pairwise (RP zss)) (k2 : l'.Pairwise (RP zss)) : l = l' :=
  List.Perm.eq_of_pairwise (le := RP zss) (fun a b _ _ h k => (h.asymm k).elim) k1 k2 (h1.trans h2.symm)

/-- What the document's search for the place keeps. -/
def Ins (zss : List (List Int)) (out : List (Nat × Nat)) (t : Nat × Nat) (j : Nat) : Prop := ∀ m, j ≤ m → m < out.length → LtF (sqP zss t) (sqP zss (out.getD m (0, 0)))
theorem getP_mem {l : List (Nat × Nat)} {i : Nat} (h : i < l.length) : l.getD i (0, 0) ∈ l := by
  rw [List.getD_eq_getElem?_getD, List.getElem?_eq_getElem h]
  exact List.getElem_mem h
theorem mem_getP {l : List (Nat × Nat)} {x : Nat × Nat} (h : x ∈ l) : ∃ i, i < l.length ∧ l.getD i (0, 0) = x := by
  obtain ⟨i, hi, e⟩ := List.mem_iff_getElem.1 h
  exact ⟨i, hi, by rw [List.getD_eq_getElem?_getD, List.getElem?_eq_getElem hi]; exact e⟩
theorem pairP_at {R : Nat × Nat → Nat × Nat → Prop} {l : List (Nat × Nat)} (h : l.Pairwise R) {i j : Nat} (hij : i < j) (hj : j < l.length) : R (l.getD i (0, 0)) (l.getD j (0, 0)) := by
  have := List.pairwise_iff_getElem.1 h i j (by omega) hj hij
  simpa [List.getD, List.getElem?_eq_getElem hj, List.getElem?_eq_getElem (show i < l.length by omega)] using this
/-- In its place: what is ahead of it is not greater, what is behind it is. -/
theorem Ins.place {zss : List (List Int)} {out : List (Nat × Nat)} {t : Nat × Nat} {j : Nat} (hj : j ≤ out.length) (h : Ins zss out t j) (hs : out.Pairwise (RP zss)) (hb : ∀ u ∈ out, Bef u t)
    (he : j = 0 ∨ ¬ LtF (sqP zss t) (sqP zss (out.getD (j - 1) (0, 0)))) : (out.take j ++ [t] ++ out.drop j).Pairwise (RP zss) := by
  have hahead : ∀ x ∈ out.take j, RP zss x t := fun x hx => by
    have hx' : x ∈ out := List.mem_of_mem_take hx
    obtain ⟨m, hm, rfl⟩ := mem_getP hx
    rw [List.length_take] at hm
    have e0 : (out.take j).getD m (0, 0) = out.getD m (0, 0) := by
      simp only [List.getD_eq_getElem?_getD, List.getElem?_take]
      rw [if_pos (by omega)]
    rw [e0] at hx' ⊢
    have hne : ¬ LtF (sqP zss t) (sqP zss (out.getD m (0, 0))) := fun hlt => by
      rcases he with he | he
      · omega
      · by_cases hmj : m = j - 1
        · subst hmj; exact he hlt
        · rcases pairP_at hs (show m < j - 1 by omega) (by omega) with g | ⟨g, _⟩
          · exact he (LtF.trans hlt g)
          · obtain ⟨n, n1, n2⟩ := hlt
            exact he ⟨n, fun k hk => (n1 k hk).trans (g k), by rw [← g n]; exact n2⟩
    by_cases hlt : LtF (sqP zss (out.getD m (0, 0))) (sqP zss t)
    · exact .inl hlt
    · refine .inr ⟨fun k => ?_, hb _ hx'⟩
      rcases first_other (f := sqP zss (out.getD m (0, 0))) (g := sqP zss t) (k + 1) with g | ⟨n, _, g1, g2⟩
      · exact g k (by omega)
      · exfalso
        by_cases g3 : sqP zss (out.getD m (0, 0)) n < sqP zss t n
        · exact hlt ⟨n, g1, g3⟩
        · exact hne ⟨n, fun k hk => (g1 k hk).symm, by omega⟩
  have hbehind : ∀ y ∈ out.drop j, RP zss t y := fun y hy => by
    obtain ⟨m, hm, rfl⟩ := mem_getP hy
    rw [List.length_drop] at hm
    have e0 : (out.drop j).getD m (0, 0) = out.getD (j + m) (0, 0) := by
      simp only [List.getD_eq_getElem?_getD, List.getElem?_drop]
    rw [e0]
    exact .inl (h (j + m) (by omega) (by omega))
  have hs' : (out.take j ++ out.drop j).Pairwise (RP zss) := by rw [List.take_append_drop]; exact hs
  rw [List.pairwise_append] at hs' ⊢
  obtain ⟨p1, p2, p3⟩ := hs'
  refine ⟨?_, p2, ?_⟩
  · rw [List.pairwise_append]
    exact ⟨p1, List.pairwise_singleton _ _, fun a ha b hb => by rw [List.mem_singleton] at hb; subst hb; exact hahead a ha⟩
  · intro a ha y hy
    rcases List.mem_append.1 ha with ha | ha
    · exact p3 a ha y hy
    · rw [List.mem_singleton] at ha; subst ha; exact hbehind y hy
theorem ins_perm {out l : List (Nat × Nat)} {t : Nat × Nat} {j : Nat} (h : out.Perm l) : (out.take j ++ [t] ++ out.drop j).Perm (l ++ [t]) := by
  have h1 : (out.take j ++ [t] ++ out.drop j).Perm (out.take j ++ (out.drop j ++ [t])) := by
    rw [List.append_assoc]
    exact List.perm_append_comm.append_left _
  refine h1.trans ?_
  rw [← List.append_assoc, List.take_append_drop]
  exact h.append_right _
/-- All that were listed ahead of a rotation are ahead of it. -/
theorem listed_bef {zss : List (List Int)} {i j : Nat} {u : Nat × Nat} (h : u ∈ listK zss i ++ rowP i j) : Bef u (i, j) := by
  rcases List.mem_append.1 h with h | h
  · obtain ⟨k, hk, hu⟩ := List.mem_flatMap.1 h
    obtain ⟨m, hm, rfl⟩ := List.mem_map.1 hu
    exact .inl (List.mem_range.1 hk)
  · obtain ⟨m, hm, rfl⟩ := List.mem_map.1 h
    exact .inr ⟨rfl, List.mem_range.1 hm⟩
theorem listed_in {zss : List (List Int)} {i j : Nat} {u : Nat × Nat} (hi : i < zss.length) (hj : j ≤ (wordAt zss i).length) (h : u ∈ listK zss i ++ rowP i j) : u.1 < zss.length ∧ u.2 < (wordAt zss u.1).length := by
  rcases List.mem_append.1 h with h | h
  · obtain ⟨k, hk, hu⟩ := List.mem_flatMap.1 h
    obtain ⟨m, hm, rfl⟩ := List.mem_map.1 hu
    have := List.mem_range.1 hk
    have := List.mem_range.1 hm
    exact ⟨by show k < _; omega, by show m < _; omega⟩
  · obtain ⟨m, hm, rfl⟩ := List.mem_map.1 h
    have := List.mem_range.1 hm
    exact ⟨hi, by show m < (wordAt zss i).length; omega⟩
end Go.Proofs.YtlmbdafilboblaaGreat

/- A text's factors, cut off one by one. No conditions. -/
namespace Go.Proofs.YtlmbdafilboblaaGreat
set_option linter.unusedVariables false
set_option linter.unusedSimpArgs false
open Go.RowKit

theorem cutFac_len : ∀ (l s : List Int), (cutFac l s).length = l.length
  | [], _ => rfl
  | _ :: l, s => by rw [cutFac, List.length_cons, List.length_cons, cutFac_len l]
theorem facW_len (s : List Int) : (facW s).length ≤ s.length := by
  unfold facW
  rw [cutFac_len]
  exact facL_len _ s (Nat.le_refl _)
theorem facW_off (s : List Int) : offP (facW s) (facW s).length = s.length := by
  rw [offP_flat (facW s) (Nat.le_refl _), List.take_length, (facW_flat s.length s (Nat.le_refl _)).1]
/-- What is left, a factor on. -/
theorem fac_next {F rest : List Int} {i : Nat} (hi : i < F.length) (h : F.drop i = facL rest) : rest.length ≠ 0 ∧ F.getD i 0 = (longI rest : Int) ∧ F.drop (i + 1) = facL (rest.drop (longI rest)) := by
  have hd := List.drop_eq_getElem_cons hi
  have h0 : rest.length ≠ 0 := fun e => by rw [facL_nil e, hd] at h; cases h
  rw [facL_cons h0, hd, List.cons.injEq] at h
  refine ⟨h0, ?_, h.2⟩
  rw [List.getD_eq_getElem?_getD, List.getElem?_eq_getElem hi]
  exact h.1
theorem sl_slice {k : IntKind} {w : World} {v : Value} {zs : List Int} (h : Sl k w v zs) : ∃ a c, v = .slice a zs.length c := by
  obtain ⟨a, c, rfl, _⟩ := h
  exact ⟨a, c, rfl⟩
end Go.Proofs.YtlmbdafilboblaaGreat

/- Arguments opened: a slice of slices of bytes. Over any program; no conditions. -/
namespace Go.Proofs.YtlmbdafilboblaaGreat
set_option linter.unusedVariables false
set_option linter.unusedSimpArgs false
open Go.RowKit Go.ChangeShapes Go.WideShapes Go.Deep

/-- A row of rows of bytes. -/
def Sls (w : World) (v : Value) (zss : List (List Int)) : Prop :=
  ∃ a c, v = .slice a zss.length c ∧ zss.length ≤ maxLen ∧ (zss = [] ∨ ∃ b off, a = some ⟨b, off, none⟩ ∧ ∀ i, i < zss.length → ∃ s, w.cell? ⟨b, off + i, none⟩ = some s ∧ Sl .u8 w s (zss.getD i []))

theorem mem_weightsAll {H : Type} {P : Program} {e : TypeId} {n : Nat} {d : DataW H} (hn : n ∈ d.weights P e) : ∀ {l : List (DataW H)}, d ∈ l → n ∈ DataW.weightsAll P e l
  | d0 :: l, h => by
    simp only [DataW.weightsAll, List.mem_append]
    rcases List.mem_cons.1 h with rfl | h
    · exact .inl hn
    · exact .inr (mem_weightsAll hn h)

/-- A slice of slices of bytes that came in: its rows, each byte in its bounds, each row within the reach. -/
theorem open_bytess {H : Type} {enc : TypeId × Value → H} {P : Program} {w : World} {t e q : TypeId} {a : Option Addr} {len cap : Nat} {d : DataW H} {ps : List MemPlace}
    (ht : P.underlying t = some (.slice e)) (he : P.underlying e = some (.slice q)) (hq : P.underlying q = some (.int .u8)) (ce : P.cellsOf e = 1) (cq : P.cellsOf q = 1) (bq : P.bytesOf q = 1)
    (h : DataW.Trod enc P w 0 (fun _ => true) true t (.slice a len cap) d ps) (hsz : ∀ n ∈ d.weights P t, n ≤ reachBytes) :
    ∃ zss, Sls w (.slice a len cap) zss ∧ (∀ zs ∈ zss, ∀ z ∈ zs, 0 ≤ z ∧ z ≤ 255) ∧ ∀ zs ∈ zss, zs.length ≤ 140737488351232 := by
  obtain ⟨fuel, hf⟩ := h
  rcases open_int_rows ht he hq ce cq hf with ⟨hcs, _⟩ | ⟨x, len', cap', A, L, C, Z, hcs, _, hl, hm, hx, hrows⟩
  · simp [Value.cells] at hcs
    obtain ⟨rfl, rfl, rfl⟩ := hcs
    exact ⟨[], ⟨_, 0, rfl, by simp, .inl rfl⟩, by simp, by simp⟩
  simp [Value.cells] at hcs
  obtain ⟨rfl, rfl, rfl⟩ := hcs
  simp only [Prod.mk.injEq] at hx
  obtain ⟨rfl, _⟩ := hx
  have hmem : ∀ zs, zs ∈ ((List.range len).map fun r => (Z r).take (L r)) → ∃ r, r < len ∧ zs = (Z r).take (L r) := fun zs hz => by
    obtain ⟨r, hr, e⟩ := List.mem_map.1 hz
    exact ⟨r, List.mem_range.1 hr, e.symm⟩
  refine ⟨(List.range len).map fun r => (Z r).take (L r), ?_, ?_, ?_⟩
  · refine ⟨some x, cap, by simp, by simp; omega, ?_⟩
    by_cases h0 : len = 0
    · subst h0; exact .inl rfl
    obtain ⟨b, off, spot⟩ := x
    have hspot : spot = none := by simpa [Addr.add] using World.cell?_spot (hrows 0 (by omega)).1
    subst hspot
    refine .inr ⟨b, off, rfl, fun i hi => ?_⟩
    have hi' : i < len := by simpa using hi
    obtain ⟨h1, h2, h3, h4, h5, h6, h7⟩ := hrows i (by omega)
    refine ⟨_, by rw [← add_plain]; exact h1, ?_⟩
    have e1 : ((List.range len).map fun r => (Z r).take (L r)).getD i [] = (Z i).take (L i) := by simp [List.getD, hi']
    rw [e1]
    refine (Sl.ofRow (zs := Z i) ?_).1
    cases hA : A i with
    | none =>
      have hc := h6 hA
      exact .inl ⟨rfl, by omega, hc, List.length_eq_zero_iff.1 (by omega)⟩
    | some a' => exact .inr ⟨a', rfl, h2, h3, h4, fun j hj => (h7 a' hA).2 j (by omega), h5⟩
  · intro zs hz z hzz
    obtain ⟨r, hr, rfl⟩ := hmem zs hz
    exact Go.bounds_u8 ((hrows r (by omega)).2.2.2.2.1 z (List.mem_of_mem_take hzz))
  · intro zs hz
    obtain ⟨r, hr, rfl⟩ := hmem zs hz
    obtain ⟨h1, h2, h3, h4, h5, h6, h7⟩ := hrows r (by omega)
    have hlen : ((Z r).take (L r)).length ≤ C r := by simp; omega
    refine Nat.le_trans hlen ?_
    cases hA : A r with
    | none => rw [h6 hA]; omega
    | some a' =>
      have hw : C r ∈ (intRow (H := H) .u8 (A r) (L r) (Z r)).weights P e := by
        rw [hA]
        simp only [intRow, DataW.weights, he, bq, lits, List.length_map, List.length_take, List.length_drop, Nat.mul_one, List.mem_cons]
        left; omega
      have hd : intRow (H := H) .u8 (A r) (L r) (Z r) ∈ (List.range len).map fun r => intRow .u8 (A r) (L r) (Z r) := List.mem_map.2 ⟨r, List.mem_range.2 hr, rfl⟩
      have := hsz (C r) (by
        simp only [DataW.weights, ht, List.mem_cons, List.mem_append]
        exact .inr (.inl (mem_weightsAll hw hd)))
      exact this
end Go.Proofs.YtlmbdafilboblaaGreat

/- Rows of rows of bytes: what stays, and some that are laid. Over any program; no conditions. -/
namespace Go.Proofs.YtlmbdafilboblaaGreat
set_option linter.unusedVariables false
set_option linter.unusedSimpArgs false
open Go.RowKit

theorem Sls.ext {w w' : World} {v : Value} {zss : List (List Int)} (h : Sls w v zss) (he : Ext w w') : Sls w' v zss := by
  obtain ⟨a, c, h1, h2, h4⟩ := h
  refine ⟨a, c, h1, h2, ?_⟩
  rcases h4 with h4 | ⟨g, off, h4, h5⟩
  · exact .inl h4
  · refine .inr ⟨g, off, h4, fun i hi => ?_⟩
    obtain ⟨s, h6, h7⟩ := h5 i hi
    exact ⟨s, he.cellOf h6, h7.ext he⟩

theorem drop_cons' {α : Type} (zs : List α) (k : Nat) (d x : α) (h : k < zs.length) (hx : zs.getD k d = x) : zs.drop k = x :: zs.drop (k + 1) := by
  rw [List.getD_eq_getElem?_getD, List.getElem?_eq_getElem h, Option.getD_some] at hx
  rw [← hx, ← List.getElem_cons_drop h]

theorem Sls.one {w : World} {s : Value} {zs : List Int} {e : TypeId} (h : Sl .u8 w s zs) (g : Nat) (hg : g = w.heap.size) : Sls (w.alloc (.cells #[s] e)) (.slice (some ⟨g, 0, none⟩) 1 1) [zs] := by
  subst hg
  refine ⟨_, 1, rfl, by simp [maxLen], .inr ⟨w.heap.size, 0, rfl, fun i hi => ?_⟩⟩
  have he : Ext w (w.alloc (.cells #[s] e)) := (Below.refl _ _).alloc (Nat.le_refl _) _
  match i, hi with
  | 0, _ => exact ⟨s, by simp, h.ext he⟩
theorem Sls.two {w : World} {s u : Value} {zs ys : List Int} {e : TypeId} (h : Sl .u8 w s zs) (h' : Sl .u8 w u ys) (g : Nat) (hg : g = w.heap.size) : Sls (w.alloc (.cells #[s, u] e)) (.slice (some ⟨g, 0, none⟩) 2 2) [zs, ys] := by
  subst hg
  refine ⟨_, 2, rfl, by simp [maxLen], .inr ⟨w.heap.size, 0, rfl, fun i hi => ?_⟩⟩
  have he : Ext w (w.alloc (.cells #[s, u] e)) := (Below.refl _ _).alloc (Nat.le_refl _) _
  match i, hi with
  | 0, _ => exact ⟨s, by simp, h.ext he⟩
  | 1, _ => exact ⟨u, by simp, h'.ext he⟩
theorem Sls.none (w : World) : Sls w (.slice .none 0 0) [] := ⟨_, 0, rfl, by simp, .inl rfl⟩

theorem flatten_take {zss : List (List Int)} {k : Nat} {zs : List Int} (hk : k < zss.length) (h : zss.getD k [] = zs) : (zss.take (k + 1)).flatten = (zss.take k).flatten ++ zs := by
  rw [List.getD_eq_getElem?_getD, List.getElem?_eq_getElem hk, Option.getD_some] at h
  rw [List.take_add_one, List.getElem?_eq_getElem hk, Option.toList_some, List.flatten_append, h]
  simp
theorem flatten_take_le (zss : List (List Int)) (k : Nat) : (zss.take k).flatten.length ≤ zss.flatten.length := by
  have h : (zss.take k).flatten ++ (zss.drop k).flatten = zss.flatten := by rw [← List.flatten_append, List.take_append_drop]
  rw [← h, List.length_append]
  omega

/-- The row at place k. -/
theorem Sls.row {w : World} {a : Option Addr} {n c : Nat} {zss : List (List Int)} (h : Sls w (.slice a n c) zss) {k : Nat} (hk : k < zss.length) :
    ∃ g off a2 c2, a = some ⟨g, off, .none⟩ ∧ w.cell? ⟨g, off + k, .none⟩ = some (.slice a2 (zss.getD k []).length c2) ∧ c2 ≤ maxLen ∧ (zss.getD k []).length ≤ c2 ∧ Sl .u8 w (.slice a2 (zss.getD k []).length c2) (zss.getD k []) := by
  obtain ⟨a', c', hv, _, h4⟩ := h
  simp only [Value.slice.injEq] at hv
  obtain ⟨rfl, _, rfl⟩ := hv
  rcases h4 with h4 | ⟨g, off, rfl, h5⟩
  · rw [h4] at hk; exact absurd hk (by simp)
  obtain ⟨s, h6, h7⟩ := h5 k hk
  have h8 := h7
  obtain ⟨a2, c2, rfl, h9, h10, _⟩ := h7
  exact ⟨g, off, a2, c2, rfl, h6, h10, h9, h8⟩
end Go.Proofs.YtlmbdafilboblaaGreat

/- Rows of slices of bytes as rows of values ([][]byte): read, owned, appended to. -/
namespace Go.Proofs.YtlmbdafilboblaaGreat
set_option linter.unusedVariables false
set_option linter.unusedSimpArgs false
open Go.RowKit

/-- A row of values that may be read. -/
def SlV (w : World) (v : Value) (vs : List Value) : Prop :=
  ∃ a c, v = .slice a vs.length c ∧ vs.length ≤ c ∧ c ≤ maxLen ∧ (a = none → c = 0) ∧ (vs = [] ∨ ∃ b off, a = some ⟨b, off, none⟩ ∧ ∀ i u, vs[i]? = some u → w.cell? ⟨b, off + i, none⟩ = some u)
/-- What they read as. -/
def Read8 (w : World) (vs : List Value) (zss : List (List Int)) : Prop := vs.length = zss.length ∧ ∀ i u, vs[i]? = some u → Sl .u8 w u (zss.getD i [])
/-- Each the call's own. -/
def Rows8 (B : Nat) (w : World) (vs : List Value) (zss : List (List Int)) : Prop := vs.length = zss.length ∧ ∀ i u, vs[i]? = some u → Own .u8 5 B w u (zss.getD i [])
/-- The row itself the call's own. -/
def OwnV (B : Nat) (w : World) (s : Value) (vs : List Value) : Prop := w.ownsRow B 22 1 s vs.length vs

theorem SlV.ext {w w' : World} {v : Value} {vs : List Value} (h : SlV w v vs) (he : Ext w w') : SlV w' v vs := by
  obtain ⟨a, c, h1, h2, h3, h0, h4⟩ := h
  refine ⟨a, c, h1, h2, h3, h0, ?_⟩
  rcases h4 with h4 | ⟨b, off, h4, h5⟩
  · exact .inl h4
  · exact .inr ⟨b, off, h4, fun j v hj => he.cellOf (h5 j v hj)⟩
theorem Read8.ext {w w' : World} {vs : List Value} {zss : List (List Int)} (h : Read8 w vs zss) (he : Ext w w') : Read8 w' vs zss := ⟨h.1, fun i u hu => (h.2 i u hu).ext he⟩
theorem Rows8.ext {B : Nat} {w w' : World} {vs : List Value} {zss : List (List Int)} (h : Rows8 B w vs zss) (he : Ext w w') : Rows8 B w' vs zss := ⟨h.1, fun i u hu => (h.2 i u hu).ext he⟩
theorem Rows8.low {B B' : Nat} {w : World} {vs : List Value} {zss : List (List Int)} (h : Rows8 B w vs zss) (hB : B' ≤ B) : Rows8 B' w vs zss := ⟨h.1, fun i u hu => (h.2 i u hu).low hB⟩
theorem Rows8.read {B : Nat} {w : World} {vs : List Value} {zss : List (List Int)} (h : Rows8 B w vs zss) : Read8 w vs zss := ⟨h.1, fun i u hu => (h.2 i u hu).sl⟩
theorem OwnV.ext {B : Nat} {w w' : World} {s : Value} {vs : List Value} (h : OwnV B w s vs) (he : Ext w w') : OwnV B w' s vs :=
  World.ownsRow.kept (row := none) h ⟨he.os, he.tape, he.output, he.size, fun i hi _ => he.block i hi⟩ (by cases hv : s.ownBlock <;> simp)
theorem OwnV.low {B B' : Nat} {w : World} {s : Value} {vs : List Value} (h : OwnV B w s vs) (hB : B' ≤ B) : OwnV B' w s vs := by
  obtain ⟨h1, h2⟩ := h
  refine ⟨h1, ?_⟩
  rcases h2 with h2 | ⟨g, cap, cur, h2, h3, h4⟩
  · exact .inl h2
  · exact .inr ⟨g, cap, cur, h2, Nat.le_trans hB h3, h4⟩
theorem OwnV.nil (B : Nat) (w : World) : OwnV B w (.slice none 0 0) [] := World.ownsRow_nil _ _ _ _
theorem OwnV.sl {B : Nat} {w : World} {s : Value} {vs : List Value} (h : OwnV B w s vs) : SlV w s vs := by
  rcases h.2 with ⟨rfl, h2⟩ | ⟨g, cap, cur, rfl, _, hh, hn, hm, hs, ht⟩
  · exact ⟨none, 0, by rw [h2], by omega, by simp [maxLen], fun _ => rfl, .inl (List.length_eq_zero_iff.1 h2)⟩
  · refine ⟨_, cap, rfl, hn, hm, (fun h => by cases h), .inr ⟨g, 0, rfl, fun j v hj => ?_⟩⟩
    have := World.ownsRow.cells h (g := g) rfl j v hj
    rwa [Addr.add_mid] at this
/-- An empty row just laid. -/
theorem OwnV.lit (B : Nat) (w : World) (hB : B ≤ w.heap.size) (g : Nat) (hg : g = w.heap.size) : OwnV B (w.alloc (.cells #[] 22)) (.slice (some ⟨g, 0, none⟩) 0 0) [] := by
  subst hg
  exact World.ownsRow_made w #[] 0 hB (by simp) (by simp)
theorem SlV.sls {w : World} {v : Value} {vs : List Value} {zss : List (List Int)} (h : SlV w v vs) (hr : Read8 w vs zss) : Sls w v zss := by
  obtain ⟨a, c, h1, h2, h3, h0, h4⟩ := h
  refine ⟨a, c, by rw [h1, hr.1], by rw [← hr.1]; omega, ?_⟩
  rcases h4 with h4 | ⟨b, off, h4, h5⟩
  · left
    have := hr.1
    rw [h4] at this
    exact List.length_eq_zero_iff.1 this.symm
  · refine .inr ⟨b, off, h4, fun i hi => ?_⟩
    have hv : vs[i]? = some (vs[i]'(by rw [hr.1]; exact hi)) := List.getElem?_eq_getElem _
    exact ⟨_, h5 i _ hv, hr.2 i _ hv⟩
theorem Sl.cell1 {k : IntKind} {w : World} {v : Value} {zs : List Int} (h : Sl k w v zs) : v.oneCell' = true := by
  obtain ⟨a, c, rfl, _⟩ := h
  rfl
theorem Read8.one {w : World} {vs : List Value} {zss : List (List Int)} (h : Read8 w vs zss) : ∀ u ∈ vs, u.oneCell' = true := fun u hu => by
  obtain ⟨i, hi, e⟩ := List.mem_iff_getElem.1 hu
  exact (h.2 i u (by rw [List.getElem?_eq_getElem hi, e])).cell1
theorem Read8.nil (w : World) : Read8 w [] [] := ⟨rfl, fun i u h => by simp at h⟩
theorem Rows8.nil (B : Nat) (w : World) : Rows8 B w [] [] := ⟨rfl, fun i u h => by simp at h⟩
theorem getD_app_left {α : Type} {x y : List α} {i : Nat} {d : α} (h : i < x.length) : (x ++ y).getD i d = x.getD i d := by simp only [List.getD_eq_getElem?_getD]; rw [List.getElem?_append_left h]
theorem getD_app_right {α : Type} {x y : List α} {i : Nat} {d : α} (h : x.length ≤ i) : (x ++ y).getD i d = y.getD (i - x.length) d := by simp only [List.getD_eq_getElem?_getD]; rw [List.getElem?_append_right h]
theorem lt_of_some {α : Type} {l : List α} {i : Nat} {u : α} (h : l[i]? = some u) : i < l.length := (List.getElem?_eq_some_iff.1 h).1
theorem Read8.app {w : World} {vs us : List Value} {zss yss : List (List Int)} (h : Read8 w vs zss) (k : Read8 w us yss) : Read8 w (vs ++ us) (zss ++ yss) := by
  refine ⟨by rw [List.length_append, List.length_append, h.1, k.1], fun i u hu => ?_⟩
  by_cases hi : i < vs.length
  · rw [List.getElem?_append_left hi] at hu
    rw [getD_app_left (by rw [← h.1]; exact hi)]
    exact h.2 i u hu
  · rw [List.getElem?_append_right (by omega)] at hu
    rw [getD_app_right (by rw [← h.1]; omega), ← h.1]
    exact k.2 _ u hu
theorem Read8.single {w : World} {u : Value} {zs : List Int} (h : Sl .u8 w u zs) : Read8 w [u] [zs] := ⟨rfl, fun i v hv => by
  have := lt_of_some hv
  simp at this
  subst this
  simp at hv
  subst hv
  exact h⟩
theorem Rows8.app {B : Nat} {w : World} {vs us : List Value} {zss yss : List (List Int)} (h : Rows8 B w vs zss) (k : Rows8 B w us yss) : Rows8 B w (vs ++ us) (zss ++ yss) := by
  refine ⟨by rw [List.length_append, List.length_append, h.1, k.1], fun i u hu => ?_⟩
  by_cases hi : i < vs.length
  · rw [List.getElem?_append_left hi] at hu
    rw [getD_app_left (by rw [← h.1]; exact hi)]
    exact h.2 i u hu
  · rw [List.getElem?_append_right (by omega)] at hu
    rw [getD_app_right (by rw [← h.1]; omega), ← h.1]
    exact k.2 _ u hu
theorem Rows8.single {B : Nat} {w : World} {u : Value} {zs : List Int} (h : Own .u8 5 B w u zs) : Rows8 B w [u] [zs] := ⟨rfl, fun i v hv => by
  have := lt_of_some hv
  simp at this
  subst this
  simp at hv
  subst hv
  exact h⟩
theorem Rows8.take {B : Nat} {w : World} {vs : List Value} {zss : List (List Int)} (h : Rows8 B w vs zss) (n : Nat) : Rows8 B w (vs.take n) (zss.take n) := by
  refine ⟨by rw [List.length_take, List.length_take, h.1], fun i u hu => ?_⟩
  rw [List.getElem?_take] at hu
  split at hu
  · rename_i hi
    rw [List.getD_eq_getElem?_getD, List.getElem?_take, if_pos hi, ← List.getD_eq_getElem?_getD]
    exact h.2 i u hu
  · cases hu
theorem Rows8.drop {B : Nat} {w : World} {vs : List Value} {zss : List (List Int)} (h : Rows8 B w vs zss) (n : Nat) : Rows8 B w (vs.drop n) (zss.drop n) := by
  refine ⟨by rw [List.length_drop, List.length_drop, h.1], fun i u hu => ?_⟩
  rw [List.getElem?_drop] at hu
  rw [List.getD_eq_getElem?_getD, List.getElem?_drop, ← List.getD_eq_getElem?_getD]
  exact h.2 _ u hu

/-- A block has one type: a row of another type stays. -/
theorem owns_other {e e' : TypeId} {B B' n m sz sz' : Nat} {w w' : World} {v x : Value} {xs ys : List Value} (hv : w.ownsRow B e sz v n xs) (hx : w.ownsRow B' e' sz' x m ys) (he : e ≠ e') (hg : w.grownBy w' v.ownBlock) : w'.ownsRow B' e' sz' x m ys := by
  refine World.ownsRow.kept (row := v.ownBlock) hx hg ?_
  rcases hx.2 with ⟨h, _⟩ | ⟨g, cap, cur, h, _, hb, _⟩
  · rw [h]; exact .inl rfl
  · refine .inr fun e1 => ?_
    rcases hv.2 with ⟨h', _⟩ | ⟨g', cap', cur', h', _, hb', _⟩
    · rw [h, h'] at e1; simp [Value.ownBlock] at e1
    · rw [h, h'] at e1
      simp only [Value.ownBlock, Option.some.injEq] at e1
      subst e1
      rw [hb] at hb'
      cases hb'
      exact he rfl
theorem owns_grown {e : TypeId} {B n sz : Nat} {w w' : World} {v : Value} {xs : List Value} (h : w.ownsRow B e sz v n xs) (hB : B ≤ w.heap.size) (hg : w.grownBy w' v.ownBlock) : Below B w w' :=
  (Below.refl _ _).grown hg hB (fun k hk => (World.ownsRow.lt h k hk).1)
theorem Rows8.other {B B' : Nat} {w w' : World} {s : Value} {vs us : List Value} {zss : List (List Int)} (h : Rows8 B w us zss) (hv : OwnV B' w s vs) (hg : w.grownBy w' s.ownBlock) : Rows8 B w' us zss :=
  ⟨h.1, fun i u hu => owns_other hv (h.2 i u hu) (by decide) hg⟩

theorem infoV : (Tryz.prog.info? 22).map (fun i => (i.zero, i.size, i.bytes)) = some (some (.slice none 0 0), 1, 24) := by kernel_rfl
theorem info_partsV {P : Program} {e : TypeId} {z : Value} {n b : Nat} (h : (P.info? e).map (fun i => (i.zero, i.size, i.bytes)) = some (some z, n, b)) : ∃ i, P.info? e = some i ∧ i.zero = some z ∧ i.size = n ∧ i.bytes = b := by
  cases hi : P.info? e with
  | none => simp [hi] at h
  | some i =>
    simp only [hi, Option.map_some, Option.some.injEq, Prod.mk.injEq] at h
    exact ⟨i, rfl, h.1, h.2.1, h.2.2⟩

/-- 'append(s, x)' -/
theorem wpList_snocV (w : World) {ops : Array Oper} {rest : List Oper} {o : Oper} {a : Act} {Q : Exit → Act → World → Prop} (hgd : o.guard = none) (s x : Operand)
    (ho : o.op = .call { callee := .builtin .append, args := #[s, x], argTypes := #[31, 31] }) (B : Nat) (v : Value) (vs : List Value) (u : Value) (g : Nat) (hs : a.eval s = v) (hx : a.eval x = .slice (some ⟨g, 0, none⟩) 1 1)
    (hc : w.cell? ⟨g, 0, none⟩ = some u) (h1 : u.oneCell' = true) (hown : OwnV B w v vs) (hlen : vs.length + 1 ≤ 1000000) (hB : B ≤ w.heap.size)
    (h : ∀ v' w', OwnV B w' v' (vs ++ [u]) → w.grownBy w' v.ownBlock → wpList Tryz.prog ops Q rest (a.put o.dst v') w') : wpList Tryz.prog ops Q (o :: rest) a w := by
  obtain ⟨i0, hi, hz0, hz1, hz2⟩ := info_partsV infoV
  refine wpList_append_own w hgd s x 31 ho B 22 i0 (.slice none 0 0) 1 24 Tryz.underlying31 hi hz0 hz1 hz2 rfl (by decide) v _ _ hs hown ⟨g, 0, none⟩ 1 1 [u] hx rfl ?_ (by simpa using h1) (by unfold maxLen; omega) (by omega) hB ?_
  · intro j u' hj
    rw [Addr.add_mid, Nat.zero_add]
    match j, hj with
    | 0, hj => simp at hj; subst hj; exact hc
  · intro v' w' k1 k2 _
    refine h v' w' ?_ k2
    unfold OwnV
    rw [List.length_append]
    exact k1

/-- 'append(s, xs...)' -/
theorem wpList_joinV (w : World) {ops : Array Oper} {rest : List Oper} {o : Oper} {a : Act} {Q : Exit → Act → World → Prop} (hgd : o.guard = none) (s x : Operand)
    (ho : o.op = .call { callee := .builtin .append, args := #[s, x], argTypes := #[31, 31] }) (B : Nat) (v y : Value) (vs us : List Value) (hs : a.eval s = v) (hx : a.eval x = y)
    (hsl : SlV w y us) (h1 : ∀ u ∈ us, u.oneCell' = true) (hown : OwnV B w v vs) (hlen : vs.length + us.length ≤ 1000000) (hB : B ≤ w.heap.size)
    (h : ∀ v' w', OwnV B w' v' (vs ++ us) → w.grownBy w' v.ownBlock → wpList Tryz.prog ops Q rest (a.put o.dst v') w') : wpList Tryz.prog ops Q (o :: rest) a w := by
  obtain ⟨i0, hi, hz0, hz1, hz2⟩ := info_partsV infoV
  obtain ⟨ad, c, rfl, h2, h3, h0, h4⟩ := hsl
  cases ad with
  | none =>
    have hc := h0 rfl
    subst hc
    have hy : us = [] := List.length_eq_zero_iff.1 (by omega)
    subst hy
    refine wpList_append_own_none hgd s x 31 ho B 22 i0 1 Tryz.underlying31 hi v _ _ hs hown hx ?_
    refine h v w ?_ ⟨rfl, rfl, rfl, Nat.le_refl _, fun _ _ _ => rfl⟩
    rw [List.append_nil]; exact hown
  | some ad =>
    refine wpList_append_own w hgd s x 31 ho B 22 i0 (.slice none 0 0) 1 24 Tryz.underlying31 hi hz0 hz1 hz2 rfl (by decide) v _ _ hs hown ad us.length c us hx (by simp) ?_ h1 (by unfold maxLen; omega) (by omega) hB (fun v' w' k1 k2 _ => h v' w' (by unfold OwnV; rw [List.length_append]; exact k1) k2)
    intro j u hj
    rcases h4 with rfl | ⟨b, off, hb, h5⟩
    · simp at hj
    · simp only [Option.some.injEq] at hb
      subst hb
      rw [Go.WideShapes.add_plain]
      exact h5 j u hj
end Go.Proofs.YtlmbdafilboblaaGreat

/- Contract of bij.factors. -/
namespace Go.Proofs.YtlmbdafilboblaaGreat
set_option linter.unusedVariables false
set_option linter.unusedSimpArgs false
open Go.RowKit

set_option maxHeartbeats 2000000 in
theorem bjFactors_any (v : Value) (zs : List Int) (w : World) (hv : Sl .u8 w v zs) (hlen : zs.length ≤ 100000) :
    Calls Tryz.prog 16 #[v] w fun e w' => ∃ s, e = .returned s ∧ Sls w' s (facW zs) ∧ Ext w w' := by
  have HV := hide' hv
  have C := hide' (factors_any v zs w hv (by omega))
  have HFL := hide' (facL_len zs.length zs (Nat.le_refl _))
  obtain ⟨a, c, rfl⟩ := sl_slice hv
  obtain ⟨n, HN⟩ : ∃ n, Hid (zs.length = n) := ⟨_, rfl⟩
  have HF0 : Hid ((facL zs).drop 0 = facL zs) := List.drop_zero
  have HW0 : Hid (facW zs = [] ++ facW zs) := rfl
  obtain ⟨F, HF⟩ : ∃ F, Hid (facL zs = F) := ⟨_, rfl⟩
  obtain ⟨m, HM⟩ : ∃ m, Hid (F.length = m) := ⟨_, rfl⟩
  rw [HN.out] at hlen HFL
  rw [HF.out] at C HFL
  rw [HM.out] at HFL
  have hm := HFL.out
  clear hv
  go_enter Tryz.func16, Tryz.ntmps16
  rw [HN.out] at C ⊢
  go_wp2_with fail
  refine C.out.mono ?_
  rintro e w1 ⟨s, rfl, ho, he⟩
  have S1 := hide' ho.sl
  have X1 := hide' he
  have hsz1 := he.size
  clear ho he C
  obtain ⟨sa, sc, hs⟩ := sl_slice S1.out
  rw [HM.out] at hs
  subst hs
  obtain ⟨_, _, _, hco⟩ := S1.out.int
  have CO := hide' hco
  clear hco S1
  go_wp2
  go_loopw [0, 3, 9] (fun vr vw vi wr => ∃ (i : Nat) (us : List Value) (ws : List (List Int)) (rest : List Int), i ≤ m ∧ vi = .int .i64 i ∧ Hid (facW zs = ws ++ facW rest) ∧ Hid (F.drop i = facL rest) ∧ Hid (Sl .u8 w vr rest) ∧
    Hid (OwnV w1.heap.size wr vw us) ∧ Hid (Read8 w us ws) ∧ Hid (us.length = i) ∧ Hid (Ext w1 wr)) (fun _ _ vi _ => m - (intOf vi).toNat)
  case atStart => exact ⟨0, [], [], zs, Nat.zero_le _, rfl, HW0, (by show _ = _; rw [List.drop_zero, HF.out]), (by have := HV.out; rw [HN.out] at this; exact this), OwnV.nil _ _, Read8.nil _, rfl, Ext.refl _⟩
  case round =>
    obtain ⟨i, us, ws, rest, hi, rfl, HFW, HFD, HR, HO, HU, HUL, HE⟩ := hrel
    obtain ⟨ra, rc, hr⟩ := sl_slice HR.out
    subst hr
    by_cases hlt : i < m
    · have hlt' : (i : Int) < m := by omega
      obtain ⟨og, ooff, rfl, ocell⟩ := CO.out (by omega)
      have oc := HE.out.cellOf (ocell i hlt)
      obtain ⟨h0, h1, h2⟩ := fac_next (by rw [HM.out]; exact hlt) HFD.out
      have hL := longI_spec h0
      have hLe := hL.le
      have HFD2 := hide' h2
      have HFW2 : Hid (facW zs = (ws ++ [rest.take (longI rest)]) ++ facW (rest.drop (longI rest))) := by
        show _ = _
        rw [HFW.out, facW_cons h0, List.append_assoc]
        rfl
      rw [h1] at oc
      obtain ⟨k, HK⟩ : ∃ k, Hid (longI rest = k) := ⟨_, rfl⟩
      rw [HK.out] at oc hLe HFD2 HFW2
      obtain ⟨r1, s1⟩ := HR.out.runTake (P := Tryz.prog) 22 5 Tryz.underlying22 size8 k hLe
      obtain ⟨a2, r2, s2, _⟩ := HR.out.runDrop (P := Tryz.prog) 22 5 Tryz.underlying22 size8 k hLe
      have S1 := hide' s1
      have S2 := hide' s2
      obtain ⟨R, HRL⟩ : ∃ R, Hid (rest.length = R) := ⟨_, rfl⟩
      rw [HRL.out] at r1 r2 S2 hLe ⊢
      have LU : Hid (us.length + 1 ≤ 1000000) := by show _ ≤ _; rw [HUL.out]; omega
      have hsz := HE.out.size
      have O2 := hide' (HO.out.ext (ext_alloc wr (.cells #[.slice ra k rc] 22)))
      have E2 := hide' (HE.out.trans (ext_alloc wr (.cells #[.slice ra k rc] 22)))
      clear h0 h1 h2 hL s1 s2 ocell
      go_wp2_with (at_builtin; refine wpList_snocV _ rfl _ _ rfl w1.heap.size _ us (.slice ra k rc) wr.heap.size rfl rfl ?c1 rfl O2.out LU.out E2.out.size ?_)
      case c1 => simp only [World.cell?, heap_alloc_top]; simp
      intro v1 w3 ho1 hg1
      have O3 := hide' ho1
      have E3 : Hid (Ext w1 w3) := Below.trans E2.out (owns_grown O2.out E2.out.size hg1)
      have U3 : Hid (Read8 w (us ++ [.slice ra k rc]) (ws ++ [rest.take k])) := HU.out.app (Read8.single S1.out)
      have UL3 : Hid ((us ++ [Value.slice ra k rc]).length = i + 1) := by show _ = _; rw [List.length_append, HUL.out]; rfl
      clear ho1 hg1 O2 E2 oc
      go_wp2
      go_roundw
      case rel => exact ⟨i + 1, us ++ [.slice ra k rc], ws ++ [rest.take k], rest.drop k, by omega, by go_num, HFW2, HFD2, S2, O3, U3, UL3, E3⟩
      case measure => simp [intOf]; omega
    · have hlt' : decide ((i : Int) < m) = false := by simp; omega
      have h3 : facW zs = ws := by
        have h4 := HFD.out
        rw [List.drop_of_length_le (by rw [HM.out]; omega)] at h4
        have h5 : rest.length = 0 := by
          apply Classical.byContradiction
          intro h5
          rw [facL_cons h5] at h4
          cases h4
        have := HFW.out
        rw [List.length_eq_zero_iff.1 h5, facW_nil, List.append_nil] at this
        exact this
      have HEW := hide' (X1.out.trans HE.out)
      have HSS : Hid (Sls wr u3 (facW zs)) := by show Sls _ _ _; rw [h3]; exact HO.out.sl.sls (HU.out.ext HEW.out)
      clear h3
      go_wp2
      go_ret
      exact ⟨_, rfl, HSS.out, HEW.out⟩
end Go.Proofs.YtlmbdafilboblaaGreat

/- The cycles of an order. Plain numbers, no conditions. -/
namespace Go.Proofs.YtlmbdafilboblaaGreat
set_option linter.unusedVariables false
set_option linter.unusedSimpArgs false

/-- What all rows of cycles have, found so far. -/
structure CycAll (p : Nat → Nat) (cs : List (List Nat)) : Prop where
  ne : ∀ c ∈ cs, 0 < c.length
  nxt : ∀ c ∈ cs, ∀ t, t < c.length → p (c.getD t 0) = c.getD ((t + 1) % c.length) 0
  least : ∀ c ∈ cs, ∀ x ∈ c, c.getD 0 0 ≤ x
  up : cs.Pairwise fun c d => c.getD 0 0 < d.getD 0 0
/-- The cycles of an order of n places. -/
structure CycOf (p : Nat → Nat) (n : Nat) (cs : List (List Nat)) : Prop extends CycAll p cs where
  all : cs.flatten.Perm (List.range n)
/-- The cycles of all places ahead of i. -/
structure CycTo (p : Nat → Nat) (n i : Nat) (cs : List (List Nat)) : Prop extends CycAll p cs where
  nodup : cs.flatten.Nodup
  lt : ∀ x ∈ cs.flatten, x < n
  upto : ∀ j, j < i → j ∈ cs.flatten
  heads : ∀ c ∈ cs, c.getD 0 0 < i
/-- One cycle, as far as it is walked; k is the next one. -/
structure CycIn (p : Nat → Nat) (n i : Nat) (cs : List (List Nat)) (c : List Nat) (k : Nat) : Prop where
  nodup : c.Nodup
  apart : ∀ x ∈ c, x ∉ cs.flatten
  lt : ∀ x ∈ c, x < n
  first : c = [] → k = i
  head : 0 < c.length → c.getD 0 0 = i
  nxt : ∀ t, t + 1 < c.length → p (c.getD t 0) = c.getD (t + 1) 0
  on : 0 < c.length → p (c.getD (c.length - 1) 0) = k
  klt : k < n

theorem CycTo.start (p : Nat → Nat) (n : Nat) : CycTo p n 0 [] :=
  { ne := (fun c hc => by cases hc), nxt := (fun c hc => by cases hc), least := (fun c hc => by cases hc), up := List.Pairwise.nil, nodup := (by simp), lt := (fun x hx => by simp at hx), upto := (fun j hj => by omega), heads := (fun c hc => by cases hc) }
theorem CycTo.skip {p : Nat → Nat} {n i : Nat} {cs : List (List Nat)} (h : CycTo p n i cs) (hi : i ∈ cs.flatten) : CycTo p n (i + 1) cs :=
  { h with
    upto := fun j hj => by
      by_cases e : j = i
      · subst e; exact hi
      · exact h.upto j (by omega)
    heads := fun c hc => by have := h.heads c hc; omega }
theorem CycIn.start {p : Nat → Nat} {n i : Nat} {cs : List (List Nat)} (hi : i < n) : CycIn p n i cs [] i :=
  ⟨by simp, (fun x hx => by cases hx), (fun x hx => by cases hx), (fun _ => rfl), (fun h => by simp at h), (fun t h => by simp at h), (fun h => by simp at h), hi⟩
theorem getN_snoc_lt {c : List Nat} {k t : Nat} (h : t < c.length) : (c ++ [k]).getD t 0 = c.getD t 0 := by
  simp only [List.getD_eq_getElem?_getD]
  rw [List.getElem?_append_left h]
theorem getN_snoc_eq {c : List Nat} {k t : Nat} (h : t = c.length) : (c ++ [k]).getD t 0 = k := by
  subst h
  simp
theorem CycIn.step {p : Nat → Nat} {n i k : Nat} {cs : List (List Nat)} {c : List Nat} (hp : ∀ x, x < n → p x < n) (h : CycIn p n i cs c k) (h1 : k ∉ c) (h2 : k ∉ cs.flatten) : CycIn p n i cs (c ++ [k]) (p k) := by
  have hl : (c ++ [k]).length = c.length + 1 := by simp
  refine ⟨?_, ?_, ?_, fun e => ?_, fun _ => ?_, fun t ht => ?_, fun _ => ?_, hp k h.klt⟩
  · refine List.nodup_append.2 ⟨h.nodup, by simp, fun a ha b hb e => ?_⟩
    rw [List.mem_singleton] at hb
    subst hb; subst e
    exact h1 ha
  · intro x hx
    rcases List.mem_append.1 hx with g | g
    · exact h.apart x g
    · rw [List.mem_singleton.1 g]; exact h2
  · intro x hx
    rcases List.mem_append.1 hx with g | g
    · exact h.lt x g
    · rw [List.mem_singleton.1 g]; exact h.klt
  · simp at e
  · by_cases e : c = []
    · subst e
      simp [h.first rfl]
    · have : 0 < c.length := List.length_pos_iff.2 e
      rw [getN_snoc_lt this]
      exact h.head this
  · rw [hl] at ht
    rw [getN_snoc_lt (by omega)]
    by_cases e : t + 1 = c.length
    · rw [getN_snoc_eq e]
      have := h.on (by omega)
      rw [show c.length - 1 = t by omega] at this
      exact this
    · rw [getN_snoc_lt (by omega)]
      exact h.nxt t (by omega)
  · rw [hl, Nat.add_sub_cancel, getN_snoc_eq rfl]
theorem mem_flat {cs : List (List Nat)} {x : Nat} : x ∈ cs.flatten ↔ ∃ c ∈ cs, x ∈ c := List.mem_flatten
/-- A place met again closes the cycle. -/
theorem CycIn.close {p : Nat → Nat} {n i k : Nat} {cs : List (List Nat)} {c : List Nat} (hinj : ∀ x y, x < n → y < n → p x = p y → x = y) (hc : CycTo p n i cs) (h : CycIn p n i cs c k) (hi : i ∉ cs.flatten) (hk : k ∈ c ∨ k ∈ cs.flatten) : CycTo p n (i + 1) (cs ++ [c]) := by
  have hne : 0 < c.length := by
    rcases Nat.eq_zero_or_pos c.length with e | e
    · have e2 := List.length_eq_zero_iff.1 e
      rw [h.first e2, e2] at hk
      rcases hk with g | g
      · cases g
      · exact absurd g hi
    · exact e
  have hlast : c.getD (c.length - 1) 0 ∈ c := getN_mem (by omega)
  have hon := h.on hne
  have hki : k = i := by
    rcases hk with g | g
    · obtain ⟨t, ht, e⟩ := mem_getN g
      by_cases e0 : t = 0
      · subst e0
        rw [← e]
        exact h.head hne
      · have h3 := h.nxt (t - 1) (by omega)
        rw [show t - 1 + 1 = t by omega, e, ← hon] at h3
        have h4 := hinj _ _ (h.lt _ (getN_mem (by omega))) (h.lt _ hlast) h3
        have h5 := nodup_getN h.nodup (by omega) (by omega) h4
        omega
    · exfalso
      obtain ⟨d, hd, hx⟩ := mem_flat.1 g
      obtain ⟨t, ht, e⟩ := mem_getN hx
      obtain ⟨u, hu, eu⟩ : ∃ u, u < d.length ∧ (u + 1) % d.length = t := by
        by_cases e0 : t = 0
        · exact ⟨d.length - 1, by omega, by rw [e0, show d.length - 1 + 1 = d.length by omega, Nat.mod_self]⟩
        · exact ⟨t - 1, by omega, by rw [show t - 1 + 1 = t by omega, Nat.mod_eq_of_lt ht]⟩
      have h3 := hc.nxt d hd u hu
      rw [eu, e, ← hon] at h3
      have hm : d.getD u 0 ∈ cs.flatten := mem_flat.2 ⟨d, hd, getN_mem hu⟩
      have h4 := hinj _ _ (hc.lt _ hm) (h.lt _ hlast) h3
      rw [h4] at hm
      exact h.apart _ hlast hm
  have hhead := h.head hne
  have hflat : (cs ++ [c]).flatten = cs.flatten ++ c := by simp
  have hin : i ∈ c := by rw [← hhead]; exact getN_mem hne
  refine { ne := ?_, nxt := ?_, least := ?_, up := ?_, nodup := ?_, lt := ?_, upto := ?_, heads := ?_ }
  · intro d hd
    rcases List.mem_append.1 hd with g | g
    · exact hc.ne d g
    · rw [List.mem_singleton.1 g]; exact hne
  · intro d hd t ht
    rcases List.mem_append.1 hd with g | g
    · exact hc.nxt d g t ht
    · rw [List.mem_singleton.1 g] at ht ⊢
      by_cases e : t + 1 = c.length
      · rw [e, Nat.mod_self, hhead, ← hki, ← hon, show c.length - 1 = t by omega]
      · rw [Nat.mod_eq_of_lt (by omega)]
        exact h.nxt t (by omega)
  · intro d hd x hx
    rcases List.mem_append.1 hd with g | g
    · exact hc.least d g x hx
    · rw [List.mem_singleton.1 g] at hx ⊢
      rw [hhead]
      rcases Nat.lt_or_ge x i with g2 | g2
      · exact absurd (hc.upto x g2) (h.apart x hx)
      · exact g2
  · refine List.pairwise_append.2 ⟨hc.up, by simp, fun d hd e he => ?_⟩
    rw [List.mem_singleton.1 he, hhead]
    exact hc.heads d hd
  · rw [hflat]
    refine List.nodup_append.2 ⟨hc.nodup, h.nodup, fun a ha b hb e => ?_⟩
    subst e
    exact h.apart _ hb ha
  · intro x hx
    rw [hflat] at hx
    rcases List.mem_append.1 hx with g | g
    · exact hc.lt x g
    · exact h.lt x g
  · intro j hj
    rw [hflat]
    by_cases e : j = i
    · rw [e]; exact List.mem_append_right _ hin
    · exact List.mem_append_left _ (hc.upto j (by omega))
  · intro d hd
    rcases List.mem_append.1 hd with g | g
    · have := hc.heads d g; omega
    · rw [List.mem_singleton.1 g, hhead]; omega
theorem nodup_permN_le {l : List Nat} {n : Nat} (h : l.Nodup) (hl : ∀ x ∈ l, x < n) : l.length ≤ n := by
  rcases Nat.lt_or_ge n l.length with g | g
  · exfalso
    have hp := nodup_permN h (l' := List.range n) (fun x hx => List.mem_range.2 (hl x hx)) (by rw [List.length_range]; omega)
    have := hp.length_eq
    rw [List.length_range] at this
    omega
  · exact g
theorem CycTo.done {p : Nat → Nat} {n : Nat} {cs : List (List Nat)} (h : CycTo p n n cs) : CycOf p n cs :=
  { toCycAll := h.toCycAll
    all := (nodup_permN List.nodup_range (fun x hx => h.upto x (List.mem_range.1 hx)) (by
      have := nodup_permN_le h.nodup h.lt
      rw [List.length_range]; exact this)).symm }
end Go.Proofs.YtlmbdafilboblaaGreat

/- An order has just one row of cycles. Plain numbers, no conditions. -/
namespace Go.Proofs.YtlmbdafilboblaaGreat
set_option linter.unusedVariables false
set_option linter.unusedSimpArgs false

theorem nodup_permG {α : Type} [DecidableEq α] {l : List α} : ∀ {l' : List α}, l.Nodup → (∀ x ∈ l, x ∈ l') → l'.length ≤ l.length → l.Perm l' := by
  induction l with
  | nil => intro l' _ _ h; rw [List.length_eq_zero_iff.1 (Nat.le_zero.1 h)]
  | cons a l ih =>
    intro l' hn hs hl
    rw [List.nodup_cons] at hn
    have ha := hs a List.mem_cons_self
    have h2 := List.length_erase_of_mem ha
    rw [List.length_cons] at hl
    have h1 := ih (l' := l'.erase a) hn.2 (fun x hx => by
      have hne : x ≠ a := fun e => hn.1 (e ▸ hx)
      exact (List.mem_erase_of_ne hne).2 (hs x (List.mem_cons_of_mem _ hx))) (by omega)
    exact (List.Perm.cons a h1).trans (List.perm_cons_erase ha).symm
theorem nodup_leG {α : Type} [DecidableEq α] {l l' : List α} (h : l.Nodup) (hs : ∀ x ∈ l, x ∈ l') : l.length ≤ l'.length := by
  rcases Nat.lt_or_ge l'.length l.length with g | g
  · have := (nodup_permG h hs (by omega)).length_eq
    omega
  · exact g
theorem mem_permG {α : Type} [DecidableEq α] {l l' : List α} (h : l.Nodup) (h' : l'.Nodup) (hs : ∀ x, x ∈ l ↔ x ∈ l') : l.Perm l' :=
  nodup_permG h (fun x hx => (hs x).1 hx) (nodup_leG h' fun x hx => (hs x).2 hx)

theorem CycAll.nodup {p : Nat → Nat} {cs : List (List Nat)} (h : CycAll p cs) : cs.Nodup := h.up.imp fun {a b} g e => by rw [e] at g; omega
/-- Of one cycle. -/
theorem flat_nodup {cs : List (List Nat)} (h : cs.flatten.Nodup) {c : List Nat} (hc : c ∈ cs) : c.Nodup := (List.pairwise_flatten.1 h).1 c hc
theorem CycOf.nodupC {p : Nat → Nat} {n : Nat} {cs : List (List Nat)} (h : CycOf p n cs) {c : List Nat} (hc : c ∈ cs) : c.Nodup := flat_nodup (h.all.nodup_iff.2 List.nodup_range) hc
theorem CycOf.ltC {p : Nat → Nat} {n : Nat} {cs : List (List Nat)} (h : CycOf p n cs) {c : List Nat} (hc : c ∈ cs) {x : Nat} (hx : x ∈ c) : x < n := List.mem_range.1 (h.all.mem_iff.1 (mem_flat.2 ⟨c, hc, hx⟩))
theorem CycOf.find {p : Nat → Nat} {n : Nat} {cs : List (List Nat)} (h : CycOf p n cs) {x : Nat} (hx : x < n) : ∃ c ∈ cs, x ∈ c := mem_flat.1 (h.all.mem_iff.2 (List.mem_range.2 hx))
/-- One that begins alike is the same. -/
theorem cyc_same {p : Nat → Nat} {c d : List Nat} (hc : 0 < c.length) (hd : 0 < d.length) (nc : c.Nodup) (nd : d.Nodup) (h1 : ∀ t, t < c.length → p (c.getD t 0) = c.getD ((t + 1) % c.length) 0) (h2 : ∀ t, t < d.length → p (d.getD t 0) = d.getD ((t + 1) % d.length) 0)
    (e : c.getD 0 0 = d.getD 0 0) : c = d := by
  have key : ∀ t, t < c.length → t < d.length → c.getD t 0 = d.getD t 0 := by
    intro t
    induction t with
    | zero => intro _ _; exact e
    | succ t ih =>
      intro g1 g2
      have e1 := h1 t (by omega)
      have e2 := h2 t (by omega)
      rw [Nat.mod_eq_of_lt g1] at e1
      rw [Nat.mod_eq_of_lt g2] at e2
      rw [← e1, ← e2, ih (by omega) (by omega)]
  have hlen : c.length = d.length := by
    rcases Nat.lt_trichotomy c.length d.length with g | g | g
    · exfalso
      have e1 := h1 (c.length - 1) (by omega)
      have e2 := h2 (c.length - 1) (by omega)
      rw [show c.length - 1 + 1 = c.length by omega, Nat.mod_self] at e1
      rw [show c.length - 1 + 1 = c.length by omega, Nat.mod_eq_of_lt g] at e2
      rw [key _ (by omega) (by omega), e2, e] at e1
      have := nodup_getN nd (by omega) (by omega) e1
      omega
    · exact g
    · exfalso
      have e1 := h1 (d.length - 1) (by omega)
      have e2 := h2 (d.length - 1) (by omega)
      rw [show d.length - 1 + 1 = d.length by omega, Nat.mod_self] at e2
      rw [show d.length - 1 + 1 = d.length by omega, Nat.mod_eq_of_lt g] at e1
      rw [key _ (by omega) (by omega), e2, ← e] at e1
      have := nodup_getN nc (by omega) (by omega) e1
      omega
  exact natL_ext hlen fun t ht => key t ht (by omega)
/-- Round a cycle. -/
theorem cyc_it {p : Nat → Nat} {c : List Nat} (hc : 0 < c.length) (h1 : ∀ t, t < c.length → p (c.getD t 0) = c.getD ((t + 1) % c.length) 0) {t u : Nat} (ht : t < c.length) (hu : u < c.length) : ∃ k, itN p k (c.getD t 0) = c.getD u 0 := by
  have key : ∀ k, itN p k (c.getD t 0) = c.getD ((t + k) % c.length) 0 := by
    intro k
    induction k with
    | zero => rw [Nat.add_zero, Nat.mod_eq_of_lt ht]; rfl
    | succ k ih =>
      rw [itN_add p k 1, ih]
      show p _ = _
      rw [h1 _ (Nat.mod_lt _ hc), Nat.mod_add_mod, Nat.add_assoc]
  refine ⟨u + c.length - t, ?_⟩
  rw [key, show t + (u + c.length - t) = u + c.length by omega, Nat.add_mod_right, Nat.mod_eq_of_lt hu]
theorem cyc_closed {p : Nat → Nat} {c : List Nat} (hc : 0 < c.length) (h1 : ∀ t, t < c.length → p (c.getD t 0) = c.getD ((t + 1) % c.length) 0) {x : Nat} (hx : x ∈ c) : ∀ k, itN p k x ∈ c := by
  intro k
  induction k generalizing x with
  | zero => exact hx
  | succ k ih =>
    obtain ⟨t, ht, rfl⟩ := mem_getN hx
    show itN p k (p _) ∈ c
    rw [h1 t ht]
    exact ih (getN_mem (Nat.mod_lt _ hc))
theorem CycOf.sub {p : Nat → Nat} {n : Nat} {cs ds : List (List Nat)} (h : CycOf p n cs) (k : CycOf p n ds) {c : List Nat} (hc : c ∈ cs) : c ∈ ds := by
  have nc := h.ne c hc
  have hx : c.getD 0 0 ∈ c := getN_mem nc
  obtain ⟨d, hd, hxd⟩ := k.find (h.ltC hc hx)
  have nd := k.ne d hd
  have l1 := k.least d hd _ hxd
  obtain ⟨t, ht, et⟩ := mem_getN hxd
  obtain ⟨j, hj⟩ := cyc_it nd (k.nxt d hd) ht nd
  have hy : d.getD 0 0 ∈ c := by
    rw [← hj, et]
    exact cyc_closed nc (h.nxt c hc) hx j
  have l2 := h.least c hc _ hy
  have := cyc_same nc nd (h.nodupC hc) (k.nodupC hd) (h.nxt c hc) (k.nxt d hd) (by omega)
  rw [this]
  exact hd
theorem CycOf.eq {p : Nat → Nat} {n : Nat} {cs ds : List (List Nat)} (h : CycOf p n cs) (k : CycOf p n ds) : cs = ds :=
  List.Perm.eq_of_pairwise (le := fun c d : List Nat => c.getD 0 0 < d.getD 0 0) (fun a b _ _ h1 h2 => by omega) h.up k.up (mem_permG h.nodup k.nodup fun c => ⟨h.sub k, k.sub h⟩)
end Go.Proofs.YtlmbdafilboblaaGreat

/- Words out of a row of last letters, by its cycles; all their rotations in order without end have just these last letters. Plain numbers, no conditions. -/
namespace Go.Proofs.YtlmbdafilboblaaGreat
set_option linter.unusedVariables false
set_option linter.unusedSimpArgs false

/-- From the first letters to the last. -/
def qN (l : List Int) (i : Nat) : Nat := (stN l).getD i 0
/-- What is read from a row on, without end. -/
def uS (l : List Int) (k : Nat) : Nat → Int := seqN (fun i => l.getD (qN l i) 0) (qN l) k

theorem q_lt {l : List Int} {i : Nat} (h : i < l.length) : qN l i < l.length := stN_lt h
theorem q_rk {l : List Int} {k : Nat} (h : k < l.length) : qN l (rkN l k) = k := st_rk h
theorem itq_lt {l : List Int} {k : Nat} (h : k < l.length) (t : Nat) : itN (qN l) t k < l.length := itN_lt (fun p hp => q_lt hp) t k h
theorem itq_succ (l : List Int) (t k : Nat) : itN (qN l) (t + 1) k = qN l (itN (qN l) t k) := itN_add (qN l) t 1 k
theorem uS_at (l : List Int) (k t : Nat) : uS l k t = l.getD (itN (qN l) (t + 1) k) 0 := by
  rw [itq_succ]
  rfl
theorem uS_on (l : List Int) (j k t : Nat) : uS l (itN (qN l) j k) t = uS l k (j + t) := seqN_on _ _ j k t
theorem q_step {l : List Int} {x y : Nat} (h : x < y) (hy : y < l.length) : Lt1 l (qN l x) (qN l y) := pairN_at (stN_sorted l) h (by rw [stN_len]; exact hy)
theorem uS_keep {l : List Int} {k k' : Nat} (h : k < k') (hk : k' < l.length) : ∀ m, (∀ t, t < m → uS l k t = uS l k' t) → itN (qN l) m k < itN (qN l) m k' := by
  intro m
  induction m with
  | zero => intro _; exact h
  | succ m ih =>
    intro he
    have h1 := ih fun t ht => he t (by omega)
    have h2 := q_step h1 (itq_lt hk m)
    rw [itq_succ, itq_succ]
    have h3 := he m (by omega)
    rw [uS_at, uS_at, itq_succ, itq_succ] at h3
    rcases h2 with h2 | h2
    · omega
    · exact h2.2
theorem uS_le {l : List Int} {k k' : Nat} (h : k < k') (hk : k' < l.length) : ¬ LtF (uS l k') (uS l k) := by
  rintro ⟨m, h1, h2⟩
  have h3 := q_step (uS_keep h hk m fun t ht => (h1 t ht).symm) (itq_lt hk m)
  rw [uS_at, uS_at, itq_succ, itq_succ] at h2
  rcases h3 with h3 | h3 <;> omega
/-- Within a cycle no two are the same without end. -/
theorem uS_ne {l : List Int} {k j : Nat} (hk : k < l.length) (h : k < itN (qN l) j k) : ¬ ∀ t, uS l k t = uS l (itN (qN l) j k) t := by
  intro he
  have key : ∀ i, itN (qN l) (i * j) k < itN (qN l) ((i + 1) * j) k := fun i => by
    have := uS_keep h (itq_lt hk j) (i * j) fun t _ => he t
    rw [← itN_add] at this
    rwa [show (i + 1) * j = j + i * j by rw [Nat.add_mul, Nat.one_mul, Nat.add_comm]]
  have up : ∀ i, i ≤ itN (qN l) (i * j) k := by
    intro i
    induction i with
    | zero => exact Nat.zero_le _
    | succ i ih => have := key i; omega
  have h1 := up l.length
  have h2 := itq_lt hk (l.length * j)
  omega

/-- A cycle's letters, the last one of it first. -/
def wordOf (l : List Int) (c : List Nat) : List Int := c.reverse.map fun k => l.getD k 0
theorem wordOf_len (l : List Int) (c : List Nat) : (wordOf l c).length = c.length := by simp [wordOf]
theorem wordOf_at (l : List Int) {c : List Nat} {a : Nat} (h : a < c.length) : (wordOf l c).getD a 0 = l.getD (c.getD (c.length - 1 - a) 0) 0 := by
  unfold wordOf
  simp only [List.getD_eq_getElem?_getD, List.getElem?_map]
  rw [List.getElem?_reverse h, List.getElem?_eq_getElem (show c.length - 1 - a < c.length by omega)]
  rfl

section
variable {l : List Int} {cs : List (List Nat)} {c : List Nat}

theorem it_q (h : CycOf (rkN l) l.length cs) (hc : c ∈ cs) : ∀ r, r < c.length → itN (qN l) (r + 1) (c.getD 0 0) = c.getD (c.length - 1 - r) 0 := by
  have hn := h.nxt c hc
  have hlt : ∀ t, t < c.length → c.getD t 0 < l.length := fun t ht => h.ltC hc (getN_mem ht)
  intro r
  induction r with
  | zero =>
    intro hr
    have h1 := hn (c.length - 1) (by omega)
    rw [show c.length - 1 + 1 = c.length by omega, Nat.mod_self] at h1
    show qN l _ = _
    rw [← h1, q_rk (hlt _ (by omega)), Nat.sub_zero]
  | succ r ih =>
    intro hr
    rw [itq_succ, ih (by omega)]
    have h1 := hn (c.length - 1 - (r + 1)) (by omega)
    rw [show c.length - 1 - (r + 1) + 1 = c.length - 1 - r by omega, Nat.mod_eq_of_lt (by omega)] at h1
    rw [← h1, q_rk (hlt _ (by omega))]
theorem it_q_round (h : CycOf (rkN l) l.length cs) (hc : c ∈ cs) : itN (qN l) c.length (c.getD 0 0) = c.getD 0 0 := by
  have hne := h.ne c hc
  have := it_q h hc (c.length - 1) (by omega)
  rw [show c.length - 1 + 1 = c.length by omega, Nat.sub_self] at this
  exact this
theorem it_q_mod (h : CycOf (rkN l) l.length cs) (hc : c ∈ cs) : ∀ a, itN (qN l) a (c.getD 0 0) = itN (qN l) (a % c.length) (c.getD 0 0) := by
  have hne := h.ne c hc
  intro a
  induction a using Nat.strongRecOn with
  | _ a ih =>
    rcases Nat.lt_or_ge a c.length with g | g
    · rw [Nat.mod_eq_of_lt g]
    · rw [show a = c.length + (a - c.length) by omega, itN_add, it_q_round h hc, ih (a - c.length) (by omega), Nat.add_mod_left]
/-- What is read from a cycle's first one on is its word, again and again. -/
theorem uS_word (h : CycOf (rkN l) l.length cs) (hc : c ∈ cs) (a : Nat) : uS l (c.getD 0 0) a = (wordOf l c).getD (a % c.length) 0 := by
  have hne := h.ne c hc
  have hm := Nat.mod_lt a hne
  rw [wordOf_at l hm, uS_at, itq_succ, it_q_mod h hc a, ← itq_succ, it_q h hc _ hm]
theorem uS_atW (h : CycOf (rkN l) l.length cs) (hc : c ∈ cs) : uS l (c.getD 0 0) = atW (wordOf l c) := by
  funext a
  rw [uS_word h hc]
  unfold atW
  rw [wordOf_len]
theorem it_q_mem (h : CycOf (rkN l) l.length cs) (hc : c ∈ cs) {i : Nat} (h0 : 1 ≤ i) (hi : i < c.length) : itN (qN l) i (c.getD 0 0) ∈ c ∧ c.getD 0 0 < itN (qN l) i (c.getD 0 0) := by
  have h1 := it_q h hc (i - 1) (by omega)
  rw [show i - 1 + 1 = i by omega, show c.length - 1 - (i - 1) = c.length - i by omega] at h1
  have h2 : c.getD (c.length - i) 0 ∈ c := getN_mem (by omega)
  rw [h1]
  refine ⟨h2, ?_⟩
  have h3 := h.least c hc _ h2
  rcases Nat.lt_or_ge (c.getD 0 0) (c.getD (c.length - i) 0) with g | g
  · exact g
  · have := nodup_getN (h.nodupC hc) (i := 0) (j := c.length - i) (by omega) (by omega) (by omega)
    omega
/-- A cycle's word is less than all its endings. -/
theorem word_lyn (h : CycOf (rkN l) l.length cs) (hc : c ∈ cs) : Lyn (wordOf l c) := by
  have hne := h.ne c hc
  have hlt : c.getD 0 0 < l.length := h.ltC hc (getN_mem hne)
  rw [lyn_iff, wordOf_len]
  refine LynF.congr (f := uS l (c.getD 0 0)) ⟨hne, fun i h1 h2 => ?_⟩ fun k hk => by rw [uS_word h hc, Nat.mod_eq_of_lt hk]
  obtain ⟨hm, hg⟩ := it_q_mem h hc h1 h2
  have hl2 := h.ltC hc hm
  have key : ∃ j, (∀ k, k < j → uS l (c.getD 0 0) k = uS l (c.getD 0 0) (i + k)) ∧ uS l (c.getD 0 0) j < uS l (c.getD 0 0) (i + j) := by
    apply Classical.byContradiction
    intro hno
    refine uS_ne hlt hg fun t => ?_
    rcases first_other (f := uS l (c.getD 0 0)) (g := uS l (itN (qN l) i (c.getD 0 0))) (t + 1) with g | ⟨m, hm1, hm2, hm3⟩
    · exact g t (by omega)
    · exfalso
      rcases Int.lt_trichotomy (uS l (c.getD 0 0) m) (uS l (itN (qN l) i (c.getD 0 0)) m) with g | g | g
      · exact hno ⟨m, fun k hk => by rw [hm2 k hk, uS_on], by rw [← uS_on]; exact g⟩
      · exact hm3 g
      · exact uS_le hg hl2 ⟨m, fun k hk => (hm2 k hk).symm, g⟩
  obtain ⟨j, hj1, hj2⟩ := key
  rcases Nat.lt_or_ge (i + j) c.length with g | g
  · exact ⟨j, g, hj1, hj2⟩
  · exfalso
    have hper : ∀ t, uS l (c.getD 0 0) (c.length + t) = uS l (c.getD 0 0) t := fun t => by
      rw [uS_word h hc, uS_word h hc, Nat.add_mod_left]
    obtain ⟨hm', hg'⟩ := it_q_mem h hc (i := c.length - i) (by omega) (by omega)
    refine uS_le hg' (h.ltC hc hm') ⟨j - (c.length - i), fun t ht => ?_, ?_⟩
    · rw [uS_on, hj1 (c.length - i + t) (by omega), show i + (c.length - i + t) = c.length + t by omega, hper]
    · rw [uS_on, show c.length - i + (j - (c.length - i)) = j by omega]
      have : i + j = c.length + (j - (c.length - i)) := by omega
      rw [this, hper] at hj2
      exact hj2
/-- Of two words, the one less than its endings: what is less is less without end, too. -/
theorem lyn_om {w w' : List Int} (hw : Lyn w) (h0 : w'.length ≠ 0) (h : cmpI w' w < 0) : LtF (atW w') (atW w) := by
  have hat : ∀ {u : List Int} {k : Nat}, k < u.length → atW u k = u.getD k 0 := fun {u k} hk => by unfold atW; rw [Nat.mod_eq_of_lt hk]
  obtain ⟨j, h1, h2, h3, h4⟩ := (cmpI_neg _ _).1 h
  by_cases e : j < w'.length
  · rcases h4 with h4 | h4
    · omega
    · exact ⟨j, fun k hk => by rw [hat (by omega), hat (by omega)]; exact h3 k hk, by rw [hat e, hat h1]; exact h4⟩
  · have ej : j = w'.length := by omega
    subst ej
    obtain ⟨_, hL⟩ := (lyn_iff w).1 hw
    obtain ⟨j2, g1, g2, g3⟩ := hL w'.length (by omega) h1
    have same : ∀ t, t < w'.length + j2 → atW w' t = atW w t := by
      intro t
      induction t using Nat.strongRecOn with
      | _ t ih =>
        intro ht
        rcases Nat.lt_or_ge t w'.length with g | g
        · rw [hat g, hat (by omega)]
          exact h3 t g
        · obtain ⟨t', rfl⟩ : ∃ t', t = w'.length + t' := ⟨t - w'.length, by omega⟩
          rw [Nat.add_comm, atW_per, ih t' (by omega) (by omega), hat (by omega), Nat.add_comm, hat (by omega)]
          exact g2 t' (by omega)
    refine ⟨w'.length + j2, same, ?_⟩
    rw [Nat.add_comm w'.length j2, atW_per, same j2 (by omega), hat (by omega), Nat.add_comm j2, hat (by omega)]
    exact g3
end
end Go.Proofs.YtlmbdafilboblaaGreat
