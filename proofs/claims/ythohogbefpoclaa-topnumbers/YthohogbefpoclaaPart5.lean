/- Texts laid together: ChOp, Foot, CrObj, CrVer, CrOp, TopKnown, RefInv, KripTail, RefWords, RefCom, KasRef, KinWords, KripR, KripApp, KripFin. -/
import Derived.Test.YthohogbefpoclaaPart4
import Derived.Test.YthohogbefpoclaaPart3
import Derived.Test.YthohogbefpoclaaPart2
import Derived.Test.YthohogbefpoclaaProg
import Derived.Laws.LoneSync
import Derived.BigRegion
import Derived.Lib.SlBytesConst
import Derived.Test.YthohogbefpoclaaPart1
import Derived.StillTail
import Derived.Lib.MinMax
import Derived.Laws.OwnMore
import Derived.Laws.AppendOwnNone
/- Contracts of check.SA and check.LCP, of texts of at most 500 bytes. -/
namespace Go.Proofs.Ythohogbefpoclaa
set_option linter.unusedVariables false
set_option linter.unusedSimpArgs false
open Go.RowKit

theorem good_bytes {s : List Int} (h8 : Bytes8 s) : fitB s 256 = true := by
  refine fitB_iff.2 ⟨by omega, by omega, ?_⟩
  refine goodI_iff.2 fun z hz => ?_
  have := h8 z hz
  omega
theorem pass_again {s : List Int} (h8 : Bytes8 s) {R : List Nat} (hp : R.Perm (List.range s.length)) : passB (natL (bhL R)) s 256 = true ∧ passI (natL (bhL R)) s 256 = natL (againL s R) := by
  have h1 : passB (natL (bhL R)) s 256 = true := passB_iff.2 ⟨good_bytes h8, good_nat fun x hx => List.mem_range.1 ((bhL_perm hp).mem_iff.1 hx)⟩
  refine ⟨h1, ?_⟩
  rw [passI_yes h1, toN_nat]
  rfl

set_option maxHeartbeats 1000000 in
theorem chSA_any (v u : Value) (s a : List Int) (w : World) (hv : Sl .u8 w v s) (h8 : Bytes8 s) (hu : Sl .i64 w u a) (hs : s.length ≤ 500) (ha : a.length ≤ 1000000) :
    Calls Try.prog 17 #[v, u] w fun e w' => e = .returned (.bool (saB s a)) ∧ Ext w w' := by
  have HV := hide' hv
  have HU := hide' hu
  have H8 := hide' h8
  obtain ⟨va, vc, rfl, _⟩ := hv
  obtain ⟨ua, uc, rfl, _⟩ := hu
  by_cases hl : a.length = s.length
  rotate_left
  · have HN : Hid (saB s a = false) := saB_len hl
    have d1 : ((a.length : Int) != (s.length : Int)) = true := by simp; omega
    clear hl h8
    rw [HN.out]
    go_enter Try.func17, Try.ntmps17
    go_wp2
    go_ret
    exact ⟨rfl, Ext.refl _⟩
  have d1 : ((a.length : Int) != (s.length : Int)) = false := by simp; omega
  have C := hide' (rkIs_any _ a w HU.out ha)
  cases ho : ordB a
  · have HN : Hid (saB s a = false) := saB_noperm ho
    rw [ho] at C
    clear ho hl h8
    rw [HN.out]
    go_enter Try.func17, Try.ntmps17
    go_wp2_with fail
    refine C.out.mono ?_
    rintro e w1 ⟨rfl, he⟩
    have X1 := hide' he
    clear he
    go_wp2
    go_ret
    exact ⟨rfl, X1.out⟩
  · rw [ho] at C
    obtain ⟨hA, hP⟩ := ordB_cast ho
    obtain ⟨R, HR⟩ : ∃ R, Hid (toN a = R) := ⟨_, rfl⟩
    rw [HR.out] at hA hP
    have hP2 : R.Perm (List.range s.length) := by rw [← hl]; exact hP
    have HSA := hide' (saB_again h8 hP2)
    obtain ⟨p1, p2⟩ := pass_again h8 hP2
    have P1 := hide' p1
    have P2 := hide' p2
    have HRL : Hid (R.length ≤ 1000000) := by show _ ≤ _; rw [hP.length_eq, List.length_range]; exact ha
    have HRM : Hid (∀ i, i < R.length → R.getD i 0 ≤ 1000000) := fun i hi => by
      have := List.mem_range.1 (hP.mem_iff.1 (getN_mem hi))
      omega
    have HAL : Hid (a.length ≤ 1000000) := ha
    have HGL : Hid ((natL (againL s R)).length ≤ 1000000) := by show _ ≤ _; rw [natL_len, (again_perm h8 hP2).length_eq, List.length_range]; omega
    have HBL : Hid ((natL (bhL R)).length ≤ 1000000) := by show _ ≤ _; rw [natL_len, (bhL_perm hP2).length_eq, List.length_range]; omega
    have HSL : Hid (s.length ≤ 1000000) := by show _ ≤ _; omega
    have HAR := hide' hA
    rw [← hA] at HU
    rw [← hA]
    rw [HSA.out]
    obtain ⟨G, HG⟩ : ∃ G, Hid (natL (againL s R) = G) := ⟨_, rfl⟩
    rw [HG.out] at P2 HGL ⊢
    obtain ⟨B, HB⟩ : ∃ B, Hid (natL (bhL R) = B) := ⟨_, rfl⟩
    rw [HB.out] at P1 P2 HBL
    have CA := hide' fun (w' : World) (h : Ext w w') => chAhead_any _ R w' (HU.out.ext h) HRL.out HRM.out
    rw [HB.out] at CA
    obtain ⟨Z, HZ⟩ : ∃ Z, Hid (natL R = Z) := ⟨_, rfl⟩
    rw [HZ.out] at HU CA HAR
    rw [HZ.out]
    have HZA : Hid (Z.length ≤ 1000000) := by show _ ≤ _; rw [HAR.out]; exact ha
    rw [← HAR.out] at C d1
    clear ho hl h8 hA hP hP2 p1 p2 hs ha
    go_enter Try.func17, Try.ntmps17
    go_wp2_with fail
    refine C.out.mono ?_
    rintro e w1 ⟨rfl, he⟩
    have X1 := hide' he
    clear he C
    go_wp2_with fail
    refine (CA.out w1 X1.out).mono ?_
    rintro e w2 ⟨u1, rfl, ho2, he2⟩
    have O2 := hide' ho2.sl
    have X2 := hide' (X1.out.trans he2)
    clear ho2 he2 CA
    go_wp2_with fail
    refine (chNumbers_any _ s w2 (HV.out.ext X2.out) H8.out HSL.out).mono ?_
    rintro e w3 ⟨u2, rfl, ho3, he3⟩
    have O3 := hide' ho3.sl
    have O4 := hide' (O2.out.ext he3)
    have X3 := hide' (X2.out.trans he3)
    clear ho3 he3 O2
    go_wp2_with fail
    refine (pass_any _ _ B s 256 w3 O4.out O3.out HBL.out HSL.out).mono ?_
    rw [P1.out, P2.out]
    rintro e w4 ⟨u3, rfl, ho4, he4⟩
    have O5 := hide' ho4.sl
    have X4 := hide' (X3.out.trans he4)
    clear ho4 he4
    obtain ⟨u3a, u3c, rfl, _⟩ := id O5.out
    go_wp2_with fail
    refine (equalI_any _ _ G Z w4 O5.out (HU.out.ext X4.out) HGL.out HZA.out).mono ?_
    rintro e w5 ⟨rfl, m, he⟩
    have X5 := hide' (X4.out.trans (show Ext w4 w5 by rw [he]; exact Ext.drewN _ _))
    clear he
    go_wp2
    go_ret
    exact ⟨rfl, X5.out⟩

set_option maxHeartbeats 1000000 in
theorem chLcp_any (v u t : Value) (s a h : List Int) (w : World) (hv : Sl .u8 w v s) (h8 : Bytes8 s) (hu : Sl .i64 w u a) (ht : Sl .i64 w t h) (hs : s.length ≤ 500) (ha : a.length ≤ 1000000) (hh : h.length ≤ 1000000) :
    Calls Try.prog 19 #[v, u, t] w fun e w' => e = .returned (.bool (chkB s a h)) ∧ Ext w w' := by
  have HV := hide' hv
  have HU := hide' hu
  have HT := hide' ht
  have HS := hide' hs
  have HA := hide' ha
  have HH := hide' hh
  have C := hide' (chSA_any v u s a w hv h8 hu hs ha)
  have HLL : Hid ((lcpL s a).length ≤ 1000000) := Nat.le_trans (lcpL_le s a) ha
  obtain ⟨va, vc, rfl, _⟩ := hv
  obtain ⟨ua, uc, rfl, _⟩ := hu
  obtain ⟨ta, tc, rfl, _⟩ := ht
  clear h8 hs ha hh
  go_enter Try.func19, Try.ntmps19
  go_wp2_with fail
  refine C.out.mono ?_
  cases hsa : saB s a
  · have HC : Hid (chkB s a h = false) := chkB_not hsa
    clear hsa C
    rintro e w1 ⟨rfl, he⟩
    have X1 := hide' he
    clear he
    go_wp2
    go_ret
    exact ⟨by rw [HC.out]; rfl, X1.out⟩
  · have HC : Hid (chkB s a h = decide (lcpL s a = h)) := by show _ = _; unfold chkB; rw [hsa, Bool.true_and]
    have HOK := hide' (saB_ok hsa)
    clear hsa C
    rintro e w1 ⟨rfl, he⟩
    have X1 := hide' he
    clear he
    go_wp2_with fail
    refine (klcp_any _ _ s a w1 (HV.out.ext X1.out) (HU.out.ext X1.out) HS.out HA.out).mono ?_
    rw [HOK.out]
    rintro e w2 ⟨u2, rfl, ho, he⟩
    have O2 := hide' ho.sl
    have X2 := hide' (X1.out.trans he)
    clear ho he
    obtain ⟨L, HL⟩ : ∃ L, Hid (lcpL s a = L) := ⟨_, rfl⟩
    rw [HL.out] at O2 HLL HC
    obtain ⟨u2a, u2c, rfl, _⟩ := id O2.out
    go_wp2_with fail
    refine (equalI_any _ _ L h w2 O2.out (HT.out.ext X2.out) HLL.out HH.out).mono ?_
    rintro e w3 ⟨rfl, m, he⟩
    have X3 := hide' (X2.out.trans (show Ext w2 w3 by rw [he]; exact Ext.drewN _ _))
    clear he
    go_wp2
    go_ret
    exact ⟨by rw [HC.out]; rfl, X3.out⟩
end Go.Proofs.Ythohogbefpoclaa

/- Objects by the blocks that are theirs: what a call on one of them leaves as it was. Over any program, no conditions. -/
namespace Go.Proofs.Ythohogbefpoclaa
set_option linter.unusedVariables false
set_option linter.unusedSimpArgs false
open Go.RowKit

/-- All but the blocks of fp is as it was; there may be more. -/
structure ButF (fp : List Nat) (w w' : World) : Prop where
  os : w'.os = w.os
  tape : w'.tape = w.tape
  output : w'.output = w.output
  size : w.heap.size ≤ w'.heap.size
  block : ∀ k, k < w.heap.size → k ∉ fp → w'.heap[k]? = w.heap[k]?
/-- All blocks are old ones or were not there. -/
def Grows (n : Nat) (fp fp' : List Nat) : Prop := ∀ k ∈ fp', k ∈ fp ∨ n ≤ k
/-- All blocks are there. -/
def Lts (fp : List Nat) (w : World) : Prop := ∀ k ∈ fp, k < w.heap.size
/-- No block is in both. -/
def Dis (fp gp : List Nat) : Prop := ∀ k ∈ fp, k ∉ gp

theorem ButF.refl (fp : List Nat) (w : World) : ButF fp w w := ⟨rfl, rfl, rfl, Nat.le_refl _, fun _ _ _ => rfl⟩
theorem Grows.refl (n : Nat) (fp : List Nat) : Grows n fp fp := fun _ h => .inl h
theorem ButF.trans {fp fp' : List Nat} {x y z : World} (h : ButF fp x y) (hg : Grows x.heap.size fp fp') (k : ButF fp' y z) : ButF fp x z :=
  ⟨k.os.trans h.os, k.tape.trans h.tape, k.output.trans h.output, Nat.le_trans h.size k.size, fun i hi hne => by
    rw [k.block i (Nat.lt_of_lt_of_le hi h.size) fun e => by
      rcases hg i e with e2 | e2
      · exact hne e2
      · omega, h.block i hi hne]⟩
theorem Grows.trans {n m : Nat} {fp gp hp : List Nat} (h : Grows n fp gp) (hn : n ≤ m) (k : Grows m gp hp) : Grows n fp hp := fun i hi => by
  rcases k i hi with e | e
  · exact h i e
  · exact .inr (by omega)
theorem ButF.ofExt {fp : List Nat} {w w' : World} (h : Ext w w') : ButF fp w w' := ⟨h.os, h.tape, h.output, h.size, fun k hk _ => h.block k hk⟩
theorem ButF.ofBut {fp : List Nat} {b : Nat} {w w' : World} (hb : b ∈ fp) (h : But b w w') : ButF fp w w' := ⟨h.os, h.tape, h.output, h.size, fun k hk hn => h.block k hk (fun e => hn (by simp only [Option.some.injEq] at e; rw [e]; exact hb))⟩
theorem ButF.ofGrown {fp : List Nat} {o : Option Nat} {w w' : World} (hb : ∀ j, o = some j → j ∈ fp) (h : w.grownBy w' o) : ButF fp w w' := ⟨h.os, h.tape, h.output, h.size, fun k hk hn => h.block k hk (fun e => hn (hb k e.symm))⟩
theorem ButF.ext {fp : List Nat} {w0 w w' : World} (h0 : Ext w0 w) (h : ButF fp w w') (hfp : ∀ k ∈ fp, w0.heap.size ≤ k) : Ext w0 w' :=
  ⟨h.os.trans h0.os, h.tape.trans h0.tape, h.output.trans h0.output, Nat.le_trans h0.size h.size, fun k hk => by
    rw [h.block k (Nat.lt_of_lt_of_le hk h0.size) fun e => by have := hfp k e; omega]
    exact h0.block k hk⟩
theorem ButF.belowF {fp : List Nat} {B : Nat} {w w' : World} (h : ButF fp w w') (hB : B ≤ w.heap.size) (hfp : ∀ k ∈ fp, B ≤ k) : Below B w w' :=
  ⟨h.os, h.tape, h.output, h.size, fun k hk => h.block k (by omega) fun e => by have := hfp k e; omega⟩
theorem ButF.own {k : IntKind} {e : TypeId} {B : Nat} {fp : List Nat} {w w' : World} {v : Value} {zs : List Int} (h : Own k e B w v zs) (hf : ButF fp w w') (hne : ∀ j, v.ownBlock = some j → j ∉ fp) : Own k e B w' v zs := by
  obtain ⟨h1, h2⟩ := h
  refine ⟨h1, ?_⟩
  rcases h2 with h2 | ⟨g, cap, cur, h2, h3, h4, h5⟩
  · exact .inl h2
  · refine .inr ⟨g, cap, cur, h2, h3, ?_, h5⟩
    rw [hf.block g (Array.getElem?_eq_some_iff.1 h4).1 (hne g (by rw [h2]; rfl))]
    exact h4
theorem ED (W : World) : Ext W W.drew := Ext.drewN W 1
theorem Lts.mono {fp : List Nat} {w w' : World} (h : Lts fp w) (hs : w.heap.size ≤ w'.heap.size) : Lts fp w' := fun k hk => Nat.lt_of_lt_of_le (h k hk) hs
theorem Dis.symm {fp gp : List Nat} (h : Dis fp gp) : Dis gp fp := fun k hk e => h k e hk
theorem Dis.grows {fp gp gp' : List Nat} {w : World} (h : Dis fp gp) (hl : Lts fp w) (hg : Grows w.heap.size gp gp') : Dis fp gp' := fun k hk e => by
  rcases hg k e with e2 | e2
  · exact h k hk e2
  · have := hl k hk; omega
theorem Dis.new {fp gp : List Nat} {w : World} (hl : Lts fp w) (hn : ∀ k ∈ gp, w.heap.size ≤ k) : Dis fp gp := fun k hk e => by
  have := hl k hk
  have := hn k e
  omega
theorem Grows.low {n B : Nat} {fp gp : List Nat} (h : Grows n fp gp) (hB : B ≤ n) (hf : ∀ k ∈ fp, B ≤ k) : ∀ k ∈ gp, B ≤ k := fun k hk => by
  rcases h k hk with e | e
  · exact hf k e
  · omega
theorem Own.lts {k : IntKind} {e : TypeId} {B : Nat} {w : World} {v : Value} {zs : List Int} (h : Own k e B w v zs) : ∀ j, v.ownBlock = some j → j < w.heap.size := fun j hj => (World.ownsRow.lt h j hj).2
/-- What is told by blocks that are as they were. -/
theorem ButF.same {fp gp : List Nat} {w w' : World} (h : ButF gp w w') (hl : Lts fp w) (hd : Dis fp gp) : ∀ k ∈ fp, w'.heap[k]? = w.heap[k]? := fun k hk => h.block k (hl k hk) (hd k hk)
theorem Ext.same {fp : List Nat} {w w' : World} (h : Ext w w') (hl : Lts fp w) : ∀ k ∈ fp, w'.heap[k]? = w.heap[k]? := fun k hk => h.block k (hl k hk)
theorem Own.same {k : IntKind} {e : TypeId} {B : Nat} {w w' : World} {v : Value} {zs : List Int} (h : Own k e B w v zs) (hs : ∀ j, v.ownBlock = some j → w'.heap[j]? = w.heap[j]?) : Own k e B w' v zs := by
  obtain ⟨h1, h2⟩ := h
  refine ⟨h1, ?_⟩
  rcases h2 with h2 | ⟨g, cap, cur, h2, h3, h4, h5⟩
  · exact .inl h2
  · refine .inr ⟨g, cap, cur, h2, h3, ?_, h5⟩
    rw [hs g (by rw [h2]; rfl)]
    exact h4
end Go.Proofs.Ythohogbefpoclaa

/- The program's Cross in memory; its counters by sync/atomic; contract of New. -/
namespace Go.Proofs.Ythohogbefpoclaa
set_option linter.unusedVariables false
set_option linter.unusedSimpArgs false
open Go.RowKit

/-- v is a Cross that was asked so often; its blocks are fp. -/
def Cro (w : World) (v : Value) (x0 x1 x2 : Nat) (fp : List Nat) : Prop :=
  ∃ m, v = .pointer (some ⟨m, 0, none⟩) ∧ w.heap[m]? = some (.cells #[.int .i64 x0, .int .i64 x1, .int .i64 x2] 63 (0, 0)) ∧ fp = [m]
section
variable {w w' : World} {v : Value} {x0 x1 x2 : Nat} {fp : List Nat}
theorem Cro.ptr (h : Cro w v x0 x1 x2 fp) : ∃ m, v = .pointer (some ⟨m, 0, none⟩) := by obtain ⟨m, h, _⟩ := h; exact ⟨m, h⟩
theorem Cro.same (h : Cro w v x0 x1 x2 fp) (hs : ∀ k ∈ fp, w'.heap[k]? = w.heap[k]?) : Cro w' v x0 x1 x2 fp := by
  obtain ⟨m, h1, h2, rfl⟩ := h
  exact ⟨m, h1, (hs m (by simp)).trans h2, rfl⟩
theorem Cro.lts (h : Cro w v x0 x1 x2 fp) : Lts fp w := by
  obtain ⟨m, h1, h2, rfl⟩ := h
  intro k hk
  rw [List.mem_singleton.1 hk]
  exact (Array.getElem?_eq_some_iff.1 h2).1
theorem Cro.ext (h : Cro w v x0 x1 x2 fp) (he : Ext w w') : Cro w' v x0 x1 x2 fp := h.same (he.same h.lts)
theorem Cro.butF {gp : List Nat} (h : Cro w v x0 x1 x2 fp) (hb : ButF gp w w') (hd : Dis fp gp) : Cro w' v x0 x1 x2 fp := h.same (hb.same h.lts hd)
end
theorem set3_0 {w : World} {b : Nat} {x0 x1 x2 v : Value} {T : TypeId} (h : w.heap[b]? = some (.cells #[x0, x1, x2] T (0, 0))) : (w.setCell ⟨b, 0, none⟩ v).heap[b]? = some (.cells #[v, x1, x2] T (0, 0)) := by
  simp only [World.setCell, Array.getElem?_modify]
  rw [if_pos trivial, h]
  simp
theorem set3_1 {w : World} {b : Nat} {x0 x1 x2 v : Value} {T : TypeId} (h : w.heap[b]? = some (.cells #[x0, x1, x2] T (0, 0))) : (w.setCell ⟨b, 1, none⟩ v).heap[b]? = some (.cells #[x0, v, x2] T (0, 0)) := by
  simp only [World.setCell, Array.getElem?_modify]
  rw [if_pos trivial, h]
  simp
theorem set3_2 {w : World} {b : Nat} {x0 x1 x2 v : Value} {T : TypeId} (h : w.heap[b]? = some (.cells #[x0, x1, x2] T (0, 0))) : (w.setCell ⟨b, 2, none⟩ v).heap[b]? = some (.cells #[x0, x1, v] T (0, 0)) := by
  simp only [World.setCell, Array.getElem?_modify]
  rw [if_pos trivial, h]
  simp
theorem cells3 {w : World} {b : Nat} {x0 x1 x2 : Value} {T : TypeId} (h : w.heap[b]? = some (.cells #[x0, x1, x2] T (0, 0))) : w.cell? ⟨b, 0, none⟩ = some x0 ∧ w.cell? ⟨b, 1, none⟩ = some x1 ∧ w.cell? ⟨b, 2, none⟩ = some x2 ∧ w.frozen? ⟨b, 0, none⟩ = false ∧ w.frozen? ⟨b, 1, none⟩ = false ∧ w.frozen? ⟨b, 2, none⟩ = false := by
  refine ⟨by simp [World.cell?, h], by simp [World.cell?, h], by simp [World.cell?, h], by simp [World.frozen?, h], by simp [World.frozen?, h], by simp [World.frozen?, h]⟩

theorem results_agg_tmp {P : Program} {fn : Func} {p u : Tmp} {ty : TypeId} (h : fn.results = #[.cell p ty, .tmp u]) (tmps : Array Value) (w : World) (g : Nat) (t : TypeId) (cs : Array Value) (fr : Nat × Nat) (d : TypeDesc)
    (hp : tmps.getD p undef = .pointer (some ⟨g, 0, none⟩)) (hg : w.heap[g]? = some (.cells cs t fr)) (hu : P.underlying ty = some d) (hd : (match d with | .struct _ | .array _ _ => true | _ => false) = true) (hi : (P.info? ty).map (·.size) = some cs.size) :
    (results fn tmps).run P w = .ok (.tuple #[.agg cs, tmps.getD u undef]) w := by
  have hp' : tmps[p]?.getD undef = .pointer (some ⟨g, 0, none⟩) := by simpa using hp
  rw [results_cell_tmp h]
  simp [hp', asAddr, run_loadVar_row w g t ty cs fr d hg hu hd hi, Result.andThen]

/-- Which one is asked is counted. -/
def up1 (i j x : Nat) : Nat := if i = j then x + 1 else x

theorem noByte3 {w : World} {m : Nat} {x0 x1 x2 : Int} {T : TypeId} (h : w.heap[m]? = some (.cells #[.int .i64 x0, .int .i64 x1, .int .i64 x2] T (0, 0))) : ∀ j x, w.cell? ⟨m, j, none⟩ ≠ some (.int .u8 x) := by
  intro j x hc
  simp only [World.cell?, h] at hc
  match j, hc with
  | 0, hc => simp at hc
  | 1, hc => simp at hc
  | 2, hc => simp at hc
  | j + 3, hc => simp at hc


/-- The i-th of three. -/
def x3 (x0 x1 x2 i : Nat) : Nat := if i = 0 then x0 else if i = 1 then x1 else x2
theorem x3_le {x0 x1 x2 i n : Nat} (h0 : x0 ≤ n) (h1 : x1 ≤ n) (h2 : x2 ≤ n) : x3 x0 x1 x2 i ≤ n := by
  unfold x3
  repeat' split
  all_goals assumption
theorem cells3i {w : World} {m x0 x1 x2 i : Nat} {T : TypeId} (h : w.heap[m]? = some (.cells #[.int .i64 x0, .int .i64 x1, .int .i64 x2] T (0, 0))) (hi : i < 3) :
    w.cell? ⟨m, i, none⟩ = some (.int .i64 (x3 x0 x1 x2 i)) ∧ w.frozen? ⟨m, i, none⟩ = false := by
  obtain ⟨c0, c1, c2, f0, f1, f2⟩ := cells3 h
  have hi3 : i = 0 ∨ i = 1 ∨ i = 2 := by omega
  rcases hi3 with rfl | rfl | rfl
  · exact ⟨c0, f0⟩
  · exact ⟨c1, f1⟩
  · exact ⟨c2, f2⟩
theorem set3i {w : World} {m x0 x1 x2 i : Nat} {T : TypeId} (h : w.heap[m]? = some (.cells #[.int .i64 x0, .int .i64 x1, .int .i64 x2] T (0, 0))) (hi : i < 3) :
    (w.setCell ⟨m, i, none⟩ (.int .i64 ((x3 x0 x1 x2 i : Nat) + 1 : Int))).heap[m]? = some (.cells #[.int .i64 (up1 i 0 x0), .int .i64 (up1 i 1 x1), .int .i64 (up1 i 2 x2)] T (0, 0)) := by
  have hi3 : i = 0 ∨ i = 1 ∨ i = 2 := by omega
  rcases hi3 with rfl | rfl | rfl
  · rw [set3_0 h]; simp [up1, x3]
  · rw [set3_1 h]; simp [up1, x3]
  · rw [set3_2 h]; simp [up1, x3]

theorem atAdd_any (m i x : Nat) (w : World) (hx : x ≤ 2000) (hc : w.cell? ⟨m, i, none⟩ = some (.int .i64 (x : Int))) (hz : w.frozen? ⟨m, i, none⟩ = false) :
    Calls Try.prog 68 #[.pointer (some ⟨m, i, none⟩), .int .i64 1] w fun e w' => (∃ u, e = .returned u) ∧ w' = w.setCell ⟨m, i, none⟩ (.int .i64 ((x : Int) + 1)) := by
  have hadd := run_call_add (P := Try.prog) Try.func86 (by kernel_rfl) (by kernel_rfl) (by kernel_rfl) .i64 (by kernel_rfl) (x := (x : Int)) (y := 1) (s := (x : Int) + 1) hc hz (by
    have hw : IntKind.i64.wrap ((x : Int) + 1) = (x : Int) + 1 := by rw [IntKind.wrap_i64]; omega
    simp [go_sem, hw])
  go_enter Try.func68, Try.ntmps68
  go_wp2
  go_ret
  exact ⟨⟨_, rfl⟩, rfl⟩
theorem crsNew_any (w : World) : Calls Try.prog 28 #[] w fun e w' => ∃ v fp, e = .returned v ∧ Cro w' v 0 0 0 fp ∧ (∀ k ∈ fp, w.heap.size ≤ k) ∧ Ext w w' := by
  go_enter Try.func28, Try.ntmps28
  go_wp2
  go_ret
  exact ⟨_, _, rfl, ⟨w.heap.size, rfl, heap_alloc_top _ _, rfl⟩, fun k hk => by rw [List.mem_singleton.1 hk]; exact Nat.le_refl _, ext_alloc _ _⟩
end Go.Proofs.Ythohogbefpoclaa

/- Contracts of cross.ask and cross.verdict. -/
namespace Go.Proofs.Ythohogbefpoclaa
set_option linter.unusedVariables false
set_option linter.unusedSimpArgs false
open Go.RowKit

theorem crsAsk_arg (s : Value) (i : Int) (w : World) (h : i < 0 ∨ 2 < i) :
    Calls Try.prog 67 #[.int .i64 i, s] w fun e w' => e = .returned (.tuple #[.slice none 0 0, .int .i64 1]) ∧ w' = w := by
  have e0 : (i == 0) = false := by simp; omega
  have e1 : (i == 1) = false := by simp; omega
  have e2 : (i == 2) = false := by simp; omega
  clear h
  go_enter Try.func67, Try.ntmps67
  go_wp2
  go_ret2
  exact ⟨rfl, rfl⟩
set_option maxHeartbeats 1000000 in
theorem crsAsk_any (s : Value) (i : Nat) (zs : List Int) (w : World) (hi : i < 3) (hv : Sl .u8 w s zs) (h8 : Bytes8 zs) (hlen : zs.length ≤ 1000000) :
    Calls Try.prog 67 #[.int .i64 i, s] w fun e w' => ∃ u L c, e = .returned (.tuple #[u, .int .i64 c]) ∧ ResI zs 256 L c ∧ Own .i64 3 w.heap.size w' u L ∧ Ext w w' := by
  have hi3 : i = 0 ∨ i = 1 ∨ i = 2 := by omega
  have C0 := hide' (saBytes_any s zs w hv h8 hlen)
  have C1 := hide' (skBytes_any s zs w hv h8 hlen)
  have C2 := hide' (dbBytes_any s zs w hv h8 hlen)
  rcases hi3 with rfl | rfl | rfl
  · go_enter Try.func67, Try.ntmps67
    go_wp2_with fail
    refine C0.out.mono ?_
    rintro e w1 ⟨u, L, c, rfl, hr, ho, he⟩
    have R1 := hide' hr
    have O1 := hide' ho
    have X1 := hide' he
    clear hr ho he C0 C1 C2
    go_wp2
    go_ret2
    exact ⟨_, _, _, rfl, R1.out, O1.out, X1.out⟩
  · go_enter Try.func67, Try.ntmps67
    go_wp2_with fail
    refine C1.out.mono ?_
    rintro e w1 ⟨u, L, c, rfl, hr, ho, he⟩
    have R1 := hide' hr
    have O1 := hide' ho
    have X1 := hide' he
    clear hr ho he C0 C1 C2
    go_wp2
    go_ret2
    exact ⟨_, _, _, rfl, R1.out, O1.out, X1.out⟩
  · go_enter Try.func67, Try.ntmps67
    go_wp2_with fail
    refine C2.out.mono ?_
    rintro e w1 ⟨u, L, c, rfl, hr, ho, he⟩
    have R1 := hide' hr
    have O1 := hide' ho
    have X1 := hide' he
    clear hr ho he C0 C1 C2
    go_wp2
    go_ret2
    exact ⟨_, _, _, rfl, R1.out, O1.out, X1.out⟩

set_option maxHeartbeats 1000000 in
theorem crsVerdict_any (s : Value) (zs L : List Int) (a0 a1 a2 : Option Addr) (c0 c1 c2 : Nat) (w : World) (hv : Sl .u8 w s zs) (h8 : Bytes8 zs) (hl : zs.length ≤ 500) (hR : ResI zs 256 L 0)
    (h0 : Sl .i64 w (.slice a0 L.length c0) L) (h1 : Sl .i64 w (.slice a1 L.length c1) L) (h2 : Sl .i64 w (.slice a2 L.length c2) L) :
    Calls Try.prog 47 #[s, .agg #[.slice a0 L.length c0, .slice a1 L.length c1, .slice a2 L.length c2]] w fun e w' => ∃ r, e = .returned (.agg #[.slice a0 L.length c0, r, .bool true]) ∧ Own .i64 3 w.heap.size w' r (lcpL zs L) ∧ Ext w w' := by
  have HCH : Hid (chkB zs L (lcpL zs L) = true) := by
    obtain ⟨_, R, hR1, hR2⟩ := hR.ok (by omega) (fit256 h8)
    rw [hR2]
    exact chkB_yes (saB_yes hR1)
  have HLL : Hid (L.length ≤ 500) := by show _ ≤ _; have h1 := hR.len; omega
  have HP : Hid ((lcpL zs L).length ≤ 500) := by show _ ≤ _; have h1 := lcpL_le zs L; have := HLL.out; omega
  have HV := hide' hv
  have H8 := hide' h8
  have HL := hide' hl
  have H0 := hide' h0
  have H1 := hide' h1
  have H2 := hide' h2
  clear hR hv h8 hl h0 h1 h2
  have HG : Hid (∀ o o' : Obj, ((w.alloc o).alloc o').heap[w.heap.size]? = some o) := fun o o' => (heap_alloc_old _ _ (by simp)).trans (heap_alloc_top w o)
  have HG1 : Hid (∀ o o' : Obj, ((w.alloc o).alloc o').heap[w.heap.size + 1]? = some o') := fun o o' => by
    have := heap_alloc_top (w.alloc o) o'
    rwa [show (w.alloc o).heap.size = w.heap.size + 1 by simp] at this
  have HX : Hid (∀ o o' : Obj, Ext w ((w.alloc o).alloc o')) := fun o o' => (ext_alloc _ _).trans (ext_alloc _ _)
  have EQL : Hid (∀ (u : Value) (W : World) (x : List Int) (u' : Value), Sl .i64 W u x → Sl .i64 W u' x → x.length ≤ 500 → Calls Try.prog 40 #[u, u'] W fun e w' => e = .returned (.bool true) ∧ Ext W w') := fun u W x u' q1 q2 q3 => by
    refine (equalI_any u u' x x W q1 q2 (by omega) (by omega)).mono ?_
    rintro e w' ⟨rfl, m, rfl⟩
    exact ⟨by simp, Ext.drewN W m⟩
  go_enter Try.func47, Try.ntmps47
  go_wp2_with fail
  refine (klcp_any _ _ zs L _ (HV.out.ext (HX.out _ _)) (H0.out.ext (HX.out _ _)) HL.out (by have := HLL.out; omega)).mono ?_
  rintro e w1 ⟨r, rfl, ho, he⟩
  obtain ⟨ra, rc, hrs, _⟩ := ho.sl
  subst hrs
  have O1 := hide' ho
  have X1 := hide' ((HX.out _ _).trans he)
  have HB1 := hide' ((he.block w.heap.size (by simp; omega)).trans (HG.out _ _))
  have HV1 := hide' ((he.block (w.heap.size + 1) (by simp)).trans (HG1.out _ _))
  have hz1 := he.size
  clear ho he
  go_wp2_with fail
  refine (phLcp_any _ _ zs L w1 (HV.out.ext X1.out) (H0.out.ext X1.out) HL.out (by have := HLL.out; omega)).mono ?_
  rintro e w2 ⟨r2, rfl, ho, he⟩
  have O2 := hide' ho
  have O12 := hide' (O1.out.ext he)
  have X2 := hide' (X1.out.trans he)
  have HB2 := hide' ((he.block w.heap.size (Array.getElem?_eq_some_iff.1 HB1.out).1).trans HB1.out)
  have HV2 := hide' ((he.block (w.heap.size + 1) (Array.getElem?_eq_some_iff.1 HV1.out).1).trans HV1.out)
  clear ho he HB1 HV1
  obtain ⟨e0, e1, e2, _⟩ := cells3 HB2.out
  go_wp2_with fail
  refine (EQL.out _ w2 L _ (H0.out.ext X2.out) (H1.out.ext X2.out) HLL.out).mono ?_
  rintro e w3 ⟨rfl, he⟩
  have O13 := hide' (O12.out.ext he)
  have O23 := hide' (O2.out.ext he)
  have X3 := hide' (X2.out.trans he)
  have HB3 := hide' ((he.block w.heap.size (Array.getElem?_eq_some_iff.1 HB2.out).1).trans HB2.out)
  have HV3 := hide' ((he.block (w.heap.size + 1) (Array.getElem?_eq_some_iff.1 HV2.out).1).trans HV2.out)
  clear he HB2 HV2 e0 e1 e2
  obtain ⟨e0, e1, e2, _⟩ := cells3 HB3.out
  go_wp2_with fail
  refine (EQL.out _ w3 L _ (H0.out.ext X3.out) (H2.out.ext X3.out) HLL.out).mono ?_
  rintro e w4 ⟨rfl, he⟩
  have O14 := hide' (O13.out.ext he)
  have O24 := hide' (O23.out.ext he)
  have X4 := hide' (X3.out.trans he)
  have HV4 := hide' ((he.block (w.heap.size + 1) (Array.getElem?_eq_some_iff.1 HV3.out).1).trans HV3.out)
  clear he HB3 HV3 e0 e1 e2
  go_wp2_with fail
  refine (EQL.out _ w4 (lcpL zs L) _ O14.out.sl O24.out.sl HP.out).mono ?_
  rintro e w5 ⟨rfl, he⟩
  have O15 := hide' (O14.out.ext he)
  have X5 := hide' (X4.out.trans he)
  have HV5 := hide' ((he.block (w.heap.size + 1) (Array.getElem?_eq_some_iff.1 HV4.out).1).trans HV4.out)
  clear he HV4 O24
  go_wp2_with fail
  refine (chLcp_any _ _ _ zs L (lcpL zs L) w5 (HV.out.ext X5.out) H8.out (H0.out.ext X5.out) O15.out.sl HL.out (by have := HLL.out; omega) (by have := HP.out; omega)).mono ?_
  rw [HCH.out]
  rintro e w6 ⟨rfl, he⟩
  have O16 := hide' (O15.out.ext he)
  have X6 := hide' (X5.out.trans he)
  have HV6 := hide' ((he.block (w.heap.size + 1) (Array.getElem?_eq_some_iff.1 HV5.out).1).trans HV5.out)
  clear he HV5
  obtain ⟨e0, e1, e2, f0, f1, f2⟩ := cells3 HV6.out
  go_wp2
  have HVE := hide' (set3_2 (v := .bool true) (set3_1 (v := .slice ra (lcpL zs L).length rc) (set3_0 (v := .slice a0 L.length c0) HV6.out)))
  have B5 := hide' ((ButF.ofBut (fp := [w.heap.size + 1]) (by simp) (but_set w6 (w.heap.size + 1) 0 (.slice a0 L.length c0))).trans (Grows.refl _ _) ((ButF.ofBut (fp := [w.heap.size + 1]) (by simp) (but_set _ (w.heap.size + 1) 1 (.slice ra (lcpL zs L).length rc))).trans (Grows.refl _ _) (ButF.ofBut (fp := [w.heap.size + 1]) (by simp) (but_set _ (w.heap.size + 1) 2 (.bool true)))))
  (try simp only [Exit.inBlock, Exit.then])
  refine bodyPost_ret (results_cell_row rfl _ _ (w.heap.size + 1) 44 _ (0, 0) _ rfl HVE.out Try.underlying44 rfl (by kernel_rfl)) rfl ⟨_, rfl, ?_, ButF.ext X6.out B5.out (by simp)⟩
  refine (ButF.own O16.out B5.out fun j hj e => ?_).low (by simp; omega)
  have := (World.ownsRow.lt O16.out j hj).1
  simp only [List.mem_singleton] at e
  simp at this
  omega
end Go.Proofs.Ythohogbefpoclaa

/- Contracts of Cross.Sort and Cross.Run. -/
namespace Go.Proofs.Ythohogbefpoclaa
set_option linter.unusedVariables false
set_option linter.unusedSimpArgs false
open Go.RowKit

theorem crsSort_arg (v s : Value) (i : Int) (w : World) (h : i < 0 ∨ 2 < i) (hv : ∃ m, v = .pointer (some ⟨m, 0, none⟩)) :
    Calls Try.prog 46 #[v, .int .i64 i, s] w fun e w' => ∃ u, e = .returned (.tuple #[u, .int .i64 1]) ∧ Own .i64 3 w.heap.size w' u [] ∧ Ext w w' := by
  obtain ⟨m, rfl⟩ := hv
  have C := hide' (crsAsk_arg s i w h)
  clear h
  go_enter Try.func46, Try.ntmps46
  go_wp2_with fail
  refine C.out.mono ?_
  rintro e w1 ⟨rfl, rfl⟩
  clear C
  go_wp2
  go_ret2
  exact ⟨_, rfl, Own.nil _ _ _ _, Ext.refl _⟩
theorem crsSort_nil (s : Value) (i : Int) (w : World) :
    Calls Try.prog 46 #[.pointer none, .int .i64 i, s] w fun e w' => ∃ u, e = .returned (.tuple #[u, .int .i64 1]) ∧ Ext w w' := by
  go_enter Try.func46, Try.ntmps46
  go_wp2
  go_ret2
  exact ⟨_, rfl, Ext.refl _⟩
theorem crsSort_long (v s : Value) (zs : List Int) (i : Nat) (x0 x1 x2 : Nat) (fp : List Nat) (w : World) (h : Cro w v x0 x1 x2 fp) (hi : i < 3) (hs : Sl .u8 w s zs) (hz : ∀ z ∈ zs, z = 0) (hl : 100000 < zs.length) (hl2 : zs.length ≤ 100003) :
    Calls Try.prog 46 #[v, .int .i64 i, s] w fun e w' => ∃ u, e = .returned (.tuple #[u, .int .i64 2]) ∧ Ext w w' := by
  obtain ⟨m, rfl⟩ := h.ptr
  have h8 : Bytes8 zs := fun z hm => by rw [hz z hm]; omega
  have C := hide' (crsAsk_any s i zs w hi hs h8 (by omega))
  have HLO := hide' hl
  clear h hz hi hs h8 hl hl2
  go_enter Try.func46, Try.ntmps46
  go_wp2_with fail
  refine C.out.mono ?_
  rintro e w1 ⟨u, L, c, rfl, hr, _, he⟩
  obtain ⟨rfl, rfl⟩ := hr.long HLO.out
  have X1 := hide' he
  clear hr he C
  go_wp2
  go_ret2
  exact ⟨_, rfl, X1.out⟩

theorem But.ofFoot {m : Nat} {w w' : World} (h : ButF [m] w w') : But m w w' := ⟨h.os, h.tape, h.output, h.size, fun k hk hn => h.block k hk (fun e => hn (by rw [List.mem_singleton.1 e]))⟩

set_option maxHeartbeats 1000000 in
theorem crsSort_two (v s : Value) (zs : List Int) (i x0 x1 x2 : Nat) (fp : List Nat) (w : World) (h : Cro w v x0 x1 x2 fp) (hi : i < 3) (hs : Sl .u8 w s zs) (h8 : Bytes8 zs) (hl : zs.length ≤ 500) (hb : x0 ≤ 2000 ∧ x1 ≤ 2000 ∧ x2 ≤ 2000) :
    Calls Try.prog 46 #[v, .int .i64 i, s] w fun e w' => ∃ u L, e = .returned (.tuple #[u, .int .i64 0]) ∧ ResI zs 256 L 0 ∧ Own .i64 3 w.heap.size w' u L ∧ Cro w' v (up1 i 0 x0) (up1 i 1 x1) (up1 i 2 x2) fp ∧ ButF fp w w' := by
  obtain ⟨m, rfl, h2, rfl⟩ := h
  have C := hide' (crsAsk_any s i zs w hi hs h8 (by omega))
  have HB : Hid (x3 x0 x1 x2 i ≤ 2000) := x3_le hb.1 hb.2.1 hb.2.2
  have H2 := hide' h2
  have H8 := hide' h8
  have HL := hide' hl
  have HI := hide' hi
  have HM : Hid (m < w.heap.size) := (Array.getElem?_eq_some_iff.1 h2).1
  have HIF : Hid (decide ((i : Int) < 0) = false ∧ decide ((i : Int) < 3) = true) := ⟨by simp, by simp; omega⟩
  clear h2 h8 hl hi hb hs
  go_enter Try.func46, Try.ntmps46
  go_wp2_with fail
  refine C.out.mono ?_
  rintro e w1 ⟨u, L, c, rfl, hr, ho, he⟩
  obtain ⟨hc, _⟩ := hr.ok (by have := HL.out; omega) (fit256 H8.out)
  subst hc
  have R1 := hide' hr
  have O1 := hide' ho
  have X1 := hide' he
  have M1 := hide' ((he.block m HM.out).trans H2.out)
  obtain ⟨cc, ff⟩ := cells3i M1.out HI.out
  have HA := hide' (atAdd_any m i _ w1 HB.out cc ff)
  have S1 := hide' (set3i M1.out HI.out)
  have hlt := HI.out
  clear hr ho he C cc ff
  go_wp2_with fail
  refine HA.out.mono ?_
  rintro e w2 ⟨⟨y, rfl⟩, rfl⟩
  have B1 : Hid (ButF [m] w1 (w1.setCell ⟨m, i, none⟩ (.int .i64 ((x3 x0 x1 x2 i : Nat) + 1 : Int)))) := ButF.ofBut (by simp) (but_set _ _ _ _)
  clear HA
  go_wp2
  go_ret2
  refine ⟨u, L, rfl, R1.out, ButF.own O1.out B1.out (fun j hj e => ?_), ⟨m, rfl, S1.out, rfl⟩, (ButF.ofExt X1.out).trans (Grows.refl _ _) B1.out⟩
  have := (World.ownsRow.lt O1.out j hj).1
  have := HM.out
  simp only [List.mem_singleton] at e
  omega
theorem crsSort_ok (v s : Value) (zs : List Int) (i x0 x1 x2 : Nat) (fp : List Nat) (w : World) (h : Cro w v x0 x1 x2 fp) (hi : i < 3) (hs : Sl .u8 w s zs) (h8 : Bytes8 zs) (hl : zs.length ≤ 500) (hb : x0 ≤ 1000 ∧ x1 ≤ 1000 ∧ x2 ≤ 1000) :
    Calls Try.prog 46 #[v, .int .i64 i, s] w fun e w' => ∃ u L, e = .returned (.tuple #[u, .int .i64 0]) ∧ ResI zs 256 L 0 ∧ Own .i64 3 w.heap.size w' u L ∧ Cro w' v (up1 i 0 x0) (up1 i 1 x1) (up1 i 2 x2) fp ∧ ButF fp w w' :=
  crsSort_two v s zs i x0 x1 x2 fp w h hi hs h8 hl (by omega)

theorem crsRun_nil (s : Value) (w : World) :
    Calls Try.prog 29 #[.pointer none, s] w fun e w' => ∃ u, e = .returned (.tuple #[.agg #[.slice none 0 0, .slice none 0 0, .bool false], .int .i64 u]) ∧ u = 1 ∧ Ext w w' := by
  go_enter Try.func29, Try.ntmps29
  go_wp2
  (try simp only [Exit.inBlock, Exit.then])
  refine bodyPost_ret (results_agg_tmp rfl _ _ w.heap.size 44 _ (0, 0) _ rfl (heap_alloc_new _ _) Try.underlying44 rfl (by kernel_rfl)) rfl ⟨1, rfl, rfl, ext_alloc _ _⟩
theorem crsRun_long (v s : Value) (zs : List Int) (x0 x1 x2 : Nat) (fp : List Nat) (w : World) (h : Cro w v x0 x1 x2 fp) (hs : Sl .u8 w s zs) (hz : ∀ z ∈ zs, z = 0) (hl : 100000 < zs.length) (hl2 : zs.length ≤ 100003) :
    Calls Try.prog 29 #[v, s] w fun e w' => e = .returned (.tuple #[.agg #[.slice none 0 0, .slice none 0 0, .bool false], .int .i64 2]) ∧ Ext w w' := by
  obtain ⟨m, rfl⟩ := h.ptr
  obtain ⟨a, c, rfl, _⟩ := hs
  have d3 : decide ((100000 : Int) < (zs.length : Int)) = true := decide_eq_true (by omega)
  have d3' : decide (100000 < zs.length) = true := decide_eq_true (by omega)
  clear h hz
  go_enter Try.func29, Try.ntmps29
  go_wp2
  (try simp only [Exit.inBlock, Exit.then])
  refine bodyPost_ret (results_agg_tmp rfl _ _ w.heap.size 44 _ (0, 0) _ rfl (heap_alloc_new _ _) Try.underlying44 rfl (by kernel_rfl)) rfl ⟨rfl, ext_alloc _ _⟩

/-- How often one was asked, behind i rounds. -/
def upA (i j x : Nat) : Nat := if j < i then x + 1 else x
theorem upA_up {i j x : Nat} : up1 i j (upA i j x) = upA (i + 1) j x := by
  unfold up1 upA
  by_cases h1 : i = j
  · rw [if_pos h1, if_neg (by omega), if_pos (by omega)]
  · rw [if_neg h1]
    by_cases h2 : j < i
    · rw [if_pos h2, if_pos (by omega)]
    · rw [if_neg h2, if_neg (by omega)]
theorem upA_le {i j x n : Nat} (h : x ≤ n) : upA i j x ≤ n + 1 := by unfold upA; split <;> omega
/-- The j-th order, if i rounds are done. -/
def Got (B : Nat) (w : World) (L : List Int) (i j : Nat) (v : Value) : Prop := j < i → Own .i64 3 B w v L ∧ ∃ a c, v = .slice a L.length c
theorem Got.butF {B : Nat} {w w' : World} {L : List Int} {i j : Nat} {v : Value} {fp : List Nat} (h : Got B w L i j v) (hb : ButF fp w w') (hf : ∀ k ∈ fp, k < B) : Got B w' L i j v := fun hj => by
  obtain ⟨h1, h2⟩ := h hj
  refine ⟨ButF.own h1 hb (fun k hk e => ?_), h2⟩
  have := (World.ownsRow.lt h1 k hk).1
  have := hf k e
  omega
theorem Got.next {B : Nat} {w : World} {L : List Int} {i j : Nat} {v : Value} (h : Got B w L i j v) (hn : i ≠ j) : Got B w L (i + 1) j v := fun hj => h (by omega)
theorem Got.put {w : World} {L : List Int} {i m B : Nat} {v0 v1 v2 u : Value} {T : TypeId} (h : w.heap[m]? = some (.cells #[v0, v1, v2] T (0, 0))) (hi : i < 3) (h0 : Got B w L i 0 v0) (h1 : Got B w L i 1 v1) (h2 : Got B w L i 2 v2) (hu : Own .i64 3 B w u L ∧ ∃ a c, u = .slice a L.length c) (hm : m < B) :
    ∃ y0 y1 y2, (w.setCell ⟨m, i, none⟩ u).heap[m]? = some (.cells #[y0, y1, y2] T (0, 0)) ∧ Got B (w.setCell ⟨m, i, none⟩ u) L (i + 1) 0 y0 ∧ Got B (w.setCell ⟨m, i, none⟩ u) L (i + 1) 1 y1 ∧ Got B (w.setCell ⟨m, i, none⟩ u) L (i + 1) 2 y2 := by
  have hbf : ButF [m] w (w.setCell ⟨m, i, none⟩ u) := ButF.ofBut (by simp) (but_set _ _ _ _)
  have hf : ∀ k ∈ [m], k < B := fun k hk => by rw [List.mem_singleton.1 hk]; exact hm
  have hu' : ∀ n, Got B (w.setCell ⟨m, i, none⟩ u) L n i u := fun n => Got.butF (fun _ => hu) hbf hf
  have hi3 : i = 0 ∨ i = 1 ∨ i = 2 := by omega
  rcases hi3 with rfl | rfl | rfl
  · exact ⟨u, v1, v2, set3_0 h, hu' _, (h1.butF hbf hf).next (by omega), (h2.butF hbf hf).next (by omega)⟩
  · exact ⟨v0, u, v2, set3_1 h, (h0.butF hbf hf).next (by omega), hu' _, (h2.butF hbf hf).next (by omega)⟩
  · exact ⟨v0, v1, u, set3_2 h, (h0.butF hbf hf).next (by omega), (h1.butF hbf hf).next (by omega), hu' _⟩

set_option maxHeartbeats 2000000 in
theorem crsRun_ok (v s : Value) (zs : List Int) (x0 x1 x2 : Nat) (fp : List Nat) (w : World) (h : Cro w v x0 x1 x2 fp) (hs : Sl .u8 w s zs) (h8 : Bytes8 zs) (hl : zs.length ≤ 500) (hb : x0 ≤ 1000 ∧ x1 ≤ 1000 ∧ x2 ≤ 1000) :
    Calls Try.prog 29 #[v, s] w fun e w' => ∃ a r L, e = .returned (.tuple #[.agg #[a, r, .bool true], .int .i64 0]) ∧ ResI zs 256 L 0 ∧ Own .i64 3 w.heap.size w' a L ∧ Own .i64 3 w.heap.size w' r (lcpL zs L) ∧ (∀ j, a.ownBlock = some j → r.ownBlock ≠ some j) ∧ Cro w' v (x0 + 1) (x1 + 1) (x2 + 1) fp ∧ ButF fp w w' := by
  obtain ⟨m, rfl, h2, rfl⟩ := h
  have hR0 : ResI zs 256 (natL (sortE zs)) 0 := .inr (.inr ⟨by omega, fit256 h8, rfl, sortE zs, sortE_ord zs, rfl⟩)
  generalize natL (sortE zs) = L at hR0
  have HR := hide' hR0
  have H2 := hide' h2
  have H8 := hide' h8
  have HL := hide' hl
  have HBN := hide' hb
  have HM : Hid (m < w.heap.size) := (Array.getElem?_eq_some_iff.1 h2).1
  have HS := hide' hs
  obtain ⟨a, c, rfl, _⟩ := id hs
  have d3 : decide ((100000 : Int) < (zs.length : Int)) = false := decide_eq_false (by omega)
  have d3' : decide (100000 < zs.length) = false := decide_eq_false (by omega)
  have HG : Hid (∀ o o' : Obj, ((w.alloc o).alloc o').heap[w.heap.size]? = some o) := fun o o' => (heap_alloc_old _ _ (by simp)).trans (heap_alloc_top w o)
  have HG1 : Hid (∀ o o' : Obj, ((w.alloc o).alloc o').heap[w.heap.size + 1]? = some o') := fun o o' => by
    have := heap_alloc_top (w.alloc o) o'
    rwa [show (w.alloc o).heap.size = w.heap.size + 1 by simp] at this
  have HX : Hid (∀ o o' : Obj, Ext w ((w.alloc o).alloc o')) := fun o o' => (ext_alloc _ _).trans (ext_alloc _ _)
  have HSZ : Hid (∀ o o' : Obj, ((w.alloc o).alloc o').heap.size = w.heap.size + 2) := fun o o' => by simp
  clear h2 h8 hl hs hR0 hb
  go_enter Try.func29, Try.ntmps29
  go_wp2
  go_loopw [17] (fun iv wr => ∃ (i : Nat), i ≤ 3 ∧ iv = .int .i64 i ∧ ∃ v0 v1 v2, Hid (wr.heap[w.heap.size + 1]? = some (.cells #[v0, v1, v2] 64 (0, 0))) ∧ Hid (Got (w.heap.size + 2) wr L i 0 v0) ∧ Hid (Got (w.heap.size + 2) wr L i 1 v1) ∧ Hid (Got (w.heap.size + 2) wr L i 2 v2)
    ∧ Hid (wr.heap[w.heap.size]? = some (Obj.cells #[.slice none 0 0, .slice none 0 0, .bool false] 44 (0, 0)))
    ∧ Hid (wr.heap[m]? = some (.cells #[.int .i64 (upA i 0 x0 : Nat), .int .i64 (upA i 1 x1 : Nat), .int .i64 (upA i 2 x2 : Nat)] 63 (0, 0))) ∧ Hid (ButF [m] w wr) ∧ Hid (w.heap.size + 2 ≤ wr.heap.size)) (fun iv _ => 3 - (intOf iv).toNat)
  case atStart =>
    refine ⟨0, by omega, rfl, _, _, _, HG1.out _ _, fun h => absurd h (by omega), fun h => absurd h (by omega), fun h => absurd h (by omega), HG.out _ _, ?_, ButF.ofExt (HX.out _ _), Nat.le_of_eq (HSZ.out _ _).symm⟩
    show _ = _
    rw [(HX.out _ _).block m HM.out, H2.out]
    simp [upA]
  case round =>
    obtain ⟨i, hi, rfl, v0, v1, v2, HC, G0, G1, G2, HV, HCR, HBF, HWS⟩ := hrel
    by_cases hlt : i < 3
    · have d1 : decide ((i : Int) < 3) = true := by simp; omega
      have HSR := hide' (HS.out.but' (noByte3 H2.out) (But.ofFoot HBF.out))
      have C := hide' (crsSort_two (.pointer (some ⟨m, 0, none⟩)) _ zs i _ _ _ [m] wr ⟨m, rfl, HCR.out, rfl⟩ hlt HSR.out H8.out HL.out (by
        have h1 := HBN.out
        have h2 := @upA_le i 0 x0 1000 (by omega)
        have h3 := @upA_le i 1 x1 1000 (by omega)
        have h4 := @upA_le i 2 x2 1000 (by omega)
        omega))
      go_wp2_with fail
      refine C.out.mono ?_
      rintro e w1 ⟨u, L1, rfl, hr, ho, hcr, hbf⟩
      obtain ⟨rfl, _⟩ := HR.out.eq hr
      obtain ⟨m', hme, hcm, _⟩ := hcr
      have hmm : m' = m := by simp at hme; exact hme.symm
      rw [hmm] at hcm
      rw [upA_up, upA_up, upA_up] at hcm
      have hgs := HWS.out
      have hms := HM.out
      have hC1 : w1.heap[w.heap.size + 1]? = some (.cells #[v0, v1, v2] 64 (0, 0)) := (hbf.block _ (by omega) (by simp; omega)).trans HC.out
      have hV1 : w1.heap[w.heap.size]? = some (Obj.cells #[.slice none 0 0, .slice none 0 0, .bool false] 44 (0, 0)) := (hbf.block _ (by omega) (by simp; omega)).trans HV.out
      have hO := ho.low (show w.heap.size + 2 ≤ wr.heap.size from hgs)
      obtain ⟨ua, uc, rfl, _⟩ := hO.sl
      have hf : ∀ k ∈ [m], k < w.heap.size + 2 := fun k hk => by rw [List.mem_singleton.1 hk]; omega
      obtain ⟨y0, y1, y2, q, q0, q1, q2⟩ := Got.put hC1 hlt (G0.out.butF hbf hf) (G1.out.butF hbf hf) (G2.out.butF hbf hf) ⟨hO, _, _, rfl⟩ (by omega)
      have HC2 := hide' q
      have K0 := hide' q0
      have K1 := hide' q1
      have K2 := hide' q2
      have hbs : ButF [w.heap.size + 1] w1 (w1.setCell ⟨w.heap.size + 1, i, none⟩ (.slice ua L.length uc)) := ButF.ofBut (by simp) (but_set _ _ _ _)
      have HV2 := hide' ((hbs.block w.heap.size (Array.getElem?_eq_some_iff.1 hV1).1 (by simp)).trans hV1)
      have HCR2 := hide' ((hbs.block m (Array.getElem?_eq_some_iff.1 hcm).1 (by simp; omega)).trans hcm)
      have HBF2 : Hid (ButF [m] w (w1.setCell ⟨w.heap.size + 1, i, none⟩ (.slice ua L.length uc))) := (HBF.out.trans (Grows.refl _ _) hbf).trans (fun k hk => .inr (by rw [List.mem_singleton.1 hk]; omega)) hbs
      have HWS2 : Hid (w.heap.size + 2 ≤ (w1.setCell ⟨w.heap.size + 1, i, none⟩ (.slice ua L.length uc)).heap.size) := Nat.le_trans hgs (Nat.le_trans hbf.size hbs.size)
      obtain ⟨fc, ff⟩ : (∃ y, w1.cell? ⟨w.heap.size + 1, i, none⟩ = some y) ∧ w1.frozen? ⟨w.heap.size + 1, i, none⟩ = false := by
        obtain ⟨c0, c1, c2, f0, f1, f2⟩ := cells3 hC1
        have hi3 : i = 0 ∨ i = 1 ∨ i = 2 := by omega
        rcases hi3 with rfl | rfl | rfl
        · exact ⟨⟨_, c0⟩, f0⟩
        · exact ⟨⟨_, c1⟩, f1⟩
        · exact ⟨⟨_, c2⟩, f2⟩
      obtain ⟨y, fy⟩ := fc
      clear C HC G0 G1 G2 HV HCR HBF HWS HSR hr ho hcm hbf hgs hms hC1 hV1 hO hf q q0 q1 q2 hbs hmm hme
      go_wp2
      go_roundw
      case rel => exact ⟨i + 1, by omega, by go_num, y0, y1, y2, HC2, K0, K1, K2, HV2, HCR2, HBF2, HWS2⟩
      case measure => simp [intOf]; omega
    · have d1 : decide ((i : Int) < 3) = false := by simp; omega
      have hi3 : i = 3 := by omega
      have g0 := G0.out
      have g1 := G1.out
      have g2 := G2.out
      have hcr := HCR.out
      rw [hi3] at g0 g1 g2 hcr
      obtain ⟨o0, a0, k0, rfl⟩ := g0 (by omega)
      obtain ⟨o1, a1, k1, rfl⟩ := g1 (by omega)
      obtain ⟨o2, a2, k2, rfl⟩ := g2 (by omega)
      have HC4 : Hid (wr.heap[m]? = some (.cells #[.int .i64 (x0 + 1 : Nat), .int .i64 (x1 + 1 : Nat), .int .i64 (x2 + 1 : Nat)] 63 (0, 0))) := hcr
      have O0 := hide' o0
      have HSR := hide' (HS.out.but' (noByte3 H2.out) (But.ofFoot HBF.out))
      have C := hide' (crsVerdict_any _ zs L a0 a1 a2 k0 k1 k2 wr HSR.out H8.out HL.out HR.out o0.sl o1.sl o2.sl)
      obtain ⟨e0, e1, e2, _⟩ := cells3 HC.out
      clear g0 g1 g2 hcr o0 o1 o2 G0 G1 G2 HCR HC hi3 HSR
      go_wp2_with fail
      refine C.out.mono ?_
      rintro e w4 ⟨r, rfl, ho, he⟩
      have O4 := hide' ho
      have E4 := hide' he
      have HAP : Hid (∀ j, (Value.slice a0 L.length k0).ownBlock = some j → r.ownBlock ≠ some j) := fun j h1 h2 => by
        have a1 := O0.out.lts j h1
        have a2 := (World.ownsRow.lt ho j h2).1
        omega
      have O34 := hide' (O0.out.ext he)
      have HV4 := hide' ((he.block w.heap.size (Array.getElem?_eq_some_iff.1 HV.out).1).trans HV.out)
      have HC5 := hide' ((he.block m (Array.getElem?_eq_some_iff.1 HC4.out).1).trans HC4.out)
      obtain ⟨ra, rc, hrs, _⟩ := ho.sl
      subst hrs
      clear ho he C e0 e1 e2
      obtain ⟨c0, c1, c2, f0, f1, f2⟩ := cells3 HV4.out
      go_wp2
      have HVE := hide' (set3_2 (v := .bool true) (set3_1 (v := .slice ra (lcpL zs L).length rc) (set3_0 (v := .slice a0 L.length k0) HV4.out)))
      have B5 := hide' ((ButF.ofBut (fp := [w.heap.size]) (by simp) (but_set w4 w.heap.size 0 (.slice a0 L.length k0))).trans (Grows.refl _ _) ((ButF.ofBut (fp := [w.heap.size]) (by simp) (but_set _ w.heap.size 1 (.slice ra (lcpL zs L).length rc))).trans (Grows.refl _ _) (ButF.ofBut (fp := [w.heap.size]) (by simp) (but_set _ w.heap.size 2 (.bool true)))))
      (try simp only [Exit.inBlock, Exit.then])
      have hms := HM.out
      have hgs := HWS.out
      refine bodyPost_ret (results_agg_tmp rfl _ _ w.heap.size 44 _ (0, 0) _ rfl HVE.out Try.underlying44 rfl (by kernel_rfl)) rfl ⟨_, _, L, rfl, HR.out, ?_, ?_, HAP.out, ⟨m, rfl, ?_, rfl⟩, ?_⟩
      · refine (ButF.own O34.out B5.out fun j hj e => ?_).low (by omega)
        have := (World.ownsRow.lt O34.out j hj).1
        simp only [List.mem_singleton] at e
        omega
      · refine (ButF.own O4.out B5.out fun j hj e => ?_).low (by omega)
        have := (World.ownsRow.lt O4.out j hj).1
        simp only [List.mem_singleton] at e
        omega
      · rw [B5.out.block m (Array.getElem?_eq_some_iff.1 HC5.out).1 (by simp; omega)]
        exact HC5.out
      · exact (HBF.out.trans (Grows.refl _ _) (ButF.ofExt E4.out)).trans (fun k hk => .inr (by rw [List.mem_singleton.1 hk]; exact Nat.le_refl _)) B5.out
end Go.Proofs.Ythohogbefpoclaa

/- whorltop's own known answer: banana, by all three sorters. -/
namespace Go.Proofs.Ythohogbefpoclaa
set_option linter.unusedVariables false
set_option linter.unusedSimpArgs false
open Go.RowKit

set_option maxHeartbeats 2000000 in
theorem topKnown_any (w : World) : Calls Try.prog 13 #[] w fun e w' => e = .returned (.bool true) ∧ Ext w w' := by
  have hc6 := fun w => Go.Lib.run_convert_bytes_const (P := Try.prog) w 22 5 #[.int .u8 98, .int .u8 97, .int .u8 110, .int .u8 97, .int .u8 110, .int .u8 97] 6 6 Try.underlying22 Try.underlying5
  have H6 : Hid (∀ w : World, Sl .u8 (w.alloc (.cells (([98, 97, 110, 97, 110, 97] : List Int).map (Value.int .u8)).toArray 5 (6, 7))) (.slice (some ⟨w.heap.size, 0, none⟩) 6 6) [98, 97, 110, 97, 110, 97]) := fun w => Sl.lit' (k := .u8) (e := 5) (fr := (6, 7)) w [98, 97, 110, 97, 110, 97] 6 rfl (by decide)
  have H1 : Hid (∀ (w : World), Sl .i64 (w.alloc (.cells (([5, 3, 1, 0, 4, 2] : List Int).map (Value.int .i64)).toArray 3)) (.slice (some ⟨w.heap.size, 0, none⟩) 6 6) [5, 3, 1, 0, 4, 2]) := fun w => Sl.lit (k := .i64) (e := 3) w _ 6 rfl (by decide)
  have J1 : Hid (∀ (w : World) (o : Obj), Sl .i64 ((w.alloc o).alloc (.cells (([5, 3, 1, 0, 4, 2] : List Int).map (Value.int .i64)).toArray 3)) (.slice (some ⟨w.heap.size + 1, 0, none⟩) 6 6) [5, 3, 1, 0, 4, 2]) := fun w o => by
    have := H1.out (w.alloc o)
    rwa [show (w.alloc o).heap.size = w.heap.size + 1 by simp] at this
  have E2 : Hid (∀ (w : World) (o o' : Obj), Ext w ((w.alloc o).alloc o')) := fun w o o' => (ext_alloc w o).trans (ext_alloc _ o')
  go_enter Try.func13, Try.ntmps13
  go_wp2_with fail
  refine (crsNew_any w).mono ?_
  rintro e w1 ⟨v, fp, rfl, hm, hn, he⟩
  have M1 := hide' hm
  have N1 := hide' hn
  have X1 := hide' he
  clear hm hn he
  obtain ⟨m, rfl⟩ := M1.out.ptr
  go_wp2_with fail
  refine (crsRun_ok _ _ [98, 97, 110, 97, 110, 97] 0 0 0 fp _ (M1.out.ext (ext_alloc _ _)) (H6.out w1) banana_bytes (by decide) (by decide)).mono ?_
  rintro e w3 ⟨a, r, L, rfl, hR, ha, hr, _, hm, hb⟩
  obtain ⟨_, R, hR1, rfl⟩ := hR.ok (by decide) (fit256 banana_bytes)
  obtain rfl := hR1.eq banana_ord
  have A3 := hide' ha.sl
  have X3 := hide' (ButF.ext (X1.out.trans (ext_alloc _ _)) hb N1.out)
  obtain ⟨aa, ac, rfl, _⟩ := ha.sl
  obtain ⟨ra, rc, rfl, _⟩ := hr.sl
  clear hm ha hr hb hR hR1 M1 N1 X1
  go_wp2_with fail
  refine (ints_same _ _ [5, 3, 1, 0, 4, 2] _ (A3.out.ext (E2.out w3 _ _)) (J1.out w3 _) (by decide)).mono ?_
  rintro e w4 ⟨rfl, he⟩
  have X4 := hide' (X3.out.trans ((E2.out w3 _ _).trans he))
  clear he
  go_wp2
  go_ret
  exact ⟨rfl, X4.out⟩
end Go.Proofs.Ythohogbefpoclaa

/- Contracts of the document's own Inverse and Is: whorlref16. -/
namespace Go.Proofs.Ythohogbefpoclaa
set_option linter.unusedVariables false
set_option linter.unusedSimpArgs false
open Go.RowKit

set_option maxHeartbeats 1000000 in
theorem rinv_any (v : Value) (l : List Int) (w : World) (hv : Sl .i64 w v l) (hlen : l.length ≤ 1000000) :
    Calls Try.prog 27 #[v] w fun e w' => ∃ s, e = .returned (.tuple #[s, .bool (ordB l)]) ∧ Own .i64 3 w.heap.size w' s (invI l) ∧ Ext w w' := by
  have HV := hide' hv
  obtain ⟨a, c, rfl, _⟩ := hv
  obtain ⟨_, _, _, hcv⟩ := HV.out.int
  have CV := hide' hcv
  obtain ⟨n, HN⟩ : ∃ n, Hid (l.length = n) := ⟨_, rfl⟩
  rw [HN.out] at CV hlen ⊢
  clear hcv HV
  obtain ⟨w1, hmk, ho, he⟩ := make_intsB w n (by omega)
  have HO := hide' ho
  have HE := hide' he
  clear ho he
  go_enter Try.func27, Try.ntmps27
  go_wp2
  clear hmk
  go_loopw [5] (fun vi wr => ∃ (i : Nat) (bs : List Int), i ≤ n ∧ vi = .int .i64 i ∧ Hid (bs.length = n) ∧ Hid (∀ j, j < i → bs.getD j 0 = -1) ∧
    Hid (Own .i64 3 w.heap.size wr (.slice (some ⟨w.heap.size, 0, none⟩) n n) bs) ∧ Hid (Ext w wr)) (fun vi _ => n - (intOf vi).toNat)
  case atStart => exact ⟨0, List.replicate n 0, Nat.zero_le _, rfl, List.length_replicate, (fun j hj => by omega), HO, HE⟩
  case round =>
    clear HO HE
    obtain ⟨i, bs, hi, rfl, HL, HB, HO, HE⟩ := hrel
    by_cases hlt : i < n
    · have hlt' : (i : Int) < n := by omega
      have hfz := HO.out.frozen HL.out i
      have hci := HO.out.cell HL.out i hlt
      have HO2 := hide' (HO.out.store HL.out i (-1))
      go_wp2
      go_roundw
      case rel =>
        refine ⟨i + 1, bs.set i (-1), by omega, by go_num, (show _ = _ by rw [List.length_set]; exact HL.out), fun j hj => ?_, HO2, Ext.but HE.out (Nat.le_refl _) (but_set _ _ _ _)⟩
        by_cases hji : j = i
        · subst hji; rw [setI_same (by rw [HL.out]; exact hlt)]
        · rw [setI_other (by omega), HB.out j (by omega)]
      case measure => simp [intOf]; omega
    · have hlt' : decide ((i : Int) < n) = false := by simp; omega
      have hin : n = i := by omega
      have HI0 : Hid (Inv l 0 bs) := Inv.start (by rw [HL.out, HN.out]) fun x hx => HB.out x (by rw [HN.out] at hx; omega)
      clear HB
      subst hin
      go_wp2
      go_loopw [6] (fun vi wq => ∃ (t : Nat) (cs : List Int), t ≤ n ∧ vi = .int .i64 t ∧ Hid (cs.length = n) ∧ Hid (Inv l t cs) ∧
        Hid (Own .i64 3 w.heap.size wq (.slice (some ⟨w.heap.size, 0, none⟩) n n) cs) ∧ Hid (Ext w wq)) (fun vi _ => n - (intOf vi).toNat)
      case atStart => exact ⟨0, bs, Nat.zero_le _, rfl, HL, HI0, HO, HE⟩
      case round =>
        clear HO HE HL HI0 hlt hlt' hi
        obtain ⟨t, cs, ht, rfl, HL, HI, HO, HE⟩ := hrel
        by_cases hlt : t < n
        · have hlt' : (t : Int) < n := by omega
          obtain ⟨g1, o1, rfl, k1⟩ := CV.out (by omega)
          have c1 := HE.out.cellOf (k1 t hlt)
          have C1 := hide' (k1 t hlt)
          clear k1
          have HBAD : Hid (∀ z, l.getD t 0 = z → (z < 0 ∨ (n : Int) ≤ z ∨ 0 ≤ cs.getD z.toNat 0) → ordB l = false ∧ invI l = []) := fun z hz h => HI.out.bad (by rw [HN.out]; exact hlt) (by rw [hz, HN.out]; exact h)
          have HNX : Hid (∀ p : Nat, l.getD t 0 = (p : Int) → p < n → cs.getD p 0 < 0 → Inv l (t + 1) (cs.set p (t : Int))) := fun p h1 h2 h3 => HI.out.next (by rw [HN.out]; exact hlt) h1 (by rw [HN.out]; exact h2) h3
          obtain ⟨z, HZ⟩ : ∃ p, Hid (l.getD t 0 = p) := ⟨_, rfl⟩
          rw [HZ.out] at c1 C1
          by_cases h0 : z < 0
          · have HB := hide' (HBAD.out z HZ.out (.inl h0))
            go_wp2
            go_ret2
            rw [HB.out.1, HB.out.2]
            exact ⟨_, rfl, Own.nil _ _ _ _, HE.out⟩
          · have e0 : decide (z < 0) = false := by simp; omega
            by_cases h1 : (n : Int) ≤ z
            · have HB := hide' (HBAD.out z HZ.out (.inr (.inl h1)))
              go_wp2
              go_ret2
              rw [HB.out.1, HB.out.2]
              exact ⟨_, rfl, Own.nil _ _ _ _, HE.out⟩
            · have e1 : decide ((n : Int) ≤ z) = false := by simp; omega
              obtain ⟨p, rfl⟩ := Int.eq_ofNat_of_zero_le (show 0 ≤ z by omega)
              have hp : p < n := by omega
              have hp' : (p : Int) < n := by omega
              have e2 : decide (n ≤ p) = false := by simp; omega
              have hci := HO.out.cell HL.out p hp
              clear h0 h1
              obtain ⟨y, HY⟩ : ∃ x, Hid (cs.getD p 0 = x) := ⟨_, rfl⟩
              rw [HY.out] at hci
              by_cases hy : 0 ≤ y
              · have HB := hide' (HBAD.out p HZ.out (.inr (.inr (by rw [Int.toNat_natCast, HY.out]; exact hy))))
                go_wp2
                go_ret2
                rw [HB.out.1, HB.out.2]
                exact ⟨_, rfl, Own.nil _ _ _ _, HE.out⟩
              · have e3 : decide (0 ≤ y) = false := by simp; omega
                have HM2 := hide' (HNX.out p HZ.out hp (by rw [HY.out]; omega))
                have hfz := HO.out.frozen HL.out p
                have HO2 := hide' (HO.out.store HL.out p (t : Int))
                clear hy
                go_wp2
                go_roundw
                case rel => exact ⟨t + 1, cs.set p (t : Int), by omega, by go_num, (show _ = _ by rw [List.length_set]; exact HL.out), HM2, HO2, Ext.but HE.out (Nat.le_refl _) (but_set _ _ _ _)⟩
                case measure => simp [intOf] <;> omega
        · have hlt' : decide ((t : Int) < n) = false := by simp; omega
          have htl : n = t := by omega
          have HB := hide' ((show Inv l l.length cs by rw [HN.out, htl]; exact HI.out).done)
          go_wp2
          go_ret2
          rw [HB.out.1, HB.out.2]
          exact ⟨_, rfl, HO.out, HE.out⟩

theorem ris_any (v : Value) (l : List Int) (w : World) (hv : Sl .i64 w v l) (hlen : l.length ≤ 1000000) :
    Calls Try.prog 10 #[v] w fun e w' => e = .returned (.bool (ordB l)) ∧ Ext w w' := by
  have C := hide' (rinv_any v l w hv hlen)
  clear hv hlen
  go_enter Try.func10, Try.ntmps10
  go_wp2_with fail
  refine C.out.mono ?_
  rintro e w1 ⟨s, rfl, _, he⟩
  have X1 := hide' he
  clear he C
  go_wp2
  go_ret
  exact ⟨rfl, X1.out⟩
end Go.Proofs.Ythohogbefpoclaa

/- A region that draws its order, whose first operations leave all old memory as it was and may make new memory, and whose last ones (a store) come one behind the other: one walk in the order of the text serves every order. Over any program; no conditions. -/
namespace Go.Proofs.Ythohogbefpoclaa
set_option linter.unusedVariables false
set_option linter.unusedSimpArgs false
open Go.RowKit

section
variable {P : Program} {ops : Array Oper} {md : Region.Mode} {S : FuncId → Array Value → Value → World → Prop} {w0 : World}

def anyKL (P : Program) (md : Region.Mode) (ops : Array Oper) (S : FuncId → Array Value → Value → World → Prop) (w0 : World) (n : Nat) (L : Array Bool → Act → Facts → Prop) : Nat → Array Bool → Act → Facts → Prop
  | 0, listed, a, F => L listed a F
  | fuel + 1, listed, a, F =>
    Region.ready md ops listed ≠ [] ∧
    ∀ i ∈ Region.ready md ops listed, i < n ∧ kOp P ops S w0 i (anyKL P md ops S w0 n L fuel (listed.setIfInBounds i true)) a F

theorem anyKL_anti {n : Nat} {L : Array Bool → Act → Facts → Prop} (hL : ∀ listed a F F', (∀ t w, F' t w → F t w) → L listed a F → L listed a F') : ∀ (fuel : Nat) (listed : Array Bool) (a : Act) (F F' : Facts), (∀ t w, F' t w → F t w) →
    anyKL P md ops S w0 n L fuel listed a F → anyKL P md ops S w0 n L fuel listed a F'
  | 0, _, _, _, _, h, hh => hL _ _ _ _ h hh
  | fuel + 1, _, _, _, _, h, hh => ⟨hh.1, fun i hi => ⟨(hh.2 i hi).1, kOp_anti (fun a F F' h => anyKL_anti hL fuel _ a F F' h) h (hh.2 i hi).2⟩⟩

theorem wpAny_of_anyKL {n g : Nat} {L : Array Bool → Act → Facts → Prop} {Q' : Exit → Act → World → Prop} (hL : ∀ listed a F w, Ext w0 w → (∀ t, F t w) → L listed a F → wpAny P md ops Q' g listed a w) :
    ∀ (fuel : Nat) (listed : Array Bool) (a : Act) (F : Facts) (w : World),
    Ext w0 w → (∀ t, UpW (F t)) → (∀ t, F t w) → anyKL P md ops S w0 n L fuel listed a F → wpAny P md ops Q' (fuel + g) listed a w
  | 0, _, _, _, _, he, _, hf, h => by rw [Nat.zero_add]; exact hL _ _ _ _ he hf h
  | fuel + 1, listed, a, F, w, he, hup, hf, h => by
    rw [show fuel + 1 + g = (fuel + g) + 1 by omega]
    refine ⟨fun e => absurd e h.1, fun i hi => ?_⟩
    have h1 := (h.2 i hi).2
    unfold kOp at h1
    unfold wpOp
    cases ho : ops[i]? with
    | none => simp only [ho] at h1 ⊢; exact wpAny_of_anyKL hL fuel _ _ _ _ he hup hf h1
    | some o =>
      simp only [ho] at h1 ⊢
      obtain ⟨R, ⟨hR, hy⟩, hn⟩ := h1
      have go : ∀ v w', Ext w w' → R v w' → wpAny P md ops Q' (fuel + g) (listed.setIfInBounds i true) (a.put o.dst v) w' := fun v w' hx hr =>
        wpAny_of_anyKL hL fuel _ _ _ _ (he.trans hx) (fun t w1 w2 h12 hh => ⟨hup t w1 w2 h12 hh.1, fun e => hR v w1 w2 h12 (hh.2 e)⟩) (fun t => ⟨hup t w w' hx (hf t), fun _ => hr⟩)
          (hn v ⟨w', he.trans hx, fun t => hup t w w' hx (hf t), hr⟩)
      rcases hy with ⟨hw, hk⟩ | ⟨hw, rfl⟩
      · rw [if_pos hw]
        refine .inl ?_
        have h2 := hk w he fun t _ => hf t
        unfold Oper.wp
        generalize (execOp a.eval o).run P w = r at *
        cases r with
        | ok n w' =>
          cases n <;> simp only [kUpon] at h2 <;> simp only [Oper.upon]
          case value u => exact go _ _ h2.1 h2.2
          case skip => exact go _ _ h2.1 h2.2
          case enter f args =>
            obtain ⟨h3, h4, h5⟩ := h2
            exact h4.mono fun e w'' ⟨v, hv, h6, h7⟩ => by subst hv; exact go _ _ (h3.trans h6) (h5 _ _ h7)
        | halt x w' => simp only [kUpon] at h2
      · rw [if_neg (by rw [hw]; exact Bool.false_ne_true)]
        exact go _ _ (Ext.refl _) rfl

theorem anyKL_first {n i : Nat} {oi : Oper} {L : Array Bool → Act → Facts → Prop} (hL : ∀ listed a F F', (∀ t w, F' t w → F t w) → L listed a F → L listed a F')
    (hi : ops[i]? = some oi) (hsel : ∀ (j : Nat) (o : Oper) cs b, ops[j]? = some o → o.op ≠ .select cs b)
    (hdst : ∀ (j : Nat) (o : Oper), j < n → ops[j]? = some o → ∃ d, o.dst = Option.some d)
    (hs : Region.sinkB md ops n = true) (hc : Region.chainB md ops n = true) (hn : n < ops.size) (hin : i < n)
    (hdone : ∀ listed a F, L listed a F → ∀ j ∈ Region.ready md ops listed, n ≤ j) :
    ∀ (fuel : Nat) (listed : Array Bool) (a : Act) (F : Facts) (R : Value → World → Prop), HeadInv md ops n listed →
      (∀ j oj, ops[j]? = some oj → j ≠ i → listed.getD j true = false → (∀ e ∈ oj.after, Region.binds md e = true → e.on ≠ i) → oi.apart ops oj = true) →
      i ∈ Region.ready md ops listed → KY P ops S w0 oi a F R → (∀ t, UpW (F t)) → (∃ w, Ext w0 w ∧ ∀ t, F t w) →
      (∀ v, (∃ w, Ext w0 w ∧ (∀ t, F t w) ∧ R v w) → anyKL P md ops S w0 n L fuel (listed.setIfInBounds i true) (a.put oi.dst v) (F.add oi.dst (R v))) →
      anyKL P md ops S w0 n L (fuel + 1) listed a F := by
  intro fuel
  induction fuel with
  | zero =>
    intro listed a F R inv _ hr hy hup ⟨w, hw, hf⟩ H
    have hun := (mem_ready.1 hr).1
    refine ⟨fun h => (by rw [h] at hr; cases hr), fun j hj => ?_⟩
    have hjn : j < n := by
      rcases Nat.lt_or_ge j n with h | h
      · exact h
      · exact absurd hj (tail_waits hs hc hn inv _ i rfl hin hun j h)
    refine ⟨hjn, ?_⟩
    by_cases hji : j = i
    · subst hji; unfold kOp; simp only [hi]; exact ⟨R, hy, H⟩
    · obtain ⟨v, w', h1, h2, h3⟩ := hy.some hup hw hf
      have := hdone _ _ _ (H v ⟨w', h1, h2, h3⟩) j (ready_mono hj hji)
      omega
  | succ fuel ih =>
    intro listed a F R inv hfree hr hy hup ⟨w, hw, hf⟩ H
    have hun := (mem_ready.1 hr).1
    refine ⟨fun h => (by rw [h] at hr; cases hr), fun j hj => ?_⟩
    have hjn : j < n := by
      rcases Nat.lt_or_ge j n with h | h
      · exact h
      · exact absurd hj (tail_waits hs hc hn inv _ i rfl hin hun j h)
    refine ⟨hjn, ?_⟩
    by_cases hji : j = i
    · subst hji; unfold kOp; simp only [hi]; exact ⟨R, hy, H⟩
    · obtain ⟨hjun, oj, hoj, hall⟩ := mem_ready.1 hj
      have hnot : ∀ e ∈ oj.after, Region.binds md e = true → e.on ≠ i := fun e he hb heq => by
        have h1 := hall e he hb
        rw [heq, getD_both hun] at h1
        cases h1
      have hap := hfree j oj hoj hji hjun hnot
      obtain ⟨p1, p2, p3⟩ := Oper.apart_spec hap
      have hsi : ∀ cs b, oi.op ≠ .select cs b := fun cs b => hsel i oi cs b hi
      have hsj : ∀ cs b, oj.op ≠ .select cs b := fun cs b => hsel j oj cs b hoj
      have H1 : ∀ v : { v // ∃ w, Ext w0 w ∧ (∀ t, F t w) ∧ R v w }, kStep P ops S w0 oj (a.put oi.dst v.1) (F.add oi.dst (R v.1)) (anyKL P md ops S w0 n L fuel ((listed.setIfInBounds i true).setIfInBounds j true)) := fun v => by
        have h1 := ((H v.1 v.2).2 j (ready_mono hj hji)).2
        unfold kOp at h1
        simpa only [hoj] using h1
      obtain ⟨v0, w', e1, e2, e3⟩ := hy.some hup hw hf
      let i0 : { v // ∃ w, Ext w0 w ∧ (∀ t, F t w) ∧ R v w } := ⟨v0, w', e1, e2, e3⟩
      let Rj : { v // ∃ w, Ext w0 w ∧ (∀ t, F t w) ∧ R v w } → Value → World → Prop := fun v => Classical.choose (H1 v)
      have HRj : ∀ v, KY P ops S w0 oj (a.put oi.dst v.1) (F.add oi.dst (R v.1)) (Rj v) ∧ ∀ u, (∃ w, Ext w0 w ∧ (∀ t, (F.add oi.dst (R v.1)) t w) ∧ Rj v u w) →
          anyKL P md ops S w0 n L fuel ((listed.setIfInBounds i true).setIfInBounds j true) ((a.put oi.dst v.1).put oj.dst u) ((F.add oi.dst (R v.1)).add oj.dst (Rj v u)) := fun v => Classical.choose_spec (H1 v)
      have hyj : ∀ v, KY P ops S w0 oj a F (Rj v) := fun v => (HRj v).1.of_same (fun w t ht hft => ⟨hft, fun e => absurd ht (p1 t e)⟩) (execOp_put oj hsj a oi.dst v.1 p1).symm (wanted_put oj a oi.dst v.1 p1).symm
      unfold kOp
      simp only [hoj]
      refine ⟨fun u w => ∀ v, Rj v u w, ⟨fun u w1 w2 h12 hh v => (hyj v).1 u w1 w2 h12 (hh v), ?_⟩, fun u hu => ?_⟩
      · by_cases hwant : Region.wanted oj (yielded ops a.tmps) = true
        · refine .inl ⟨hwant, fun w1 hx hf1 => kUpon_all i0 fun v => ?_⟩
          rcases (hyj v).2 with ⟨_, h2⟩ | ⟨h2, _⟩
          · exact h2 w1 hx hf1
          · rw [hwant] at h2; cases h2
        · have hwf : Region.wanted oj (yielded ops a.tmps) = false := by simpa using hwant
          refine .inr ⟨hwf, ?_⟩
          funext u w1
          have : ∀ v, Rj v = fun v _ => v = undef := fun v => by
            rcases (hyj v).2 with ⟨h2, _⟩ | ⟨_, h2⟩
            · rw [hwf] at h2; cases h2
            · exact h2
          simp only [this, eq_iff_iff]
          exact ⟨fun h => h i0, fun h _ => h⟩
      · obtain ⟨w1, f1, f2, f3⟩ := hu
        have hfree' : ∀ k ok, ops[k]? = some ok → k ≠ i → (listed.setIfInBounds j true).getD k true = false →
            (∀ e ∈ ok.after, Region.binds md e = true → e.on ≠ i) → oi.apart ops ok = true := fun k ok hk hki hun hno => by
          refine hfree k ok hk hki ?_ hno
          by_cases hjk : j = k
          · subst hjk; exact hjun
          · rw [getD_set_ne true hjk] at hun; exact hun
        refine ih (listed.setIfInBounds j true) (a.put oj.dst u) (F.add oj.dst fun w => ∀ v, Rj v u w) R (inv.set hj hjn) hfree' (ready_mono hr (Ne.symm hji)) ?_ ?_ ⟨w1, f1, fun t => ⟨f2 t, fun _ => f3⟩⟩ ?_
        · exact hy.of_same (fun w t ht hft => hft.1) (execOp_put oi hsi a oj.dst u p3) (wanted_put oi a oj.dst u p3)
        · exact fun t w2 w3 h23 hh => ⟨hup t w2 w3 h23 hh.1, fun e v => (hyj v).1 u w2 w3 h23 (hh.2 e v)⟩
        · intro v ⟨w2, g1, g2, g3⟩
          have hv : ∃ w, Ext w0 w ∧ (∀ t, F t w) ∧ R v w := ⟨w2, g1, fun t => (g2 t).1, g3⟩
          obtain ⟨d, hd⟩ := hdst j oj hjn hoj
          have h3 := (HRj ⟨v, hv⟩).2 u ⟨w2, g1, fun t => ⟨(g2 t).1, fun _ => g3⟩, (g2 d).2 hd ⟨v, hv⟩⟩
          rw [Array.setIfInBounds_comm _ _ (Ne.symm hji), Act.put_comm a v u p2] at h3
          refine anyKL_anti hL _ _ _ _ _ ?_ h3
          intro t w3 hh
          exact ⟨⟨hh.1.1, hh.2⟩, fun e => hh.1.2 e ⟨v, hv⟩⟩

theorem anyKL_lex {n g : Nat} {Q : Act → Facts → Prop} (hQ : ∀ a F F', (∀ t w, F' t w → F t w) → Q a F → Q a F') (hsel : Region.noSelect ops = true)
    (hdst : ∀ (j : Nat) (o : Oper), j < n → ops[j]? = some o → ∃ d, o.dst = Option.some d) (hs : Region.sinkB md ops n = true) (hc : Region.chainB md ops n = true) (hn : n < ops.size) :
    ∀ (l : List Oper) (k : Nat) (listed : Array Bool) (a : Act) (F : Facts), (∀ j, j < l.length → l[j]? = ops[k + j]?) → k + l.length = n → HeadInv md ops n listed →
      Region.lexHead md ops g l.length k listed = true → (∀ t, UpW (F t)) → (∃ w, Ext w0 w ∧ ∀ t, F t w) →
      lexK P ops S w0 Q l a F → anyKL P md ops S w0 n (fun listed' a' F' => Region.seqB md ops g n listed' = true ∧ Q a' F') l.length listed a F
  | [], k, _, _, _, _, hk, _, hB, _, _, h => by
    have : k = n := by simpa using hk
    subst this
    exact ⟨by simpa [Region.lexHead] using hB, h⟩
  | o :: l, k, listed, a, F, hl, hk, inv, hB, hup, hcon, h => by
    have h0 : ops[k]? = Option.some o := by simpa using (hl 0 (by simp)).symm
    simp only [List.length_cons, Region.lexHead, Bool.and_eq_true] at hB
    obtain ⟨⟨hr, hf⟩, hB'⟩ := hB
    have hkn : k < n := by simp only [List.length_cons] at hk; omega
    have hr' : k ∈ Region.ready md ops listed := by simpa using hr
    obtain ⟨R, hy, hnx⟩ := h
    refine anyKL_first (fun listed a F F' hx hh => ⟨hh.1, hQ _ _ _ hx hh.2⟩) h0 (Region.noSelect_spec hsel) hdst hs hc hn hkn (fun listed' a' F' hL => seqB_ready hL.1) l.length listed a F R inv (Region.free_spec h0 hf) hr' hy hup hcon fun v ⟨w, g1, g2, g3⟩ => ?_
    refine anyKL_lex hQ hsel hdst hs hc hn l (k + 1) _ _ _ (fun j hj => by have := hl (j + 1) (by simp; omega); simpa [Nat.add_assoc, Nat.add_comm 1 j] using this) (by simp only [List.length_cons] at hk; omega) (inv.set hr' hkn) hB' ?_ ⟨w, g1, fun t => ⟨g2 t, fun _ => g3⟩⟩ (hnx v ⟨w, g1, g2, g3⟩)
    exact fun t w2 w3 h23 hh => ⟨hup t w2 w3 h23 hh.1, fun e => hy.1 v w2 w3 h23 (hh.2 e)⟩

/-- ONE WALK IN THE ORDER OF THE TEXT: the first n operations by their facts, then the others, in every later world in which the facts hold. -/
theorem wp_region_kt (S : FuncId → Array Value → Value → World → Prop) (n : Nat) {id : Nat} {Q' : Exit → Act → World → Prop} {a : Act} {w : World} {l : List Oper} (hm : P.follows .mixedOrders = true)
    (hB : Region.lexTailB .any l.toArray n = true) (hd : (l.take n).all (fun o => o.dst.isSome) = true)
    (h : lexK P l.toArray S w (endK (fun _ a' w' => wpList P l.toArray Q' (l.drop n) a' w') w) (l.take n) a (fun _ _ => True)) : (Code.region id l.toArray true).wp P Q' a w := by
  simp only [Region.lexTailB, Bool.and_eq_true, decide_eq_true_eq] at hB
  obtain ⟨⟨⟨⟨hsel, hn⟩, hs⟩, hc⟩, hlex⟩ := hB
  have hn' : n < l.length := by simpa using hn
  have htl : (l.take n).length = n := by simp; omega
  have hdl : (l.drop n).length = l.toArray.size - n := by simp
  have inv0 : HeadInv .any l.toArray n (Array.replicate l.toArray.size false) :=
    ⟨by simp, fun j oj _ hl => (by rw [getD_replicate_false] at hl; cases hl), fun t _ ht => getD_in (by simpa using ht) (getD_replicate_false _ _)⟩
  have hdst : ∀ (j : Nat) (o : Oper), j < n → l.toArray[j]? = Option.some o → ∃ d, o.dst = Option.some d := fun j o hj ho => by
    have hm : o ∈ l.take n := by
      rw [List.mem_take_iff_getElem]
      have ho' : l[j]? = Option.some o := by simpa using ho
      obtain ⟨h1, h2⟩ := List.getElem?_eq_some_iff.1 ho'
      exact ⟨j, by omega, h2⟩
    exact Option.isSome_iff_exists.1 (List.all_eq_true.1 hd o hm)
  have H := anyKL_lex (P := P) (S := S) (w0 := w) (md := .any) (g := l.toArray.size - n) (Q := endK (fun _ a' w' => wpList P l.toArray Q' (l.drop n) a' w') w) endK_anti hsel hdst hs hc hn (l.take n) 0 (Array.replicate l.toArray.size false) a (fun _ _ => True) (fun j hj => by
    have hj' : j < n := by rw [htl] at hj; exact hj
    simp [hj']) (by simpa using htl) inv0 (by rw [htl]; exact hlex) (fun _ _ _ _ _ => trivial) ⟨w, Ext.refl _, fun _ => trivial⟩ h
  refine wp_region_any hm ?_
  have := wpAny_of_anyKL (Q' := Q') (g := l.toArray.size - n) (w0 := w) (fun listed a' F w' he hf hL => by
    have := wpAny_of_seq (md := .any) (Q' := Q') (l.drop n) n listed a' w' (fun j => by simp [List.getElem?_drop]) (by rw [hdl]; exact hL.1) (hL.2 w' he hf)
    rwa [hdl] at this) _ _ _ _ { w with drawn := w.drawn + 1 } (Ext.drawn w) (fun _ _ _ _ _ => trivial) (fun _ => trivial) H
  rw [htl, show n + (l.toArray.size - n) = l.toArray.size by omega] at this
  exact this
end
end Go.Proofs.Ythohogbefpoclaa

/- Contract of the document's own comparison of two words: whorlref4.Words. -/
namespace Go.Proofs.Ythohogbefpoclaa
set_option linter.unusedVariables false
set_option linter.unusedSimpArgs false
open Go.RowKit

set_option maxHeartbeats 400000 in
theorem words_any (u v : Value) (x y : List Int) (w : World) (hu : Sl .u8 w u x) (hv : Sl .u8 w v y) (hx : x.length ≤ 1000000) (hy : y.length ≤ 1000000) :
    Calls Try.prog 12 #[u, v] w fun e w' => e = .returned (.int .i64 (cmpI x y)) ∧ ∃ m, w' = w.drewN m := by
  have HU := hide' hu
  have HV := hide' hv
  obtain ⟨a, c, rfl, _⟩ := hu
  obtain ⟨a', c', rfl, _⟩ := hv
  obtain ⟨n1, hn1⟩ : ∃ n, x.length = n := ⟨_, rfl⟩
  obtain ⟨n2, hn2⟩ : ∃ n, y.length = n := ⟨_, rfl⟩
  rw [hn1] at HU hx ⊢
  rw [hn2] at HV hy ⊢
  have HXL := hide' hn1
  have HYL := hide' hn2
  clear hn1 hn2
  go_enter Try.func12, Try.ntmps12
  go_wp2
  go_loopw [5] (fun vk wr => ∃ (k : Nat), k ≤ n1 ∧ k ≤ n2 ∧ vk = .int .i64 k ∧ Hid (cmpI x y = cmpI (x.drop k) (y.drop k)) ∧ ∃ m, wr = w.drewN m) (fun vk _ => n1 - (intOf vk).toNat)
  case atStart => exact ⟨0, Nat.zero_le _, Nat.zero_le _, rfl, (show _ = _ by simp), 0, rfl⟩
  case round =>
    obtain ⟨k, hk1, hk2, rfl, HK, m, rfl⟩ := hrel
    by_cases l1 : k < n1
    · by_cases l2 : k < n2
      · have hne1 : x ≠ [] := fun h => by have := HXL.out; rw [h] at this; simp at this; omega
        have hne2 : y ≠ [] := fun h => by have := HYL.out; rw [h] at this; simp at this; omega
        obtain ⟨_, b1, o1, e1, c1⟩ := HU.out.at hne1
        obtain ⟨_, b2, o2, e2, c2⟩ := HV.out.at hne2
        have c1' := c1 k l1
        have c2' := c2 k l2
        obtain ⟨p, HP⟩ : ∃ p, Hid (x.getD k 0 = p) := ⟨_, rfl⟩
        obtain ⟨q, HQ⟩ : ∃ q, Hid (y.getD k 0 = q) := ⟨_, rfl⟩
        rw [HP.out] at c1'
        rw [HQ.out] at c2'
        subst e1 e2
        clear c1 c2 hne1 hne2
        have l1' : (k : Int) < n1 := by omega
        have l2' : (k : Int) < n2 := by omega
        by_cases hpq : p = q
        · have HK' : Hid (cmpI x y = cmpI (x.drop (k + 1)) (y.drop (k + 1))) := by
            have h := cmpI_same (x := x) (y := y) (k := k) (by rw [HXL.out]; exact l1) (by rw [HYL.out]; exact l2) (by rw [HP.out, HQ.out, hpq])
            show _ = _
            rw [HK.out, h]
          subst hpq
          go_wp2_with fail
          go_quiet (fail)
          go_wp2
          go_roundw
          case rel => exact ⟨k + 1, by omega, by omega, by go_num, HK', _, rfl⟩
          case measure => simp [intOf]; omega
        · have hpq' : (p == q) = false := by simpa using hpq
          by_cases hlt : p < q
          · have HK' : Hid (cmpI x y = -1) := by
              show _ = _
              rw [HK.out, cmpI_lt (by rw [HXL.out]; exact l1) (by rw [HYL.out]; exact l2) (by rw [HP.out, HQ.out]; exact hlt)]
            clear hpq
            go_wp2_with fail
            go_quiet (fail)
            go_wp2_with fail
            go_quiet (fail)
            go_wp2
            go_ret
            rw [HK'.out]
            exact ⟨rfl, _, by rw [World.drewN_drewN, World.drewN_drewN]⟩
          · have HK' : Hid (cmpI x y = 1) := by
              show _ = _
              rw [HK.out, cmpI_gt (by rw [HXL.out]; exact l1) (by rw [HYL.out]; exact l2) (by rw [HP.out, HQ.out]; omega)]
            have hlt' : decide (p < q) = false := by simpa using hlt
            clear hpq hlt
            go_wp2_with fail
            go_quiet (fail)
            go_wp2_with fail
            go_quiet (fail)
            go_wp2
            go_ret
            rw [HK'.out]
            exact ⟨rfl, _, by rw [World.drewN_drewN, World.drewN_drewN]⟩
      · have l1' : (k : Int) < n1 := by omega
        have l2' : decide ((k : Int) < n2) = false := by simp; omega
        have e2 : k = n2 := by omega
        have HK' : Hid (cmpI x y = 1) := by
          show _ = _
          rw [HK.out, cmpI_long (by rw [HXL.out]; exact l1) (by rw [HYL.out]; omega)]
        have d1 : decide ((n1 : Int) < n2) = false := by simp; omega
        have d2 : (n2 : Int) < n1 := by omega
        go_wp2
        go_ret
        rw [HK'.out]
        exact ⟨rfl, _, rfl⟩
    · have l1' : decide ((k : Int) < n1) = false := by simp; omega
      by_cases l2 : k < n2
      · have HK' : Hid (cmpI x y = -1) := by
          show _ = _
          rw [HK.out, cmpI_short (by rw [HXL.out]; omega) (by rw [HYL.out]; exact l2)]
        have d1 : (n1 : Int) < n2 := by omega
        go_wp2
        go_ret
        rw [HK'.out]
        exact ⟨rfl, _, rfl⟩
      · have HK' : Hid (cmpI x y = 0) := by
          show _ = _
          rw [HK.out, cmpI_end (by rw [HXL.out]; omega) (by rw [HYL.out]; omega)]
        have d1 : decide ((n1 : Int) < n2) = false := by simp; omega
        have d2 : decide ((n2 : Int) < n1) = false := by simp; omega
        go_wp2
        go_ret
        rw [HK'.out]
        exact ⟨rfl, _, rfl⟩
end Go.Proofs.Ythohogbefpoclaa

/- Contract of the document's own Common: whorlref4.Common. -/
namespace Go.Proofs.Ythohogbefpoclaa
set_option linter.unusedVariables false
set_option linter.unusedSimpArgs false
open Go.RowKit

set_option maxHeartbeats 400000 in
theorem rcommon_any (v : Value) (zs : List Int) (i j : Int) (w : World) (hs : Sl .u8 w v zs) (hlen : zs.length ≤ 1000000) :
    Calls Try.prog 23 #[v, .int .i64 i, .int .i64 j] w fun e w' => e = .returned (.int .i64 (comL zs i j)) ∧ Ext w w' := by
  have HS := hide' hs
  obtain ⟨a, c, rfl, h2, h3, _⟩ := hs
  unfold maxLen at h3
  by_cases g1 : i < 0
  · rw [comL_out (by omega)]
    go_enter Try.func23, Try.ntmps23
    go_wp2
    go_ret
    exact ⟨rfl, Ext.refl _⟩
  have d1 : decide (i < 0) = false := by simpa using g1
  by_cases g2 : (zs.length : Int) < i
  · rw [comL_out (by omega)]
    go_enter Try.func23, Try.ntmps23
    go_wp2
    go_ret
    exact ⟨rfl, Ext.refl _⟩
  have d2 : decide ((zs.length : Int) < i) = false := by simpa using g2
  by_cases g3 : j < 0
  · rw [comL_out (by omega)]
    go_enter Try.func23, Try.ntmps23
    go_wp2
    go_ret
    exact ⟨rfl, Ext.refl _⟩
  have d3 : decide (j < 0) = false := by simpa using g3
  by_cases g4 : (zs.length : Int) < j
  · rw [comL_out (by omega)]
    go_enter Try.func23, Try.ntmps23
    go_wp2
    go_ret
    exact ⟨rfl, Ext.refl _⟩
  have d4 : decide ((zs.length : Int) < j) = false := by simpa using g4
  obtain ⟨i, rfl⟩ := Int.eq_ofNat_of_zero_le (show 0 ≤ i by omega)
  obtain ⟨j, rfl⟩ := Int.eq_ofNat_of_zero_le (show 0 ≤ j by omega)
  have g2' : i ≤ zs.length := by omega
  have g4' : j ≤ zs.length := by omega
  clear g1 g2 g3 g4
  rw [comL_in (by omega) (by omega)]
  obtain ⟨t, ht⟩ : ∃ t, t = max i j := ⟨_, rfl⟩
  have hmax : max (i : Int) (j : Int) = (t : Int) := by omega
  have HI : Hid (i ≤ t ∧ j ≤ t ∧ t ≤ zs.length) := by show _ ∧ _; omega
  obtain ⟨x, HX⟩ : ∃ x, Hid (zs.drop i = x) := ⟨_, rfl⟩
  obtain ⟨y, HY⟩ : ∃ y, Hid (zs.drop j = y) := ⟨_, rfl⟩
  rw [HX.out, HY.out]
  have HXL : Hid (x.length = zs.length - i) := by show _ = _; rw [← HX.out, List.length_drop]
  have HYL : Hid (y.length = zs.length - j) := by show _ = _; rw [← HY.out, List.length_drop]
  have HXA : Hid (∀ k, x.getD k 0 = zs.getD (i + k) 0) := fun k => by rw [← HX.out]; simp [List.getD]
  have HYA : Hid (∀ k, y.getD k 0 = zs.getD (j + k) 0) := fun k => by rw [← HY.out]; simp [List.getD]
  obtain ⟨n, hn⟩ : ∃ n, n = zs.length := ⟨_, rfl⟩
  rw [← hn] at HXL HYL HS HI hlen d2 d4 g2' g4' ⊢
  have HN := hide' hn
  clear hn h2 ht
  have tn : t ≤ n := HI.out.2.2
  go_enter Try.func23, Try.ntmps23
  go_wp2
  go_loopw [7] (fun vk wr => ∃ (k : Nat), t + k ≤ n ∧ vk = .int .i64 k ∧ Hid (comI x y = k + comI (x.drop k) (y.drop k)) ∧ Hid (Ext w wr)) (fun vk _ => n - (intOf vk).toNat)
  case atStart => exact ⟨0, by omega, rfl, (show _ = _ by simp), Ext.refl _⟩
  case round =>
    obtain ⟨k, hk, rfl, HK, HE⟩ := hrel
    have hne := later_some wr
    by_cases hlt : t + k < n
    · have hlt' : (t : Int) + k < n := by omega
      have hnn : zs ≠ [] := fun h => by have := HN.out; rw [h] at this; simp at this; omega
      obtain ⟨_, b, off, hab, hc⟩ := HS.out.at hnn
      subst hab
      have b1 : i + k < n := by have := HI.out; omega
      have b2 : j + k < n := by have := HI.out; omega
      have c1 := hc (i + k) b1
      have c2 := hc (j + k) b2
      rw [← HXA.out k] at c1
      rw [← HYA.out k] at c2
      obtain ⟨p, HP⟩ : ∃ p, Hid (x.getD k 0 = p) := ⟨_, rfl⟩
      obtain ⟨q, HQ⟩ : ∃ q, Hid (y.getD k 0 = q) := ⟨_, rfl⟩
      rw [HP.out] at c1
      rw [HQ.out] at c2
      have c1' := later_cell (HE.out.cellOf c1)
      have c2' := later_cell (HE.out.cellOf c2)
      clear hc hnn c1 c2
      have b1' : (i : Int) + k < n := by omega
      have b2' : (j : Int) + k < n := by omega
      by_cases hpq : p = q
      · have HK' : Hid (comI x y = (k + 1 : Nat) + comI (x.drop (k + 1)) (y.drop (k + 1))) := by
          have h := comI_same (x := x) (y := y) (k := k) (by rw [HXL.out]; omega) (by rw [HYL.out]; omega) (by rw [HP.out, HQ.out, hpq])
          show _ = _
          rw [HK.out, h]; omega
        subst hpq
        go_wp2_with fail
        refine wp_region_k (fun _ _ _ _ => True) (by kernel_rfl) (by kernel_rfl) (by kernel_rfl) ?_
        refine lexK_take 23 (by kernel_rfl) ?_
        simp only [List.take_succ_cons, List.take_zero, List.drop_succ_cons, List.drop_zero, List.take_nil, List.drop_nil]
        repeat (go_big_quiet_step (fail))
        refine wpQuiet_nil ?_
        refine lexK_nil ?_
        intro w2 he2 _
        have HE2 := hide' (HE.out.trans he2)
        clear he2 hne c1' c2'
        go_wp2
        go_roundw
        case rel => exact ⟨k + 1, by omega, by go_num, HK', HE2⟩
        case measure => simp [intOf]; omega
      · have hpq' : (p == q) = false := by simpa using hpq
        have HK' : Hid (comI x y = k) := by
          have h := comI_other (x := x) (y := y) (k := k) (by rw [HXL.out]; omega) (by rw [HYL.out]; omega) (by rw [HP.out, HQ.out]; exact hpq)
          show _ = _
          rw [HK.out, h]; omega
        clear hpq
        go_wp2_with fail
        refine wp_region_k (fun _ _ _ _ => True) (by kernel_rfl) (by kernel_rfl) (by kernel_rfl) ?_
        refine lexK_take 23 (by kernel_rfl) ?_
        simp only [List.take_succ_cons, List.take_zero, List.drop_succ_cons, List.drop_zero, List.take_nil, List.drop_nil]
        repeat (go_big_quiet_step (fail))
        refine wpQuiet_nil ?_
        refine lexK_nil ?_
        intro w2 he2 _
        have HE2 := hide' (HE.out.trans he2)
        clear he2 hne c1' c2'
        go_wp2
        go_ret
        rw [HK'.out]
        exact ⟨rfl, HE2.out⟩
    · have hlt' : decide ((t : Int) + k < n) = false := by simp; omega
      have HK' : Hid (comI x y = k) := by
        have h : comI (x.drop k) (y.drop k) = 0 := by
          have h1 := HXL.out
          have h2 := HYL.out
          have h3 := HI.out
          have h4 : (t : Int) = i ∨ (t : Int) = j := by omega
          rcases h4 with h4 | h4
          · exact comI_left (by omega)
          · exact comI_right (by omega)
        show _ = _
        rw [HK.out, h]; omega
      go_wp2_with fail
      refine wp_region_k (fun _ _ _ _ => True) (by kernel_rfl) (by kernel_rfl) (by kernel_rfl) ?_
      refine lexK_take 23 (by kernel_rfl) ?_
      simp only [List.take_succ_cons, List.take_zero, List.drop_succ_cons, List.drop_zero, List.take_nil, List.drop_nil]
      repeat (go_big_quiet_step (fail))
      refine wpQuiet_nil ?_
      refine lexK_nil ?_
      intro w2 he2 _
      have HE2 := hide' (HE.out.trans he2)
      clear he2 hne
      go_wp2
      go_ret
      rw [HK'.out]
      exact ⟨rfl, HE2.out⟩
end Go.Proofs.Ythohogbefpoclaa

/- Contract of the document's own LCP: whorlref17.LCP. -/
namespace Go.Proofs.Ythohogbefpoclaa
set_option linter.unusedVariables false
set_option linter.unusedSimpArgs false
open Go.RowKit

set_option maxHeartbeats 1000000 in
theorem rlcp_any (v u : Value) (s a : List Int) (w : World) (hv : Sl .u8 w v s) (hu : Sl .i64 w u a) (hs : s.length ≤ 1000000) (ha : a.length ≤ 1000000) :
    Calls Try.prog 42 #[v, u] w fun e w' => ∃ r, e = .returned (.tuple #[r, .bool (lcpOk s a)]) ∧ Own .i64 3 w.heap.size w' r (lcpL s a) ∧ Ext w w' := by
  have HV := hide' hv
  have HU := hide' hu
  obtain ⟨va, vc, rfl, _⟩ := hv
  obtain ⟨ua, uc, rfl, _⟩ := hu
  by_cases h1 : a.length = s.length
  · have C : Hid (∀ w', Ext w w' → Calls Try.prog 10 #[.slice ua a.length uc] w' fun e w'' => e = .returned (.bool (ordB a)) ∧ Ext w' w'') := fun w' he => ris_any _ a w' (HU.out.ext he) ha
    cases h2 : ordB a
    · rw [lcpL_no (lcpOk_no h2), lcpOk_no h2]
      rw [h2] at C
      clear h2 HU
      obtain ⟨n, HN⟩ : ∃ n, Hid (s.length = n) := ⟨_, rfl⟩
      rw [h1] at C ⊢
      rw [HN.out] at C HV ⊢
      clear h1
      go_enter Try.func42, Try.ntmps42
      go_wp2_with fail
      refine (C.out _ (Ext.refl _)).mono ?_
      rintro e w1 ⟨rfl, he1⟩
      have X1 := hide' he1
      clear he1
      go_wp2
      go_ret2
      exact ⟨_, rfl, Own.nil _ _ _ _, X1.out⟩
    · rw [lcpL_yes (lcpOk_yes h1 h2), lcpOk_yes h1 h2]
      rw [h2] at C
      obtain ⟨hA, hP⟩ := ordB_cast h2
      obtain ⟨A, HA⟩ : ∃ A, Hid (toN a = A) := ⟨_, rfl⟩
      rw [HA.out] at hA hP ⊢
      rw [← hA] at HU
      obtain ⟨n, HN⟩ : ∃ n, Hid (s.length = n) := ⟨_, rfl⟩
      have hAL : A.length = n := by rw [← HN.out, ← h1, ← hA, natL_len]
      have HAL := hide' hAL
      rw [h1] at hP
      rw [HN.out] at hs hP HV
      rw [h1, HN.out] at C ⊢
      have HP := hide' (show A.Perm (List.range A.length) by rw [hAL]; exact hP)
      have HU2 : Hid (Sl .i64 w (.slice ua n uc) (natL A)) := by have := HU.out; rw [natL_len, hAL] at this; exact this
      clear hA hP hAL h2 HU h1 HA
      go_enter Try.func42, Try.ntmps42
      go_wp2_with fail
      refine (C.out _ (Ext.refl _)).mono ?_
      rintro e w1 ⟨rfl, he1⟩
      have X1 := hide' he1
      have hz1 := he1.size
      clear he1 C
      obtain ⟨w2, hmk, ho, he⟩ := make_nats w1 n hs
      have HO := hide' (ho.low hz1)
      have HE := hide' (X1.out.trans he)
      clear ho he
      go_wp2
      clear hmk
      obtain ⟨g, HG⟩ : ∃ g, Hid (w1.heap.size = g) := ⟨_, rfl⟩
      rw [HG.out] at HO ⊢
      go_loopw [7] (fun vi wr => ∃ (i : Nat) (R : List Nat), 1 ≤ i ∧ i ≤ n + 1 ∧ vi = .int .i64 i ∧ Hid (R.length = n) ∧ Hid (LcpTo s A R i) ∧
        Hid (Own .i64 3 w.heap.size wr (.slice (some ⟨g, 0, none⟩) n n) (natL R)) ∧ Hid (Ext w wr) ∧ w.heap.size ≤ g) (fun vi _ => n + 1 - (intOf vi).toNat)
      case atStart =>
        refine ⟨1, List.replicate n 0, by omega, by omega, rfl, List.length_replicate, ?_, HO, HE, by rw [← HG.out]; exact hz1⟩
        have := LcpTo.start s A
        rw [HAL.out] at this
        exact this
      case round =>
        clear HO HE hz1
        obtain ⟨i, R, hi1, hi, rfl, HL, HK, HO, HE, hg⟩ := hrel
        by_cases hlt : i < n
        · have hlt' : (i : Int) < n := by omega
          obtain ⟨J, HJ⟩ : ∃ J, Hid (i = J + 1) := ⟨i - 1, by show _ = _; omega⟩
          have hJn : J < n := by have := HJ.out; omega
          have hJn' : (J : Int) < n := by omega
          have hJ : (i : Int) - 1 = (J : Int) := by have := HJ.out; omega
          have wJ : IntKind.i64.wrap (J : Int) = (J : Int) := by rw [IntKind.wrap_i64]; omega
          have HJ2 : Hid (i - 1 = J) := by show _ = _; have := HJ.out; omega
          obtain ⟨_, _, _, hco⟩ := HU2.out.nat
          obtain ⟨og, ooff, hoa, ocell⟩ := hco (by omega)
          subst hoa
          have c1 := later_cell (HE.out.cellOf (ocell J hJn))
          have c2 := later_cell (HE.out.cellOf (ocell i hlt))
          clear hco ocell
          have hx := perm_lt HP.out (p := J) (by rw [HAL.out]; exact hJn)
          have hy := perm_lt HP.out (p := i) (by rw [HAL.out]; exact hlt)
          rw [HAL.out] at hx hy
          have HK2 : Hid (∀ c, c = comN s (A.getD J 0) (A.getD i 0) → LcpTo s A (R.set i c) (i + 1)) := fun c hc => HK.out.next (by omega) (by rw [HAL.out]; exact hlt) (by rw [HJ2.out]; exact hc)
          obtain ⟨x, HX⟩ : ∃ x, Hid (A.getD J 0 = x) := ⟨_, rfl⟩
          obtain ⟨y, HY⟩ : ∃ y, Hid (A.getD i 0 = y) := ⟨_, rfl⟩
          rw [HX.out] at c1 hx HK2
          rw [HY.out] at c2 hy HK2
          obtain ⟨c, HC⟩ : ∃ c, Hid (comN s x y = c) := ⟨_, rfl⟩
          have CC : Hid (∀ w', Ext wr w' → Calls Try.prog 23 #[.slice va n vc, .int .i64 x, .int .i64 y] w' fun e w'' => e = .returned (.int .i64 (c : Int)) ∧ Ext w' w'') := fun w' he => by
            have := rcommon_any _ s x y w' (HV.out.ext (HE.out.trans he)) (by rw [HN.out]; exact hs)
            rw [comL_nat (by rw [HN.out]; omega) (by rw [HN.out]; omega), HC.out] at this
            exact this
          go_wp2_with fail
          refine wp_region_kt (fun _ _ v _ => v = .int .i64 (c : Int)) 14 (by kernel_rfl) (by kernel_rfl) (by kernel_rfl) ?_
          have hne := later_some wr
          simp only [List.take_succ_cons, List.take_zero, List.drop_succ_cons, List.drop_zero]
          refine lexK_take 12 (by kernel_rfl) ?_
          simp only [List.take_succ_cons, List.take_zero, List.drop_succ_cons, List.drop_zero]
          repeat (go_big_quiet_step (fail))
          refine wpQuiet_nil ?_
          refine lexK_call1 23 #[.slice va n vc, .int .i64 x, .int .i64 y] (.int .i64 (c : Int)) (fun _ _ => Iff.rfl) rfl (fun w' => ?_) (fun w' he _ => CC.out w' he) ?_
          · go_simp
          simp only [Act.put, List.setIfInBounds_toArray, List.set_cons_succ, List.set_cons_zero]
          refine lexK_take 1 (by kernel_rfl) ?_
          simp only [List.take_succ_cons, List.take_zero, List.drop_succ_cons, List.drop_zero]
          repeat (go_big_quiet_step (fail))
          refine wpQuiet_nil ?_
          refine lexK_nil ?_
          intro w3 he3 _
          have HO3 := hide' (HO.out.ext he3)
          have HE3 := hide' (HE.out.trans he3)
          have hfz := HO3.out.frozen (by rw [natL_len]; exact HL.out) i
          have hci := HO3.out.intCell HL.out i hlt
          have HO4 := hide' (HO3.out.storeN HL.out i c)
          have HK3 := hide' (HK2.out c HC.out.symm)
          clear hne c1 c2 he3 HO HE HK HK2 CC
          go_wp2
          go_roundw
          case rel => exact ⟨i + 1, R.set i c, by omega, by omega, by go_num, (show _ = _ by rw [List.length_set]; exact HL.out), HK3, HO4, Ext.but HE3.out hg (but_set _ _ _ _), hg⟩
          case measure => simp [intOf]; omega
        · have hlt' : decide ((i : Int) < n) = false := by simp; omega
          have HR := hide' (HK.out.done (by rw [HAL.out]; omega))
          go_wp2
          go_ret2
          refine ⟨_, rfl, ?_, HE.out⟩
          rw [← HR.out]
          exact HO.out
  · have d1 : ((a.length : Int) != (s.length : Int)) = true := by simp; omega
    rw [lcpL_no (lcpOk_long h1), lcpOk_long h1]
    clear h1
    go_enter Try.func42, Try.ntmps42
    go_wp2_with fail
    go_ret2
    exact ⟨_, rfl, Own.nil _ _ _ _, Ext.refl _⟩
end Go.Proofs.Ythohogbefpoclaa

/- Contract of whorlref11.Words: two rows of numbers, compared. -/
namespace Go.Proofs.Ythohogbefpoclaa
set_option linter.unusedVariables false
set_option linter.unusedSimpArgs false
open Go.RowKit

set_option maxHeartbeats 400000 in
theorem kinWords_any (u v : Value) (x y : List Int) (w : World) (hu : Sl .i64 w u x) (hv : Sl .i64 w v y) (hx : x.length ≤ 1000000) (hy : y.length ≤ 1000000) :
    Calls Try.prog 85 #[u, v] w fun e w' => e = .returned (.int .i64 (cmpI x y)) ∧ ∃ m, w' = w.drewN m := by
  have HU := hide' hu
  have HV := hide' hv
  obtain ⟨a, c, rfl, _⟩ := hu
  obtain ⟨a', c', rfl, _⟩ := hv
  obtain ⟨n, HXL⟩ : ∃ n, Hid (x.length = n) := ⟨_, rfl⟩
  obtain ⟨n', HYL⟩ : ∃ n, Hid (y.length = n) := ⟨_, rfl⟩
  rw [HXL.out] at HU hx ⊢
  rw [HYL.out] at HV hy ⊢
  obtain ⟨C, HC⟩ : ∃ C, Hid (cmpI x y = C) := ⟨_, rfl⟩
  rw [HC.out]
  go_enter Try.func85, Try.ntmps85
  go_wp2
  go_loopw [5] (fun vk wr => ∃ (k : Nat), k ≤ n ∧ k ≤ n' ∧ vk = .int .i64 k ∧ Hid (cmpI (x.drop k) (y.drop k) = C) ∧ ∃ m, wr = w.drewN m) (fun vk _ => n - (intOf vk).toNat)
  case atStart => exact ⟨0, Nat.zero_le _, Nat.zero_le _, rfl, HC.out, 0, rfl⟩
  case round =>
    obtain ⟨k, hk, hk', rfl, HK, m, rfl⟩ := hrel
    by_cases l1 : k < n
    · have l1' : (k : Int) < n := by omega
      by_cases l2 : k < n'
      · have l2' : (k : Int) < n' := by omega
        have hne1 : x ≠ [] := fun h => by have := HXL.out; rw [h] at this; simp at this; omega
        have hne2 : y ≠ [] := fun h => by have := HYL.out; rw [h] at this; simp at this; omega
        obtain ⟨_, b1, o1, e1, c1⟩ := HU.out.at hne1
        obtain ⟨_, b2, o2, e2, c2⟩ := HV.out.at hne2
        have c1' := c1 k l1
        have c2' := c2 k l2
        obtain ⟨p, HP⟩ : ∃ p, Hid (x.getD k 0 = p) := ⟨_, rfl⟩
        obtain ⟨q, HQ⟩ : ∃ q, Hid (y.getD k 0 = q) := ⟨_, rfl⟩
        rw [HP.out] at c1'
        rw [HQ.out] at c2'
        subst e1 e2
        clear c1 c2 hne1 hne2
        rcases Int.lt_trichotomy p q with h | h | h
        · have HD : Hid (C = -1) := by
            show _ = _
            rw [← HK.out]
            exact cmpI_lt (by rw [HXL.out]; exact l1) (by rw [HYL.out]; exact l2) (by rw [HP.out, HQ.out]; exact h)
          go_wp2_with fail
          go_quiet (fail)
          go_wp2
          go_ret
          rw [HD.out]
          exact ⟨rfl, _, by first | rfl | exact World.drewN_drewN _ _ _ | (rw [World.drewN_drewN, World.drewN_drewN])⟩
        · have HD : Hid (cmpI (x.drop (k + 1)) (y.drop (k + 1)) = C) := by
            show _ = _
            rw [← HK.out]
            exact (cmpI_same (by rw [HXL.out]; exact l1) (by rw [HYL.out]; exact l2) (by rw [HP.out, HQ.out]; exact h)).symm
          subst h
          have d1 : decide (p < p) = false := by simp
          go_wp2_with fail
          go_quiet (fail)
          go_wp2_with fail
          go_quiet (fail)
          go_wp2
          go_roundw
          case rel => exact ⟨k + 1, by omega, by omega, by go_num, HD, _, by first | rfl | exact World.drewN_drewN _ _ _ | (rw [World.drewN_drewN, World.drewN_drewN])⟩
          case measure => simp [intOf]; omega
        · have HD : Hid (C = 1) := by
            show _ = _
            rw [← HK.out]
            exact cmpI_gt (by rw [HXL.out]; exact l1) (by rw [HYL.out]; exact l2) (by rw [HP.out, HQ.out]; exact h)
          have d1 : decide (p < q) = false := by simp; omega
          go_wp2_with fail
          go_quiet (fail)
          go_wp2_with fail
          go_quiet (fail)
          go_wp2
          go_ret
          rw [HD.out]
          exact ⟨rfl, _, by first | rfl | exact World.drewN_drewN _ _ _ | (rw [World.drewN_drewN, World.drewN_drewN])⟩
      · have l2' : decide ((k : Int) < n') = false := by simp; omega
        have l2n : decide (k < n') = false := by simp; omega
        have e2 : k = n' := by omega
        have HD : Hid (C = 1) := by
          show _ = _
          rw [← HK.out]
          exact cmpI_long (by rw [HXL.out]; exact l1) (by rw [HYL.out]; exact e2)
        have d3 : decide ((n : Int) < n') = false := by simp; omega
        have d3n : decide (n < n') = false := by simp; omega
        have d4 : (n' : Int) < n := by omega
        clear e2 l2
        go_wp2
        go_ret
        rw [HD.out]
        exact ⟨rfl, _, rfl⟩
    · have l1' : decide ((k : Int) < n) = false := by simp; omega
      have l1n : decide (k < n) = false := by simp; omega
      have e1 : k = n := by omega
      by_cases l2 : k < n'
      · have HD : Hid (C = -1) := by
          show _ = _
          rw [← HK.out]
          exact cmpI_short (by rw [HXL.out]; exact e1) (by rw [HYL.out]; exact l2)
        have d3 : (n : Int) < n' := by omega
        clear e1 l1
        go_wp2
        go_ret
        rw [HD.out]
        exact ⟨rfl, _, rfl⟩
      · have e2 : k = n' := by omega
        have HD : Hid (C = 0) := by
          show _ = _
          rw [← HK.out]
          exact cmpI_end (by rw [HXL.out]; exact e1) (by rw [HYL.out]; exact e2)
        have d3 : decide ((n : Int) < n') = false := by simp; omega
        have d3n : decide (n < n') = false := by simp; omega
        have d4 : decide ((n' : Int) < n) = false := by simp; omega
        have d4n : decide (n' < n) = false := by simp; omega
        clear e1 e2 l1 l2
        go_wp2
        go_ret
        rw [HD.out]
        exact ⟨rfl, _, rfl⟩
end Go.Proofs.Ythohogbefpoclaa

/- As the text Krip, over whatever relation of worlds the operations keep: one walk in the order of the text serves every order. Over any program; no conditions. -/
namespace Go.Proofs.Ythohogbefpoclaa
set_option linter.unusedVariables false
set_option linter.unusedSimpArgs false
open Go.RowKit

/-- A relation of worlds that what is known is stable under. -/
structure KRel where
  r : World → World → Prop
  refl : ∀ w, r w w
  trans : ∀ {a b c : World}, r a b → r b c → r a c
  drawn : ∀ w : World, r w { w with drawn := w.drawn + 1 }

namespace KR
def UpW (E : KRel) (G : World → Prop) : Prop := ∀ w w', E.r w w' → G w → G w'

section
variable {E : KRel} {P : Program} {ops : Array Oper} {md : Region.Mode} {S : FuncId → Array Value → Value → World → Prop} {w0 : World} {Q : Act → Facts → Prop}

def kUpon (E : KRel) (P : Program) (S : FuncId → Array Value → Value → World → Prop) (w : World) (R : Value → World → Prop) : Result Next → Prop
  | .ok (.value u) w' => E.r w w' ∧ R u w'
  | .ok .skip w' => E.r w w' ∧ R undef w'
  | .ok (.enter f args) w' => E.r w w' ∧ Calls P f args w' (fun e w'' => ∃ v, e = .returned v ∧ E.r w' w'' ∧ S f args v w'') ∧ (∀ v w'', S f args v w'' → R v w'')
  | _ => False

/-- From w0 on, whatever else has come: the operation yields a value of which R holds. -/
def KY (E : KRel) (P : Program) (ops : Array Oper) (S : FuncId → Array Value → Value → World → Prop) (w0 : World) (o : Oper) (a : Act) (F : Facts) (R : Value → World → Prop) : Prop :=
  (∀ v, UpW E (R v)) ∧
  ((Region.wanted o (yielded ops a.tmps) = true ∧ ∀ w, E.r w0 w → (∀ t ∈ o.looksAt ops, F t w) → kUpon E P S w R ((execOp a.eval o).run P w)) ∨
   (Region.wanted o (yielded ops a.tmps) = false ∧ R = fun v _ => v = undef))

def kStep (E : KRel) (P : Program) (ops : Array Oper) (S : FuncId → Array Value → Value → World → Prop) (w0 : World) (o : Oper) (a : Act) (F : Facts) (K : Act → Facts → Prop) : Prop :=
  ∃ R, KY E P ops S w0 o a F R ∧ ∀ v, (∃ w, E.r w0 w ∧ (∀ t, F t w) ∧ R v w) → K (a.put o.dst v) (F.add o.dst (R v))

def lexK (E : KRel) (P : Program) (ops : Array Oper) (S : FuncId → Array Value → Value → World → Prop) (w0 : World) (Q : Act → Facts → Prop) : List Oper → Act → Facts → Prop
  | [], a, F => Q a F
  | o :: rest, a, F => kStep E P ops S w0 o a F (lexK E P ops S w0 Q rest)

def kOp (E : KRel) (P : Program) (ops : Array Oper) (S : FuncId → Array Value → Value → World → Prop) (w0 : World) (i : Nat) (K : Act → Facts → Prop) (a : Act) (F : Facts) : Prop :=
  match ops[i]? with
  | none => K a F
  | some o => kStep E P ops S w0 o a F K

def anyK (E : KRel) (P : Program) (md : Region.Mode) (ops : Array Oper) (S : FuncId → Array Value → Value → World → Prop) (w0 : World) (Q : Act → Facts → Prop) : Nat → Array Bool → Act → Facts → Prop
  | 0, listed, a, F => Region.ready md ops listed = [] ∧ Q a F
  | fuel + 1, listed, a, F =>
    (Region.ready md ops listed = [] → Q a F) ∧
    ∀ i ∈ Region.ready md ops listed, kOp E P ops S w0 i (anyK E P md ops S w0 Q fuel (listed.setIfInBounds i true)) a F

theorem KY.anti {o : Oper} {a : Act} {F F' : Facts} (h : ∀ t w, F' t w → F t w) {R : Value → World → Prop} (hy : KY E P ops S w0 o a F R) : KY E P ops S w0 o a F' R := by
  refine ⟨hy.1, ?_⟩
  rcases hy.2 with ⟨hw, hk⟩ | hn
  · exact .inl ⟨hw, fun w he hf => hk w he fun t ht => h t w (hf t ht)⟩
  · exact .inr hn

theorem kStep_anti {o : Oper} {a : Act} {F F' : Facts} {K K' : Act → Facts → Prop} (hK : ∀ a F F', (∀ t w, F' t w → F t w) → K a F → K' a F') (h : ∀ t w, F' t w → F t w)
    (hh : kStep E P ops S w0 o a F K) : kStep E P ops S w0 o a F' K' := by
  obtain ⟨R, hy, hn⟩ := hh
  exact ⟨R, hy.anti h, fun v ⟨w, he, hf, hr⟩ => hK _ _ _ (Facts.add_anti h (fun _ x => x) _) (hn v ⟨w, he, fun t => h t w (hf t), hr⟩)⟩

theorem kOp_anti {i : Nat} {a : Act} {F F' : Facts} {K K' : Act → Facts → Prop} (hK : ∀ a F F', (∀ t w, F' t w → F t w) → K a F → K' a F') (h : ∀ t w, F' t w → F t w)
    (hh : kOp E P ops S w0 i K a F) : kOp E P ops S w0 i K' a F' := by
  unfold kOp at *
  cases ho : ops[i]? with
  | none => simp only [ho] at hh ⊢; exact hK _ _ _ h hh
  | some o => simp only [ho] at hh ⊢; exact kStep_anti hK h hh

theorem anyK_anti (hQ : ∀ a F F', (∀ t w, F' t w → F t w) → Q a F → Q a F') : ∀ (fuel : Nat) (listed : Array Bool) (a : Act) (F F' : Facts), (∀ t w, F' t w → F t w) →
    anyK E P md ops S w0 Q fuel listed a F → anyK E P md ops S w0 Q fuel listed a F'
  | 0, _, _, _, _, h, hh => ⟨hh.1, hQ _ _ _ h hh.2⟩
  | fuel + 1, _, _, _, _, h, hh => ⟨fun e => hQ _ _ _ h (hh.1 e), fun i hi => kOp_anti (fun a F F' h => anyK_anti hQ fuel _ a F F' h) h (hh.2 i hi)⟩

theorem wpAny_of_anyK {Q' : Exit → Act → World → Prop} (hQ : ∀ a F w, E.r w0 w → (∀ t, F t w) → Q a F → Q' .normal a w) : ∀ (fuel : Nat) (listed : Array Bool) (a : Act) (F : Facts) (w : World),
    E.r w0 w → (∀ t, UpW E (F t)) → (∀ t, F t w) → anyK E P md ops S w0 Q fuel listed a F → wpAny P md ops Q' fuel listed a w
  | 0, _, _, _, _, he, _, hf, h => ⟨h.1, hQ _ _ _ he hf h.2⟩
  | fuel + 1, listed, a, F, w, he, hup, hf, h => by
    refine ⟨fun e => hQ _ _ _ he hf (h.1 e), fun i hi => ?_⟩
    have h1 := h.2 i hi
    unfold kOp at h1
    unfold wpOp
    cases ho : ops[i]? with
    | none => simp only [ho] at h1 ⊢; exact wpAny_of_anyK hQ fuel _ _ _ _ he hup hf h1
    | some o =>
      simp only [ho] at h1 ⊢
      obtain ⟨R, ⟨hR, hy⟩, hn⟩ := h1
      have go : ∀ v w', E.r w w' → R v w' → wpAny P md ops Q' fuel (listed.setIfInBounds i true) (a.put o.dst v) w' := fun v w' hx hr =>
        wpAny_of_anyK hQ fuel _ _ _ _ (E.trans he hx) (fun t w1 w2 h12 hh => ⟨hup t w1 w2 h12 hh.1, fun e => hR v w1 w2 h12 (hh.2 e)⟩) (fun t => ⟨hup t w w' hx (hf t), fun _ => hr⟩)
          (hn v ⟨w', E.trans he hx, fun t => hup t w w' hx (hf t), hr⟩)
      rcases hy with ⟨hw, hk⟩ | ⟨hw, rfl⟩
      · rw [if_pos hw]
        refine .inl ?_
        have h2 := hk w he fun t _ => hf t
        unfold Oper.wp
        generalize (execOp a.eval o).run P w = r at *
        cases r with
        | ok n w' =>
          cases n <;> simp only [kUpon] at h2 <;> simp only [Oper.upon]
          case value u => exact go _ _ h2.1 h2.2
          case skip => exact go _ _ h2.1 h2.2
          case enter f args =>
            obtain ⟨h3, h4, h5⟩ := h2
            exact h4.mono fun e w'' ⟨v, hv, h6, h7⟩ => by subst hv; exact go _ _ (E.trans h3 h6) (h5 _ _ h7)
        | halt x w' => simp only [kUpon] at h2
      · rw [if_neg (by rw [hw]; exact Bool.false_ne_true)]
        exact go _ _ (E.refl _) rfl

theorem kUpon_all {ι : Type} (i0 : ι) {w : World} {R : ι → Value → World → Prop} {r : Result Next} (h : ∀ i, kUpon E P S w (R i) r) : kUpon E P S w (fun v w' => ∀ i, R i v w') r := by
  cases r with
  | halt x w' => exact (h i0).elim
  | ok n w' =>
    cases n with
    | value u => exact ⟨(h i0).1, fun i => (h i).2⟩
    | skip => exact ⟨(h i0).1, fun i => (h i).2⟩
    | enter f args => exact ⟨(h i0).1, (h i0).2.1, fun v w'' hs i => (h i).2.2 v w'' hs⟩
    | _ => exact (h i0).elim

theorem KY.of_same {o : Oper} {a a' : Act} {F F' : Facts} {R : Value → World → Prop} (hy : KY E P ops S w0 o a F R) (hF : ∀ w, ∀ t ∈ o.looksAt ops, F' t w → F t w) (he : execOp a'.eval o = execOp a.eval o)
    (hw : Region.wanted o (yielded ops a'.tmps) = Region.wanted o (yielded ops a.tmps)) : KY E P ops S w0 o a' F' R := by
  refine ⟨hy.1, ?_⟩
  rw [he, hw]
  rcases hy.2 with ⟨h1, h2⟩ | h1
  · exact .inl ⟨h1, fun w hx hf => h2 w hx fun t ht => hF w t ht (hf t ht)⟩
  · exact .inr h1

/-- In a world where all facts hold the operation yields some value. -/
theorem KY.some {o : Oper} {a : Act} {F : Facts} {R : Value → World → Prop} (hy : KY E P ops S w0 o a F R) (hup : ∀ t, UpW E (F t)) {w : World} (he : E.r w0 w) (hf : ∀ t, F t w) : ∃ v w', E.r w0 w' ∧ (∀ t, F t w') ∧ R v w' := by
  rcases hy.2 with ⟨_, h2⟩ | ⟨_, rfl⟩
  · have h3 := h2 w he fun t _ => hf t
    generalize (execOp a.eval o).run P w = r at *
    cases r with
    | halt x w' => exact h3.elim
    | ok n w' =>
      cases n with
      | value u => exact ⟨u, w', E.trans he h3.1, fun t => hup t _ _ h3.1 (hf t), h3.2⟩
      | skip => exact ⟨undef, w', E.trans he h3.1, fun t => hup t _ _ h3.1 (hf t), h3.2⟩
      | enter f args =>
        obtain ⟨h4, h5, h6⟩ := h3
        obtain ⟨e, w'', _, ⟨v, _, h7, h8⟩, _⟩ := h5 []
        exact ⟨v, w'', E.trans he (E.trans h4 h7), fun t => hup t _ _ (E.trans h4 h7) (hf t), h6 _ _ h8⟩
      | _ => exact h3.elim
  · exact ⟨undef, w, he, hf, rfl⟩

theorem anyK_first (hQ : ∀ a F F', (∀ t w, F' t w → F t w) → Q a F → Q a F') {i : Nat} {oi : Oper} (hi : ops[i]? = some oi) (hsel : ∀ (j : Nat) (o : Oper) cs b, ops[j]? = some o → o.op ≠ .select cs b)
    (hdst : ∀ (j : Nat) (o : Oper), ops[j]? = some o → ∃ d, o.dst = Option.some d) :
    ∀ (fuel : Nat) (listed : Array Bool) (a : Act) (F : Facts) (R : Value → World → Prop),
      (∀ j oj, ops[j]? = some oj → j ≠ i → listed.getD j true = false → (∀ e ∈ oj.after, Region.binds md e = true → e.on ≠ i) → oi.apart ops oj = true) →
      i ∈ Region.ready md ops listed → KY E P ops S w0 oi a F R → (∀ t, UpW E (F t)) → (∃ w, E.r w0 w ∧ ∀ t, F t w) →
      (∀ v, (∃ w, E.r w0 w ∧ (∀ t, F t w) ∧ R v w) → anyK E P md ops S w0 Q fuel (listed.setIfInBounds i true) (a.put oi.dst v) (F.add oi.dst (R v))) →
      anyK E P md ops S w0 Q (fuel + 1) listed a F := by
  intro fuel
  induction fuel with
  | zero =>
    intro listed a F R _ hr hy hup ⟨w, hw, hf⟩ H
    refine ⟨fun h => (by rw [h] at hr; cases hr), fun j hj => ?_⟩
    by_cases hji : j = i
    · subst hji; unfold kOp; simp only [hi]; exact ⟨R, hy, H⟩
    · obtain ⟨v, w', h1, h2, h3⟩ := hy.some hup hw hf
      have := ready_mono hj hji
      rw [(H v ⟨w', h1, h2, h3⟩).1] at this
      cases this
  | succ fuel ih =>
    intro listed a F R hfree hr hy hup ⟨w, hw, hf⟩ H
    refine ⟨fun h => (by rw [h] at hr; cases hr), fun j hj => ?_⟩
    by_cases hji : j = i
    · subst hji; unfold kOp; simp only [hi]; exact ⟨R, hy, H⟩
    · obtain ⟨hjun, oj, hoj, hall⟩ := mem_ready.1 hj
      have hnot : ∀ e ∈ oj.after, Region.binds md e = true → e.on ≠ i := fun e he hb heq => by
        have h1 := hall e he hb
        have h0 := (mem_ready.1 hr).1
        rw [heq] at h1
        rcases Nat.lt_or_ge i listed.size with h' | h'
        · simp [h'] at h0 h1; rw [h0] at h1; cases h1
        · simp [Array.getElem?_eq_none h'] at h1
      have hap := hfree j oj hoj hji hjun hnot
      obtain ⟨p1, p2, p3⟩ := Oper.apart_spec hap
      have hsi : ∀ cs b, oi.op ≠ .select cs b := fun cs b => hsel i oi cs b hi
      have hsj : ∀ cs b, oj.op ≠ .select cs b := fun cs b => hsel j oj cs b hoj
      -- what each value of 'oi' says of 'oj'
      have H1 : ∀ v : { v // ∃ w, E.r w0 w ∧ (∀ t, F t w) ∧ R v w }, kStep E P ops S w0 oj (a.put oi.dst v.1) (F.add oi.dst (R v.1)) (anyK E P md ops S w0 Q fuel ((listed.setIfInBounds i true).setIfInBounds j true)) := fun v => by
        have h1 := (H v.1 v.2).2 j (ready_mono hj hji)
        unfold kOp at h1
        simpa only [hoj] using h1
      obtain ⟨v0, w', e1, e2, e3⟩ := hy.some hup hw hf
      let i0 : { v // ∃ w, E.r w0 w ∧ (∀ t, F t w) ∧ R v w } := ⟨v0, w', e1, e2, e3⟩
      let Rj : { v // ∃ w, E.r w0 w ∧ (∀ t, F t w) ∧ R v w } → Value → World → Prop := fun v => Classical.choose (H1 v)
      have HRj : ∀ v, KY E P ops S w0 oj (a.put oi.dst v.1) (F.add oi.dst (R v.1)) (Rj v) ∧ ∀ u, (∃ w, E.r w0 w ∧ (∀ t, (F.add oi.dst (R v.1)) t w) ∧ Rj v u w) →
          anyK E P md ops S w0 Q fuel ((listed.setIfInBounds i true).setIfInBounds j true) ((a.put oi.dst v.1).put oj.dst u) ((F.add oi.dst (R v.1)).add oj.dst (Rj v u)) := fun v => Classical.choose_spec (H1 v)
      have hyj : ∀ v, KY E P ops S w0 oj a F (Rj v) := fun v => (HRj v).1.of_same (fun w t ht hft => ⟨hft, fun e => absurd ht (p1 t e)⟩) (execOp_put oj hsj a oi.dst v.1 p1).symm (wanted_put oj a oi.dst v.1 p1).symm
      unfold kOp
      simp only [hoj]
      refine ⟨fun u w => ∀ v, Rj v u w, ⟨fun u w1 w2 h12 hh v => (hyj v).1 u w1 w2 h12 (hh v), ?_⟩, fun u hu => ?_⟩
      · by_cases hwant : Region.wanted oj (yielded ops a.tmps) = true
        · refine .inl ⟨hwant, fun w1 hx hf1 => kUpon_all i0 fun v => ?_⟩
          rcases (hyj v).2 with ⟨_, h2⟩ | ⟨h2, _⟩
          · exact h2 w1 hx hf1
          · rw [hwant] at h2; cases h2
        · have hwf : Region.wanted oj (yielded ops a.tmps) = false := by simpa using hwant
          refine .inr ⟨hwf, ?_⟩
          funext u w1
          have : ∀ v, Rj v = fun v _ => v = undef := fun v => by
            rcases (hyj v).2 with ⟨h2, _⟩ | ⟨_, h2⟩
            · rw [hwf] at h2; cases h2
            · exact h2
          simp only [this, eq_iff_iff]
          exact ⟨fun h => h i0, fun h _ => h⟩
      · obtain ⟨w1, f1, f2, f3⟩ := hu
        have hfree' : ∀ k ok, ops[k]? = some ok → k ≠ i → (listed.setIfInBounds j true).getD k true = false →
            (∀ e ∈ ok.after, Region.binds md e = true → e.on ≠ i) → oi.apart ops ok = true := fun k ok hk hki hun hno => by
          refine hfree k ok hk hki ?_ hno
          by_cases hjk : j = k
          · subst hjk; exact hjun
          · rw [getD_set_ne true hjk] at hun; exact hun
        refine ih (listed.setIfInBounds j true) (a.put oj.dst u) (F.add oj.dst fun w => ∀ v, Rj v u w) R hfree' (ready_mono hr (Ne.symm hji)) ?_ ?_ ⟨w1, f1, fun t => ⟨f2 t, fun _ => f3⟩⟩ ?_
        · exact hy.of_same (fun w t ht hft => hft.1) (execOp_put oi hsi a oj.dst u p3) (wanted_put oi a oj.dst u p3)
        · exact fun t w2 w3 h23 hh => ⟨hup t w2 w3 h23 hh.1, fun e v => (hyj v).1 u w2 w3 h23 (hh.2 e v)⟩
        · intro v ⟨w2, g1, g2, g3⟩
          have hv : ∃ w, E.r w0 w ∧ (∀ t, F t w) ∧ R v w := ⟨w2, g1, fun t => (g2 t).1, g3⟩
          obtain ⟨d, hd⟩ := hdst j oj hoj
          have h3 := (HRj ⟨v, hv⟩).2 u ⟨w2, g1, fun t => ⟨(g2 t).1, fun _ => g3⟩, (g2 d).2 hd ⟨v, hv⟩⟩
          rw [Array.setIfInBounds_comm _ _ (Ne.symm hji), Act.put_comm a v u p2] at h3
          refine anyK_anti hQ _ _ _ _ _ ?_ h3
          intro t w3 hh
          exact ⟨⟨hh.1.1, hh.2⟩, fun e => hh.1.2 e ⟨v, hv⟩⟩

theorem anyK_lex (hQ : ∀ a F F', (∀ t w, F' t w → F t w) → Q a F → Q a F') (hs : Region.noSelect ops = true) (hdst : ∀ (j : Nat) (o : Oper), ops[j]? = some o → ∃ d, o.dst = Option.some d) :
    ∀ (l : List Oper) (k : Nat) (listed : Array Bool) (a : Act) (F : Facts), (∀ j, l[j]? = ops[k + j]?) → Region.lexFrom md ops l.length k listed = true → (∀ t, UpW E (F t)) → (∃ w, E.r w0 w ∧ ∀ t, F t w) →
      lexK E P ops S w0 Q l a F → anyK E P md ops S w0 Q l.length listed a F
  | [], _, _, _, _, _, hB, _, _, h => ⟨by simpa [Region.lexFrom] using hB, h⟩
  | o :: l, k, listed, a, F, hl, hB, hup, hcon, h => by
    have h0 : ops[k]? = Option.some o := by simpa using (hl 0).symm
    simp only [List.length_cons, Region.lexFrom, Bool.and_eq_true] at hB
    obtain ⟨⟨hr, hf⟩, hB'⟩ := hB
    obtain ⟨R, hy, hn⟩ := h
    refine anyK_first hQ h0 (Region.noSelect_spec hs) hdst l.length listed a F R (Region.free_spec h0 hf) (by simpa using hr) hy hup hcon fun v ⟨w, g1, g2, g3⟩ => ?_
    refine anyK_lex hQ hs hdst l (k + 1) _ _ _ (fun j => by have := hl (j + 1); simpa [Nat.add_assoc, Nat.add_comm 1 j] using this) hB' ?_ ⟨w, g1, fun t => ⟨g2 t, fun _ => g3⟩⟩ (hn v ⟨w, g1, g2, g3⟩)
    exact fun t w2 w3 h23 hh => ⟨hup t w2 w3 h23 hh.1, fun e => hy.1 v w2 w3 h23 (hh.2 e)⟩

/-- What stands behind a region. -/
def endK (E : KRel) (Q' : Exit → Act → World → Prop) (w : World) (a' : Act) (F : Facts) : Prop := ∀ w', E.r w w' → (∀ t, F t w') → Q' .normal a' w'

/-- ONE WALK IN THE ORDER OF THE TEXT: what stands behind is asked in every later world in which the facts hold. -/
theorem wp_region_k (S : FuncId → Array Value → Value → World → Prop) {id : Nat} {Q' : Exit → Act → World → Prop} {a : Act} {w : World} {l : List Oper} (hm : P.follows .mixedOrders = true)
    (hB : Region.lexB .any l.toArray = true) (hd : l.all (fun o => o.dst.isSome) = true)
    (h : lexK E P l.toArray S w (endK E Q' w) l a (fun _ _ => True)) : (Code.region id l.toArray true).wp P Q' a w := by
  simp only [Region.lexB, Bool.and_eq_true] at hB
  refine wp_region_any hm (wpAny_of_anyK (w0 := w) (Q := fun a' F => ∀ w', E.r w w' → (∀ t, F t w') → Q' .normal a' w') (S := S) (fun a F w' he hf hq => hq w' he hf) _ _ _ (fun _ _ => True) _ (E.drawn w) (fun _ _ _ _ _ => trivial) (fun _ => trivial) ?_)
  have hdst : ∀ (j : Nat) (o : Oper), l.toArray[j]? = Option.some o → ∃ d, o.dst = Option.some d := fun j o ho => by
    have := List.all_eq_true.1 hd o (by simpa using Array.mem_of_getElem? ho)
    exact Option.isSome_iff_exists.1 this
  have := anyK_lex (P := P) (S := S) (w0 := w) (md := .any) (Q := fun a' F => ∀ w', E.r w w' → (∀ t, F t w') → Q' .normal a' w') (fun a F F' hx hq w' he hf => hq w' he fun t => hx t w' (hf t)) hB.1 hdst l 0 (Array.replicate l.toArray.size false) a (fun _ _ => True)
    (by simp) (by simpa using hB.2) (fun _ _ _ _ _ => trivial) ⟨w, E.refl _, fun _ => trivial⟩ h
  simpa using this

theorem lexK_anti (hQ : ∀ a F F', (∀ t w, F' t w → F t w) → Q a F → Q a F') : ∀ (l : List Oper) (a : Act) (F F' : Facts), (∀ t w, F' t w → F t w) → lexK E P ops S w0 Q l a F → lexK E P ops S w0 Q l a F'
  | [], _, _, _, h, hh => hQ _ _ _ h hh
  | _ :: l, _, _, _, h, hh => kStep_anti (fun a F F' h => lexK_anti hQ l a F F' h) h hh

theorem endK_anti {Q' : Exit → Act → World → Prop} (a : Act) (F F' : Facts) (h : ∀ t w, F' t w → F t w) (hh : endK E Q' w0 a F) : endK E Q' w0 a F' :=
  fun w' he hf => hh w' he fun t => h t w' (hf t)

/-- A world later than w0. -/
structure Later (E : KRel) (w0 : World) where
  val : World
  ext : E.r w0 val

/-- One of the operations that only read or reckon. -/
def plainOp (o : Oper) : Bool :=
  match o.op with
  | .move _ | .assign _ | .pick .. | .load .. | .binOp .. | .unOp .. | .convert .. | .slice .. | .fieldAddr .. | .field .. | .indexAddr .. | .index .. | .extract .. | .lookup .. | .nilCheck .. => true
  | .call c => (match c.callee with | .builtin .len => true | .builtin .cap => true | .builtin .min => true | .builtin .max => true | _ => false)
  | _ => false

variable {Q' : Exit → Act → World → Prop}

/-- One operation whose value is known. -/
theorem lexK_val {o : Oper} {rest : List Oper} {a : Act} {F : Facts} (u : Value) (hw : Region.wanted o (yielded ops a.tmps) = true)
    (hrun : ∀ w, E.r w0 w → (∀ t ∈ o.looksAt ops, F t w) → (execOp a.eval o).run P w = .ok (.value u) w)
    (hn : lexK E P ops S w0 (endK E Q' w0) rest (a.put o.dst u) F) : lexK E P ops S w0 (endK E Q' w0) (o :: rest) a F := by
  refine ⟨fun v _ => v = u, ⟨fun _ _ _ _ h => h, .inl ⟨hw, fun w he hf => by rw [hrun w he hf]; exact ⟨E.refl _, rfl⟩⟩⟩, ?_⟩
  rintro v ⟨_, _, _, rfl⟩
  exact lexK_anti endK_anti _ _ _ _ (fun _ _ h => h.1) hn

theorem lexK_skip {o : Oper} {rest : List Oper} {a : Act} {F : Facts} (hw : Region.wanted o (yielded ops a.tmps) = false)
    (hn : lexK E P ops S w0 (endK E Q' w0) rest (a.put o.dst undef) F) : lexK E P ops S w0 (endK E Q' w0) (o :: rest) a F := by
  refine ⟨fun v _ => v = undef, ⟨fun _ _ _ _ h => h, .inr ⟨hw, rfl⟩⟩, ?_⟩
  rintro v ⟨_, _, _, rfl⟩
  exact lexK_anti endK_anti _ _ _ _ (fun _ _ h => h.1) hn

/-- One operation that leaves something of which R holds. -/
theorem lexK_some {o : Oper} {rest : List Oper} {a : Act} {F : Facts} (R : Value → World → Prop) (hR : ∀ v, UpW E (R v)) (hw : Region.wanted o (yielded ops a.tmps) = true)
    (hrun : ∀ w, E.r w0 w → (∀ t ∈ o.looksAt ops, F t w) → ∃ u w', (execOp a.eval o).run P w = .ok (.value u) w' ∧ E.r w w' ∧ R u w')
    (hn : ∀ v w, E.r w0 w → (∀ t, F t w) → R v w → lexK E P ops S w0 (endK E Q' w0) rest (a.put o.dst v) (F.add o.dst (R v))) : lexK E P ops S w0 (endK E Q' w0) (o :: rest) a F := by
  refine ⟨R, ⟨hR, .inl ⟨hw, fun w he hf => ?_⟩⟩, fun v ⟨w, h1, h2, h3⟩ => hn v w h1 h2 h3⟩
  obtain ⟨u, w', h1, h2, h3⟩ := hrun w he hf
  rw [h1]
  exact ⟨h2, h3⟩

/-- A call of a Go function. -/
theorem lexK_call {o : Oper} {rest : List Oper} {a : Act} {F : Facts} (f : FuncId) (args : Array Value) (hS : ∀ v, UpW E (S f args v)) (hw : Region.wanted o (yielded ops a.tmps) = true)
    (hrun : ∀ w, (execOp a.eval o).run P w = .ok (.enter f args) w)
    (hc : ∀ w, E.r w0 w → (∀ t ∈ o.looksAt ops, F t w) → Calls P f args w fun e w'' => ∃ v, e = .returned v ∧ E.r w w'' ∧ S f args v w'')
    (hn : ∀ v w, E.r w0 w → (∀ t, F t w) → S f args v w → lexK E P ops S w0 (endK E Q' w0) rest (a.put o.dst v) (F.add o.dst (S f args v))) : lexK E P ops S w0 (endK E Q' w0) (o :: rest) a F := by
  refine ⟨S f args, ⟨hS, .inl ⟨hw, fun w he hf => ?_⟩⟩, fun v ⟨w, h1, h2, h3⟩ => hn v w h1 h2 h3⟩
  rw [hrun w]
  exact ⟨E.refl _, hc w he hf, fun _ _ h => h⟩

/-- A call of a Go function that hands back one known value. -/
theorem lexK_call1 {o : Oper} {rest : List Oper} {a : Act} {F : Facts} (f : FuncId) (args : Array Value) (u : Value) (hS : ∀ v w, S f args v w ↔ v = u) (hw : Region.wanted o (yielded ops a.tmps) = true)
    (hrun : ∀ w, (execOp a.eval o).run P w = .ok (.enter f args) w)
    (hc : ∀ w, E.r w0 w → (∀ t ∈ o.looksAt ops, F t w) → Calls P f args w fun e w'' => e = .returned u ∧ E.r w w'')
    (hn : lexK E P ops S w0 (endK E Q' w0) rest (a.put o.dst u) F) : lexK E P ops S w0 (endK E Q' w0) (o :: rest) a F := by
  refine lexK_call f args (fun v w w' _ h => (hS v w').2 ((hS v w).1 h)) hw hrun (fun w he hf => (hc w he hf).mono fun e w'' ⟨h1, h2⟩ => ⟨u, h1, h2, (hS u w'').2 rfl⟩) ?_
  intro v w _ _ h
  rw [(hS v w).1 h]
  exact lexK_anti endK_anti _ _ _ _ (fun _ _ h => h.1) hn

theorem bind_value_ne {s : Sem Value} {w w' : World} {f : FuncId} {args : Array Value} : (do pure (Next.value (← s)) : Sem Next).run P w ≠ .ok (.enter f args) w' := by
  simp only [Sem.run_bind]
  cases s.run P w with
  | ok a w1 => simp [Result.andThen]
  | halt x w1 => simp [Result.andThen]

theorem andThen_ne {α β : Type} {r : Result α} {g : α → World → Result β} {b : β} {w' : World} (h : ∀ a w1, g a w1 ≠ .ok b w') : r.andThen g ≠ .ok b w' := by
  cases r with
  | ok a w1 => exact h a w1
  | halt x w1 => simp [Result.andThen]

theorem run_value_of_plain {o : Oper} {ρ : Operand → Value} {w w' : World} {f : FuncId} {args : Array Value} (h : plainOp o = true) : (execOp ρ o).run P w ≠ .ok (.enter f args) w' := by
  unfold plainOp at h
  unfold execOp
  cases ho : o.op <;> simp only [ho] at h <;> simp only [] <;> first | exact bind_value_ne | (simp; done) | skip
  case call c =>
    cases hc : c.callee <;> simp only [hc] at h
    case builtin b =>
      simp only [resolve, hc, invoke]
      cases b <;> simp at h <;> simp only [builtin] <;> exact bind_value_ne
    all_goals simp at h
  case pick c a b =>
    simp only [Sem.run_bind]
    cases (asBool (ρ c)).run P w with
    | ok a w1 => simp [Result.andThen]
    | halt x w1 => simp [Result.andThen]
  case nilCheck x =>
    have hp : (runtimePanic (α := Next) .nilDeref).run P w ≠ .ok (.enter f args) w' := by simp [runtimePanic, goPanic]
    split
    · exact hp
    · exact hp
    · exact hp
    · split
      · exact hp
      · simp only [Sem.run_bind]
        refine andThen_ne fun a1 w1 => andThen_ne fun a2 w2 => ?_
        split
        · simp [unsupported]
        · simp
      · simp
    · simp
  all_goals simp at h

/-- So many operations that only read: the kit's quiet walk, over all later worlds. -/
theorem lexK_quiet {F : Facts} : ∀ (l rest : List Oper) (a : Act), l.all plainOp = true →
    wpQuiet P ops (fun w' => ∃ l : Later E w0, w' = l.val) (fun a' => lexK E P ops S w0 (endK E Q' w0) rest a' F) l a → lexK E P ops S w0 (endK E Q' w0) (l ++ rest) a F
  | [], _, _, _, h => h
  | o :: l, rest, a, hp, h => by
    simp only [List.all_cons, Bool.and_eq_true] at hp
    unfold wpQuiet at h
    split at h
    · rename_i hw
      obtain ⟨u, h1, h2⟩ := h
      refine ⟨fun v _ => v = u, ⟨fun _ _ _ _ h => h, .inl ⟨hw, fun w he hf => ?_⟩⟩, fun v ⟨_, _, _, hv⟩ => by subst hv; exact lexK_anti endK_anti _ _ _ _ (fun _ _ h => h.1) (lexK_quiet l rest _ hp.2 h2)⟩
      have h3 := h1 w ⟨⟨w, he⟩, rfl⟩
      unfold Oper.quietAt at h3
      have hne := fun f args w' => run_value_of_plain (P := P) (o := o) (ρ := a.eval) (w := w) (w' := w') (f := f) (args := args) hp.1
      generalize (execOp a.eval o).run P w = r at *
      cases r with
      | halt x w' => simp only [Oper.quietUpon] at h3
      | ok n w' =>
        cases n <;> simp only [Oper.quietUpon] at h3
        case value v => obtain ⟨rfl, rfl⟩ := h3; exact ⟨E.refl _, rfl⟩
        case skip => obtain ⟨rfl, rfl⟩ := h3; exact ⟨E.refl _, rfl⟩
        case enter f args => exact absurd rfl (hne f args w')
    · rename_i hw
      exact lexK_skip (by simpa using hw) (lexK_quiet l rest _ hp.2 h)

theorem lexK_take (n : Nat) {F : Facts} {l : List Oper} {a : Act} (hp : (l.take n).all plainOp = true)
    (h : wpQuiet P ops (fun w' => ∃ l : Later E w0, w' = l.val) (fun a' => lexK E P ops S w0 (endK E Q' w0) (l.drop n) a' F) (l.take n) a) : lexK E P ops S w0 (endK E Q' w0) l a F := by
  have := lexK_quiet (l.take n) (l.drop n) a hp h
  rwa [List.take_append_drop] at this

theorem lexK_nil {F : Facts} {a : Act} (h : ∀ w', E.r w0 w' → (∀ t, F t w') → Q' .normal a w') : lexK E P ops S w0 (endK E Q' w0) [] a F := h

end

theorem later_some (E : KRel) (w : World) : Nonempty (Later E w) := ⟨⟨w, E.refl _⟩⟩
end KR
end Go.Proofs.Ythohogbefpoclaa

/- An append within a region that draws its order: one block may turn into one known row, once; all else that there was is as it was. Over any program; no conditions. -/
namespace Go.Proofs.Ythohogbefpoclaa
set_option linter.unusedVariables false
set_option linter.unusedSimpArgs false
open Go.RowKit

/-- All that there was is as it was, but that the block of 'go' may have become what 'go' says. -/
structure ExtG (go : Option (Nat × Obj)) (w w' : World) : Prop where
  os : w'.os = w.os
  tape : w'.tape = w.tape
  output : w'.output = w.output
  size : w.heap.size ≤ w'.heap.size
  block : ∀ k, k < w.heap.size → w'.heap[k]? = w.heap[k]? ∨ ∃ o, go = some (k, o) ∧ w'.heap[k]? = some o

section
variable {go : Option (Nat × Obj)} {a b c w w' : World}
theorem ExtG.refl (w : World) : ExtG go w w := ⟨rfl, rfl, rfl, Nat.le_refl _, fun _ _ => .inl rfl⟩
theorem ExtG.trans (h : ExtG go a b) (k : ExtG go b c) : ExtG go a c := by
  refine ⟨k.os.trans h.os, k.tape.trans h.tape, k.output.trans h.output, Nat.le_trans h.size k.size, fun i hi => ?_⟩
  rcases k.block i (Nat.lt_of_lt_of_le hi h.size) with e | e
  · rcases h.block i hi with e' | ⟨o, h1, h2⟩
    · exact .inl (e.trans e')
    · exact .inr ⟨o, h1, e.trans h2⟩
  · exact .inr e
def grel (go : Option (Nat × Obj)) : KRel := ⟨ExtG go, ExtG.refl, ExtG.trans, fun w => ⟨rfl, rfl, rfl, Nat.le_refl _, fun _ _ => .inl rfl⟩⟩
theorem ExtG.ofExt (h : Ext w w') : ExtG go w w' := ⟨h.os, h.tape, h.output, h.size, fun k hk => .inl (h.block k hk)⟩
theorem ExtG.below {B : Nat} (h : ExtG go w w') (hgo : ∀ k o, go = some (k, o) → B ≤ k) (hB : B ≤ w.heap.size) : Below B w w' :=
  ⟨h.os, h.tape, h.output, h.size, fun k hk => by
    rcases h.block k (by omega) with e | ⟨o, h1, _⟩
    · exact e
    · have := hgo k o h1; omega⟩
theorem ExtG.ext (h : ExtG none w w') : Ext w w' := ⟨h.os, h.tape, h.output, h.size, fun k hk => by
    rcases h.block k hk with e | ⟨o, h1, _⟩
    · exact e
    · cases h1⟩
end

theorem Sl.newRow {k : IntKind} {e : TypeId} (w : World) (zs : List Int) (r : Array Value) (n c : Nat) (hn : n = zs.length) (hc : n ≤ c) (hm : c ≤ maxLen) :
    Sl k (w.drew.alloc (.cells ((zs.map (Value.int k)).toArray ++ r) e)) (.slice (some ⟨w.heap.size, 0, none⟩) n c) zs := by
  subst hn
  refine ⟨_, c, rfl, hc, hm, (fun h => by cases h), .inr ⟨w.heap.size, 0, rfl, fun i hi => ?_⟩⟩
  have h : (w.drew.alloc (.cells ((zs.map (Value.int k)).toArray ++ r) e)).heap[w.heap.size]? = some (.cells ((zs.map (Value.int k)).toArray ++ r) e) := heap_alloc_new w.drew _
  simp only [World.cell?, h]
  rw [Nat.zero_add, Array.getElem?_append_left (by simpa using hi)]
  simp [hi]

theorem Sl.newsOf {k : IntKind} {w : World} {ad : Addr} {n c : Nat} {ys : List Int} (h : Sl k w (.slice (some ad) n c) ys) : ys.length = n ∧ ∀ j u, (ys.map (Value.int k))[j]? = some u → w.cell? (ad.add j) = some u := by
  obtain ⟨a', c', h1, h2, h3, h4, h5⟩ := h
  simp only [Value.slice.injEq] at h1
  obtain ⟨rfl, rfl, rfl⟩ := h1
  refine ⟨rfl, fun j u hj => ?_⟩
  rcases h5 with rfl | ⟨b, off, hb, h6⟩
  · simp at hj
  · simp only [Option.some.injEq] at hb
    subst hb
    have hjl : j < ys.length := by
      rcases Nat.lt_or_ge j ys.length with g | g
      · exact g
      · simp [List.getElem?_eq_none (show (ys.map (Value.int k)).length ≤ j by simpa using g)] at hj
    rw [Go.WideShapes.add_plain, h6 j hjl]
    simp [List.getElem?_eq_getElem hjl] at hj
    subst hj
    simp [List.getD, List.getElem?_eq_getElem hjl]

/-- 'append(v, x...)', v the call's own, in whatever order with what else the region does. -/
theorem append_G {P : Program} {k : IntKind} (w0 : World) (B : Nat) (t e : TypeId) (bytes : Nat) (ht : P.underlying t = some (.slice e))
    (hinfo : (P.info? e).map (fun i => (i.zero, i.size, i.bytes)) = some (some (.int k 0), 1, bytes)) (v x : Value) (acc ys : List Int)
    (hown : Own k e B w0 v acc) (hx : Sl k w0 x ys) (hap : ys = [] ∨ ∀ g ad n c, v.ownBlock = some g → x = .slice (some ad) n c → ad.block ≠ g)
    (hlen : (acc.length + ys.length) * bytes ≤ 140737488355328 ∧ acc.length + ys.length ≤ maxLen) (hB : B ≤ w0.heap.size) :
    ∃ go, (∀ k o, go = some (k, o) → B ≤ k) ∧ ∀ ty w, ExtG go w0 w → ∃ u w', (Builtin.append_ #[t, t] ty #[v, x]).run P w = .ok u w' ∧ ExtG go w w' ∧ ∀ w'', ExtG go w' w'' → Sl k w'' u (acc ++ ys) := by
  obtain ⟨i0, hi, hz0, hz1, hz2⟩ := info_parts hinfo
  have hsmall : acc.length + ys.length ≤ 9223372036854775807 := by have := hlen.2; simp only [maxLen] at this; omega
  obtain ⟨ad, c, hxs, hx1, hx2, hx3, hx4⟩ := id hx
  cases ad with
  | none =>
    have hc := hx3 rfl
    subst hc
    have hy : ys = [] := List.length_eq_zero_iff.1 (by omega)
    subst hy
    subst hxs
    refine ⟨none, fun k o h => (by cases h), fun ty w hw => ⟨v, w, ?_, ExtG.refl _, fun w'' hw'' => ?_⟩⟩
    · exact run_append_owned_none (P := P) (w := w) B t ty e i0 1 ht hi v _ _ (hown.ext hw.ext)
    · rw [List.append_nil]; exact ((hown.ext hw.ext).ext hw''.ext).sl
  | some ad =>
    subst hxs
    have keep : ∀ w : World, Ext w0 w → ∀ j u, (ys.map (Value.int k))[j]? = some u → w.cell? (ad.add j) = some u := fun w hw => (hx.ext hw).newsOf.2
    have news : ∀ w : World, (∀ j u, (ys.map (Value.int k))[j]? = some u → w.cell? (ad.add j) = some u) → True := fun _ _ => trivial
    have hmap : (acc ++ ys).map (Value.int k) = acc.map (Value.int k) ++ ys.map (Value.int k) := List.map_append
    -- a new row
    have new : ∀ (w : World) (cap : Nat), acc.length + ys.length ≤ cap → cap ≤ maxLen → ∀ r : Array Value, ∀ w'', Ext (w.drew.alloc (.cells ((acc.map (Value.int k)).toArray ++ (ys.map (Value.int k)).toArray ++ r) e)) w'' →
        Sl k w'' (.slice (some ⟨w.heap.size, 0, none⟩) (acc.length + ys.length) cap) (acc ++ ys) := fun w cap h1 h2 r w'' hw'' => by
      have := Sl.newRow (k := k) (e := e) w (acc ++ ys) r (acc.length + ys.length) cap (by simp) h1 h2
      rw [hmap, show ((acc.map (Value.int k) ++ ys.map (Value.int k)).toArray : Array Value) = (acc.map (Value.int k)).toArray ++ (ys.map (Value.int k)).toArray by simp] at this
      exact this.ext hw''
    rcases hown.2 with ⟨rfl, h0⟩ | ⟨g, cap, cur, rfl, hbg, hg, hnc, hcm, hcs, htake⟩
    · have ha : acc = [] := List.length_eq_zero_iff.1 h0
      subst ha
      by_cases hm : ys.length = 0
      · have hy : ys = [] := List.length_eq_zero_iff.1 hm
        subst hy
        refine ⟨none, fun k o h => (by cases h), fun ty w hw => ⟨.slice none 0 0, w, ?_, ExtG.refl _, fun w'' hw'' => ?_⟩⟩
        · simp [Builtin.append_, run_underlying ht, sizeOf, typeInfo, hi, Builtin.lenOf, Builtin.firstCells, loadCells, loadCellsFrom]
        · exact (Own.nil k e B w'').sl
      · refine ⟨none, fun k o h => (by cases h), fun ty w hw => ?_⟩
        have hr := run_append_nil (P := P) w t ty e i0 (.int k 0) ht hi hz0 ad ys.length c (ys.map (Value.int k)) (by simp [hz1]) (keep w hw.ext) (by omega) (by simp at hsmall; omega) (by rw [hz2]; have := hlen.1; simp at this; omega)
        refine ⟨_, _, hr, ExtG.ofExt ⟨rfl, rfl, rfl, by simp, fun j hj => heap_alloc_old w.drew _ hj⟩, fun w'' hw'' => ?_⟩
        have hge := grownCap_ge w ys.length 0 e
        have hcm : grownCap w ys.length 0 e ≤ maxLen := grownCap_le_maxLen w ys.length 0 e (by have := hlen.2; simpa using this)
        have := new w (grownCap w ys.length 0 e) (by simpa using hge) hcm (Builtin.zeroCells (Value.int k 0).cells (grownCap w ys.length 0 e - ys.length)) w'' (by simpa using hw''.ext)
        simpa using this
    · by_cases hroom : acc.length + ys.length ≤ cap
      · -- there is room: the row becomes one known row
        have hne : ys = [] ∨ ad.block ≠ g := by
          rcases hap with h | h
          · exact .inl h
          · exact .inr (h g ad _ _ rfl rfl)
        have hrow : ∀ cur' : Array Value, (cur'.toList.take acc.length ++ ys.map (Value.int k) ++ cur'.toList.drop (acc.length + ys.length)) = (cur'.toList.take acc.length ++ (ys.map (Value.int k) ++ cur'.toList.drop (acc.length + ys.length))) := fun _ => List.append_assoc _ _ _
        have hcs' : cur.size = cap := by simpa using hcs
        have htk : cur.toList.take acc.length = acc.map (Value.int k) := by simpa using htake
        let row : List Value := acc.map (Value.int k) ++ ys.map (Value.int k) ++ cur.toList.drop (acc.length + ys.length)
        have hrl : row.length = cap := by simp [row]; omega
        refine ⟨some (g, .cells row.toArray e (0, 0)), fun j o h => ?_, fun ty w hw => ?_⟩
        · simp only [Option.some.injEq, Prod.mk.injEq] at h; omega
        have hgl : g < w0.heap.size := (Array.getElem?_eq_some_iff.1 hg).1
        obtain ⟨cur', hg', hs', ht', hd'⟩ : ∃ cur' : Array Value, w.heap[g]? = some (.cells cur' e (0, 0)) ∧ cur'.size = cap ∧ cur'.toList.take acc.length = acc.map (Value.int k) ∧ cur'.toList.drop (acc.length + ys.length) = cur.toList.drop (acc.length + ys.length) := by
          rcases hw.block g hgl with h | ⟨o, h1, h2⟩
          · exact ⟨cur, h.trans hg, hcs', htk, rfl⟩
          · simp only [Option.some.injEq, Prod.mk.injEq, true_and] at h1
            rw [← h1] at h2
            refine ⟨_, h2, by simpa using hrl, ?_, ?_⟩
            · show row.take acc.length = _
              have e1 : acc.length = (acc.map (Value.int k)).length := by simp
              simp only [row, List.append_assoc]
              rw [e1]; exact List.take_left
            · show row.drop (acc.length + ys.length) = _
              have e1 : acc.length + ys.length = (acc.map (Value.int k) ++ ys.map (Value.int k)).length := by simp
              simp only [row]
              rw [e1]; exact List.drop_left
        have hnews : ∀ j u, (ys.map (Value.int k))[j]? = some u → w.cell? (ad.add j) = some u := fun j u hj => by
          have h0 := hx.newsOf.2 j u hj
          rcases hne with h | h
          · subst h; simp at hj
          · have hb : (ad.add j).block = ad.block := by unfold Addr.add; split <;> rfl
            have hlt := World.block_lt_of_cell? _ _ h0
            rcases hw.block (ad.add j).block hlt with h1 | ⟨o, h1, _⟩
            · exact (World.cell?_of_block h1).trans h0
            · simp only [Option.some.injEq, Prod.mk.injEq] at h1
              exact absurd (h1.1.trans hb).symm h
        have hr := run_append_room (P := P) w t ty e i0 ht hi g acc.length cap cur' hg' ad ys.length c (ys.map (Value.int k)) (by simp [hz1]) hnews (ints_one ys) hroom (by simp [hz1]; omega)
        rw [hz1, Nat.mul_one, ht', List.length_map, hd'] at hr
        have hset := setRow_heap w g cur' row.toArray e (0, 0) hg'
        refine ⟨_, _, hr, ⟨rfl, rfl, rfl, by simp [World.setRow], fun j hj => ?_⟩, fun w'' hw'' => ?_⟩
        · by_cases hjg : j = g
          · subst hjg; exact .inr ⟨_, rfl, hset⟩
          · exact .inl (setRow_other w g j _ hjg)
        · have hgl' : g < (w.setRow g row.toArray).heap.size := (Array.getElem?_eq_some_iff.1 hset).1
          have hfin : w''.heap[g]? = some (.cells row.toArray e (0, 0)) := by
            rcases hw''.block g hgl' with h | ⟨o, h1, h2⟩
            · exact h.trans hset
            · simp only [Option.some.injEq, Prod.mk.injEq, true_and] at h1
              rw [h1]; exact h2
          have hl : (acc ++ ys).length = acc.length + ys.length := List.length_append
          refine ⟨_, cap, by rw [hl], by omega, hcm, (fun h => by cases h), .inr ⟨g, 0, rfl, fun i hi => ?_⟩⟩
          simp only [World.cell?, hfin, Nat.zero_add]
          have e1 : row = (acc ++ ys).map (Value.int k) ++ cur.toList.drop (acc.length + ys.length) := by simp [row]
          rw [e1]
          simp only [List.getElem?_toArray]
          rw [List.getElem?_append_left (by rw [List.length_map]; exact hi), List.getElem?_map, List.getElem?_eq_getElem hi, List.getD_eq_getElem?_getD, List.getElem?_eq_getElem hi]
          rfl
      · refine ⟨none, fun k o h => (by cases h), fun ty w hw => ?_⟩
        have hown' := hown.ext hw.ext
        have holds : ∀ j u, (acc.map (Value.int k))[j]? = some u → w.cell? ((⟨g, 0, none⟩ : Addr).add j) = some u := World.ownsRow.cells hown' (g := g) rfl
        have hr := run_append_grow (P := P) w t ty e i0 (.int k 0) ht hi hz0 ⟨g, 0, none⟩ acc.length cap (acc.map (Value.int k)) (by simp [hz1]) holds ad ys.length c (ys.map (Value.int k)) (by simp [hz1]) (keep w hw.ext) (by omega) (by omega) (by rw [hz2]; exact growslice_fits (by omega) hlen.1)
        refine ⟨_, _, hr, ExtG.ofExt ⟨rfl, rfl, rfl, by simp, fun j hj => heap_alloc_old w.drew _ hj⟩, fun w'' hw'' => ?_⟩
        exact new w _ (grownCap_ge w _ cap e) (grownCap_le_maxLen w _ cap e hlen.2) _ w'' hw''.ext

theorem run_append_op {P : Program} {w w' : World} {ρ : Operand → Value} {o : Oper} {s x : Operand} {t : TypeId} {v u r : Value} (ho : o.op = .call { callee := .builtin .append, args := #[s, x], argTypes := #[t, t] }) (hs : ρ s = v) (hx : ρ x = u)
    (h : (Builtin.append_ #[t, t] o.type #[v, u]).run P w = .ok r w') : (execOp ρ o).run P w = .ok (.value r) w' := by
  unfold execOp
  simp only [ho, resolve, invoke, builtin, Sem.run_bind, Sem.run_pure, Result.andThen_ok, List.map_toArray, List.map_cons, List.map_nil, hs, hx, h]

theorem Own.but {k : IntKind} {e : TypeId} {B b : Nat} {w w' : World} {s : Value} {zs : List Int} (h : Own k e B w s zs) (hB : But b w w') (hb : b < B) : Own k e B w' s zs := by
  refine World.ownsRow.kept h hB ?_
  cases hv : s.ownBlock with
  | none => exact .inl rfl
  | some g =>
    refine .inr fun e => ?_
    have := (World.ownsRow.lt h g hv).1
    simp only [Option.some.injEq] at e
    omega

theorem Own.apart {k k' : IntKind} {e e' : TypeId} {B : Nat} {w w' : World} {v x : Value} {zs ys : List Int} (hv : Own k e B w v zs) (hx : Own k' e' w.heap.size w' x ys) : ∀ g ad n c, v.ownBlock = some g → x = .slice (some ad) n c → ad.block ≠ g := by
  intro g ad n c hg hxe
  have h1 := (World.ownsRow.lt hv g hg).2
  have h2 := (World.ownsRow.lt hx ad.block (by
    rcases hx.2 with ⟨h, _⟩ | ⟨g', cap, cur, h, _⟩
    · rw [h] at hxe; cases hxe
    · rw [hxe] at h; cases h; rw [hxe]; rfl)).1
  omega
end Go.Proofs.Ythohogbefpoclaa

/- Appends one within the other in a region that draws its order: 'append(append(append([]T{}, a...), x), b...)'. Whatever is written into a new row is what it is at last. Over any program; no conditions. -/
namespace Go.Proofs.Ythohogbefpoclaa
set_option linter.unusedVariables false
set_option linter.unusedSimpArgs false
open Go.RowKit

/-- All that there was is as it was, but that cells of new rows (of e, of more than 'lo' cells) may have become what F has at their places. -/
structure ExtF (B : Nat) (e : TypeId) (F : List Value) (lo : Nat) (w w' : World) : Prop where
  os : w'.os = w.os
  tape : w'.tape = w.tape
  output : w'.output = w.output
  size : w.heap.size ≤ w'.heap.size
  block : ∀ k, k < w.heap.size → w'.heap[k]? = w.heap[k]? ∨ (B ≤ k ∧ ∃ cs cs' : Array Value, w.heap[k]? = some (.cells cs e (0, 0)) ∧ w'.heap[k]? = some (.cells cs' e (0, 0)) ∧ cs'.size = cs.size ∧ lo < cs.size ∧ ∀ i : Nat, cs'[i]? = cs[i]? ∨ cs'[i]? = F[i]?)

section
variable {B : Nat} {e : TypeId} {F : List Value} {lo : Nat} {a b c w w' : World}
theorem ExtF.refl (w : World) : ExtF B e F lo w w := ⟨rfl, rfl, rfl, Nat.le_refl _, fun _ _ => .inl rfl⟩
theorem ExtF.trans (h : ExtF B e F lo a b) (k : ExtF B e F lo b c) : ExtF B e F lo a c := by
  refine ⟨k.os.trans h.os, k.tape.trans h.tape, k.output.trans h.output, Nat.le_trans h.size k.size, fun i hi => ?_⟩
  rcases k.block i (Nat.lt_of_lt_of_le hi h.size) with e1 | ⟨hb, cs, cs', e1, e2, e3, e4, e5⟩
  · rcases h.block i hi with f1 | ⟨hb, ds, ds', f1, f2, f3⟩
    · exact .inl (e1.trans f1)
    · exact .inr ⟨hb, ds, ds', f1, e1.trans f2, f3⟩
  · rcases h.block i hi with f1 | ⟨hb', ds, ds', f1, f2, f3, f4, f5⟩
    · exact .inr ⟨hb, cs, cs', f1 ▸ e1, e2, e3, e4, e5⟩
    · rw [f2] at e1
      simp only [Option.some.injEq, Obj.cells.injEq, and_true] at e1
      subst e1
      refine .inr ⟨hb, ds, cs', f1, e2, by omega, f4, fun j => ?_⟩
      rcases e5 j with g | g
      · rcases f5 j with g' | g'
        · exact .inl (g.trans g')
        · exact .inr (g.trans g')
      · exact .inr g
def frel (B : Nat) (e : TypeId) (F : List Value) (lo : Nat) : KRel := ⟨ExtF B e F lo, ExtF.refl, ExtF.trans, fun w => ⟨rfl, rfl, rfl, Nat.le_refl _, fun _ _ => .inl rfl⟩⟩
theorem ExtF.ofExt (h : Ext w w') : ExtF B e F lo w w' := ⟨h.os, h.tape, h.output, h.size, fun k hk => .inl (h.block k hk)⟩
/-- From a world with B blocks on: all that was there is as it was. -/
theorem ExtF.below (h : ExtF B e F lo w w') (hB : B ≤ w.heap.size) : Below B w w' :=
  ⟨h.os, h.tape, h.output, h.size, fun k hk => by
    rcases h.block k (by omega) with e1 | ⟨hb, _⟩
    · exact e1
    · omega⟩
theorem ExtF.ext (h : ExtF w.heap.size e F lo w w') : Ext w w' := h.below (Nat.le_refl _)

/-- A new row whose first n elements are F's. -/
def OwnF (B : Nat) (e : TypeId) (F : List Value) (sz : Nat) (w : World) (v : Value) (n : Nat) : Prop :=
  ∃ g cap cur, v = .slice (some ⟨g, 0, none⟩) n cap ∧ B ≤ g ∧ w.heap[g]? = some (.cells cur e (0, 0)) ∧ n ≤ cap ∧ cap ≤ maxLen ∧ cur.size = cap * sz ∧ ∀ i : Nat, i < n * sz → cur[i]? = F[i]?
theorem OwnF.up {sz n : Nat} {v : Value} : KR.UpW (frel B e F lo) (fun w => OwnF B e F sz w v n) := by
  rintro w w' he ⟨g, cap, cur, h1, h2, h3, h4, h5, h6, h7⟩
  have hg : g < w.heap.size := (Array.getElem?_eq_some_iff.1 h3).1
  rcases he.block g hg with f1 | ⟨_, cs, cs', f1, f2, f3, f4, f5⟩
  · exact ⟨g, cap, cur, h1, h2, f1.trans h3, h4, h5, h6, h7⟩
  · rw [h3] at f1
    simp only [Option.some.injEq, Obj.cells.injEq, and_true] at f1
    subst f1
    refine ⟨g, cap, cs', h1, h2, f2, h4, h5, by omega, fun i hi => ?_⟩
    rcases f5 i with g | g
    · exact g.trans (h7 i hi)
    · exact g
theorem OwnF.owns {sz n : Nat} {v : Value} (h : OwnF B e F sz w v n) (hF : n * sz ≤ F.length) : w.ownsRow B e sz v n (F.take (n * sz)) := by
  obtain ⟨g, cap, cur, h1, h2, h3, h4, h5, h6, h7⟩ := h
  refine ⟨by rw [List.length_take]; omega, .inr ⟨g, cap, cur, h1, h2, h3, h4, h5, h6, ?_⟩⟩
  refine List.ext_getElem? fun i => ?_
  simp only [List.getElem?_take]
  by_cases hi : i < n * sz
  · rw [if_pos hi, if_pos hi, ← h7 i hi]; simp
  · rw [if_neg hi, if_neg hi]

/-- A literal row that no more is written to: it has no more than 'lo' cells. -/
def LitF (B : Nat) (e : TypeId) (w : World) (v : Value) (n : Nat) (cs : Array Value) : Prop := ∃ g, v = .slice (some ⟨g, 0, none⟩) n n ∧ B ≤ g ∧ w.heap[g]? = some (.cells cs e (0, 0))
theorem LitF.up {v : Value} {n : Nat} {cs : Array Value} (hlo : cs.size ≤ lo) : KR.UpW (frel B e F lo) (fun w => LitF B e w v n cs) := by
  rintro w w' he ⟨g, h1, h2, h3⟩
  have hg : g < w.heap.size := (Array.getElem?_eq_some_iff.1 h3).1
  rcases he.block g hg with f1 | ⟨_, cs1, cs', f1, f2, f3, f4, f5⟩
  · exact ⟨g, h1, h2, f1.trans h3⟩
  · rw [h3] at f1
    simp only [Option.some.injEq, Obj.cells.injEq, and_true] at f1
    subst f1
    omega
theorem LitF.own {v : Value} {sz : Nat} (h : LitF B e w v 0 #[]) : OwnF B e F sz w v 0 := by
  obtain ⟨g, h1, h2, h3⟩ := h
  exact ⟨g, 0, #[], h1, h2, h3, Nat.le_refl _, by simp, by simp, fun i hi => by omega⟩
theorem LitF.news {v : Value} {n : Nat} {cs : Array Value} (h : LitF B e w v n cs) : ∃ ad, v = .slice (some ad) n n ∧ ∀ j u, cs.toList[j]? = some u → w.cell? (ad.add j) = some u := by
  obtain ⟨g, h1, h2, h3⟩ := h
  refine ⟨_, h1, fun j u hj => ?_⟩
  rw [Go.WideShapes.add_plain]
  have : cs[j]? = some u := by simpa using hj
  simp [World.cell?, h3, this]
end

/-- 'append(v, x...)' that makes more of F. -/
theorem append_F {P : Program} {w : World} {B : Nat} {e : TypeId} {F : List Value} {lo sz bytes : Nat} (t ty : TypeId) (z : Value) (ht : P.underlying t = some (.slice e))
    (hinfo : (P.info? e).map (fun i => (i.zero, i.size, i.bytes)) = some (some z, sz, bytes)) (hzs : z.cells.size = sz) (hsz : 0 < sz) (v x : Value) (n m : Nat) (a : Option Addr) (c : Nat) (news : List Value)
    (hv : OwnF B e F sz w v n) (hx : x = .slice a m c) (ha : a = none → c = 0 ∧ m = 0) (hl : news.length = m * sz) (hn : ∀ ad, a = some ad → ∀ j u, news[j]? = some u → w.cell? (ad.add j) = some u) (h1 : ∀ u ∈ news, u.oneCell' = true)
    (hF : ∀ j, j < m * sz → news[j]? = F[n * sz + j]?) (hlo : m = 0 ∨ lo < (n + m) * sz ∨ ∀ a c, v = .slice a n c → c < n + m) (hlen : (n + m) * bytes ≤ 140737488355328 ∧ n + m ≤ maxLen) (hFl : n * sz ≤ F.length) (hB : B ≤ w.heap.size) :
    ∃ u w', (Builtin.append_ #[t, t] ty #[v, x]).run P w = .ok u w' ∧ ExtF B e F lo w w' ∧ OwnF B e F sz w' u (n + m) ∧ ∀ a c, v = .slice a n c → n + m ≤ c → ∃ a', u = .slice a' (n + m) c := by
  obtain ⟨i0, hi, hz0, hz1, hz2⟩ : ∃ i, P.info? e = some i ∧ i.zero = some z ∧ i.size = sz ∧ i.bytes = bytes := by
    cases hi : P.info? e with
    | none => simp [hi] at hinfo
    | some i =>
      simp only [hi, Option.map_some, Option.some.injEq, Prod.mk.injEq] at hinfo
      exact ⟨i, rfl, hinfo.1, hinfo.2.1, hinfo.2.2⟩
  subst hx
  have hown := hv.owns hFl
  cases a with
  | none =>
    obtain ⟨rfl, rfl⟩ := ha rfl
    exact ⟨v, w, run_append_owned_none (P := P) (w := w) B t ty e i0 sz ht hi _ _ _ hown, ExtF.refl _, hv, fun a c hv _ => ⟨a, hv⟩⟩
  | some ad =>
    have hnews := hn ad rfl
    obtain ⟨g, cap, cur, rfl, hBg, hg, hnc, hcm, hcs, hcur⟩ := hv
    have hsmall : n + m ≤ 9223372036854775807 := by have := hlen.2; simp only [maxLen] at this; omega
    have hmul : (n + m) * sz = n * sz + m * sz := Nat.add_mul _ _ _
    by_cases hroom : n + m ≤ cap
    · have hcap : (n + m) * sz ≤ cap * sz := Nat.mul_le_mul_right _ hroom
      have hr := run_append_room (P := P) w t ty e i0 ht hi g n cap cur hg ad m c news (by rw [hz1]; exact hl) hnews h1 hroom (by rw [hz1]; omega)
      rw [hz1] at hr
      have hset := setRow_heap w g cur (cur.toList.take (n * sz) ++ news ++ cur.toList.drop (n * sz + news.length)).toArray e (0, 0) hg
      have hcell : ∀ i : Nat, (cur.toList.take (n * sz) ++ news ++ cur.toList.drop (n * sz + news.length)).toArray[i]? = if i < n * sz then cur[i]? else if i < n * sz + m * sz then F[i]? else cur[i]? := fun i => by
        have htl : (cur.toList.take (n * sz)).length = n * sz := by rw [List.length_take, Array.length_toList]; omega
        simp only [List.getElem?_toArray]
        by_cases g1 : i < n * sz
        · rw [if_pos g1, List.append_assoc, List.getElem?_append_left (by omega), List.getElem?_take, if_pos g1]; simp
        · rw [if_neg g1]
          by_cases g2 : i < n * sz + m * sz
          · rw [if_pos g2, List.getElem?_append_left (by rw [List.length_append]; omega), List.getElem?_append_right (by omega), htl, hF _ (by omega)]
            congr 1; omega
          · rw [if_neg g2, List.getElem?_append_right (by rw [List.length_append]; omega), List.length_append, htl, List.getElem?_drop]
            rw [show n * sz + news.length + (i - (n * sz + news.length)) = i by omega]; simp
      refine ⟨_, _, hr, ?_, ?_, fun a' c' hv _ => ?_⟩
      · refine ⟨rfl, rfl, rfl, by simp [World.setRow], fun j hj => ?_⟩
        by_cases hjg : j = g
        · subst hjg
          by_cases hm : m = 0
          · left
            rw [hset, hg]
            congr 1
            congr 1
            apply Array.ext_getElem?
            intro i
            rw [hcell i]
            subst hm
            split
            · rfl
            · rw [if_neg (by omega)]
          · right
            refine ⟨hBg, cur, _, hg, hset, ?_, ?_, fun i => ?_⟩
            · simp [hl]; omega
            · rcases hlo with h | h | h
              · exact absurd h hm
              · omega
              · have := h _ _ rfl; omega
            · rw [hcell i]
              split
              · exact .inl rfl
              · split
                · exact .inr rfl
                · exact .inl rfl
        · exact .inl (setRow_other w g j _ hjg)
      · refine ⟨g, cap, _, rfl, hBg, hset, hroom, hcm, by simp [hl]; omega, fun i hi2 => ?_⟩
        rw [hcell i]
        split
        · exact hcur i (by assumption)
        · rw [if_pos (by omega)]
      · simp only [Value.slice.injEq, true_and] at hv
        exact ⟨_, by rw [hv.2]⟩
    · have holds : ∀ j u, (F.take (n * sz))[j]? = some u → w.cell? ((⟨g, 0, none⟩ : Addr).add j) = some u := World.ownsRow.cells hown (g := g) rfl
      have hr := run_append_grow (P := P) w t ty e i0 z ht hi hz0 ⟨g, 0, none⟩ n cap (F.take (n * sz)) (by rw [hz1, List.length_take]; omega) holds ad m c news (by rw [hz1]; exact hl) hnews (by omega) (by omega) (by rw [hz2]; exact growslice_fits (by omega) hlen.1)
      have hge := grownCap_ge w (n + m) cap e
      refine ⟨_, _, hr, ExtF.ofExt ⟨rfl, rfl, rfl, by simp, fun j hj => heap_alloc_old w.drew _ hj⟩, ?_, fun a' c' hv h => ?_⟩
      rotate_left
      · simp only [Value.slice.injEq, true_and] at hv
        exact absurd h (by omega)
      refine ⟨w.heap.size, _, _, rfl, hB, heap_alloc_new w.drew _, hge, grownCap_le_maxLen w _ cap e hlen.2, ?_, fun i hi2 => ?_⟩
      · have h3 : (Builtin.zeroCells z.cells (grownCap w (n + m) cap e - (n + m))).size = (grownCap w (n + m) cap e - (n + m)) * sz := by rw [size_zeroCells, hzs]
        simp only [Array.size_append, List.size_toArray, h3, List.length_take, hl]
        rw [Nat.min_eq_left hFl]
        obtain ⟨q, hq⟩ : ∃ q, grownCap w (n + m) cap e = n + m + q := ⟨grownCap w (n + m) cap e - (n + m), by omega⟩
        rw [hq, show n + m + q - (n + m) = q by omega, Nat.add_mul, hmul]
      · have htl : (F.take (n * sz)).length = n * sz := by rw [List.length_take]; omega
        rw [Array.getElem?_append_left (by simp only [Array.size_append, List.size_toArray, htl, hl]; omega)]
        by_cases g1 : i < n * sz
        · rw [Array.getElem?_append_left (by simp only [List.size_toArray, htl]; exact g1)]
          simp only [List.getElem?_toArray, List.getElem?_take, if_pos g1]
        · rw [Array.getElem?_append_right (by simp only [List.size_toArray, htl]; omega)]
          simp only [List.getElem?_toArray, List.size_toArray, htl]
          rw [hF _ (by omega)]
          congr 1; omega
end Go.Proofs.Ythohogbefpoclaa
