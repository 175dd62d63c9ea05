/- Texts laid together: Two, BjTurnOp, ValsI, Bools, CycSeen, InvMath, KasMath, CycRow, BackMath, BwtMath, BwtMore, BwtMath2, BwCnt, LfUp, BktFit, BktCounts, BktStarts, LfFirst, LfOfOp, LfFrom, RkInv, RkIs, LfOp, BjBackOp, ResMath, BjOp, BjKnown, BjMore, RefWords, OmRef. -/
import Derived.Test.YtinnfcjkgddfeaaPart1
import Derived.Test.YtinnfcjkgddfeaaPart2
import Derived.Laws.OwnMore
import Derived.Laws.MakeOwn
import Derived.Deep.MidRow
import Derived.Lib.SlBytesConst
import Derived.Lib.MinMax
/- Two rows of the call's own, grown side by side: rows of two types lie apart. Over any program, no conditions. -/
namespace Go.Proofs.Ytinnfcjkgddfeaa
set_option linter.unusedVariables false
set_option linter.unusedSimpArgs false
open Go.RowKit

theorem grown_refl (w : World) (row : Option Nat) : w.grownBy w row := ⟨rfl, rfl, rfl, Nat.le_refl _, fun _ _ _ => rfl⟩

/-- 'append(s, x)', s the call's own: all but s's block is as it was. -/
theorem wpList_snocG {P : Program} (w : World) {ops : Array Oper} {rest : List Oper} {o : Oper} {a : Act} {Q : Exit → Act → World → Prop} (hgd : o.guard = none) (s x : Operand) (t : TypeId)
    (ho : o.op = .call { callee := .builtin .append, args := #[s, x], argTypes := #[t, t] }) (e : TypeId) (k : IntKind) (bytes : Nat) (ht : P.underlying t = some (.slice e))
    (hinfo : (P.info? e).map (fun i => (i.zero, i.size, i.bytes)) = some (some (.int k 0), 1, bytes)) (B : Nat) (v : Value) (zs : List Int) (z : Int) (ad : Addr) (hs : a.eval s = v) (hx : a.eval x = .slice (some ad) 1 1)
    (hcell : w.cell? ad = some (.int k z)) (hown : Own k e B w v zs) (hlen : (zs.length + 1) * bytes ≤ 140737488355328 ∧ zs.length + 1 ≤ maxLen) (hB : B ≤ w.heap.size)
    (h : ∀ v' w', Own k e B w' v' (zs ++ [z]) → w.grownBy w' v.ownBlock → wpList P ops Q rest (a.put o.dst v') w') : wpList P ops Q (o :: rest) a w := by
  obtain ⟨i0, hi, hz0, hz1, hz2⟩ := info_parts hinfo
  refine wpList_append_own w hgd s x t ho B e i0 (.int k 0) 1 bytes ht hi hz0 hz1 hz2 rfl (by decide) v _ _ hs hown ad 1 1 [.int k z] hx rfl ?_ one1 hlen.2 hlen.1 hB ?_
  · intro j u hj
    match j, hj with
    | 0, hj => simp at hj; subst hj; simpa [Addr.add] using hcell
  · intro v' w' h1 h2 _
    exact h v' w' (Own.snoc h1) h2

/-- 'append(s, xs...)', s the call's own, xs whatever numbers: all but s's block is as it was. -/
theorem wpList_joinG {P : Program} (w : World) {ops : Array Oper} {rest : List Oper} {o : Oper} {a : Act} {Q : Exit → Act → World → Prop} (hgd : o.guard = none) (s x : Operand) (t : TypeId)
    (ho : o.op = .call { callee := .builtin .append, args := #[s, x], argTypes := #[t, t] }) (e : TypeId) (k : IntKind) (bytes : Nat) (ht : P.underlying t = some (.slice e))
    (hinfo : (P.info? e).map (fun i => (i.zero, i.size, i.bytes)) = some (some (.int k 0), 1, bytes)) (B : Nat) (v u : Value) (zs ys : List Int) (hs : a.eval s = v) (hx : a.eval x = u)
    (hown : Own k e B w v zs) (hsl : Sl k w u ys) (hlen : (zs.length + ys.length) * bytes ≤ 140737488355328 ∧ zs.length + ys.length ≤ maxLen) (hB : B ≤ w.heap.size)
    (h : ∀ v' w', Own k e B w' v' (zs ++ ys) → w.grownBy w' v.ownBlock → wpList P ops Q rest (a.put o.dst v') w') : wpList P ops Q (o :: rest) a w := by
  obtain ⟨i0, hi, hz0, hz1, hz2⟩ := info_parts hinfo
  obtain ⟨ad, c, rfl, h1, h2, h3, h4⟩ := hsl
  cases ad with
  | none =>
    have hc := h3 rfl
    subst hc
    have hy : ys = [] := List.length_eq_zero_iff.1 (by omega)
    subst hy
    refine wpList_append_own_none hgd s x t ho B e i0 1 ht hi v _ _ hs hown hx ?_
    refine h v w ?_ (grown_refl _ _)
    rw [List.append_nil]; exact hown
  | some ad =>
    refine wpList_append_own w hgd s x t ho B e i0 (.int k 0) 1 bytes ht hi hz0 hz1 hz2 rfl (by decide) v _ _ hs hown ad ys.length c (ys.map (Value.int k)) hx (by simp) ?_ (ints_one ys) hlen.2 hlen.1 hB (fun v' w' g1 g2 _ => h v' w' (by unfold Own; simpa using g1) g2)
    intro j u hj
    rcases h4 with rfl | ⟨b, off, hb, h5⟩
    · simp at hj
    · simp only [Option.some.injEq] at hb
      subst hb
      have hjl : j < ys.length := by
        rcases Nat.lt_or_ge j ys.length with g | g
        · exact g
        · simp [List.getElem?_eq_none (show (ys.map (Value.int k)).length ≤ j by simpa using g)] at hj
      rw [Go.WideShapes.add_plain, h5 j hjl]
      simp [List.getElem?_eq_getElem hjl] at hj
      subst hj
      simp [List.getD, List.getElem?_eq_getElem hjl]

/-- A block has one type. -/
theorem Own.other {k k' : IntKind} {e e' : TypeId} {B B' : Nat} {w w' : World} {v x : Value} {zs ys : List Int} (hv : Own k e B w v zs) (hx : Own k' e' B' w x ys) (he : e ≠ e') (hg : w.grownBy w' v.ownBlock) : Own k' e' B' w' x ys := by
  refine World.ownsRow.kept (row := v.ownBlock) hx hg ?_
  rcases hx.2 with ⟨h, _⟩ | ⟨g, cap, cur, h, _, hb, _⟩
  · rw [h]; exact .inl rfl
  · refine .inr fun e1 => ?_
    rcases hv.2 with ⟨h', _⟩ | ⟨g', cap', cur', h', _, hb', _⟩
    · rw [h, h'] at e1; simp [Value.ownBlock] at e1
    · rw [h, h'] at e1
      simp only [Value.ownBlock, Option.some.injEq] at e1
      subst e1
      rw [hb] at hb'
      cases hb'
      exact he rfl

theorem Own.grown {k : IntKind} {e : TypeId} {B : Nat} {w w' : World} {v : Value} {zs : List Int} (h : Own k e B w v zs) (hB : B ≤ w.heap.size) (hg : w.grownBy w' v.ownBlock) : Below B w w' :=
  (Below.refl _ _).grown hg hB (fun k hk => (World.ownsRow.lt h k hk).1)
/-- 'T{}' of a slice type, made. -/
theorem emptyOwn (k : IntKind) (e : TypeId) (w : World) : Own k e w.heap.size (w.alloc (.cells #[] e)) (.slice (some ⟨w.heap.size, 0, none⟩) 0 0) [] := ⟨rfl, .inr ⟨w.heap.size, 0, _, rfl, Nat.le_refl _, heap_alloc_top _ _, Nat.le_refl _, by decide, rfl, rfl⟩⟩
end Go.Proofs.Ytinnfcjkgddfeaa

/- Contract of bij.Turn. -/
namespace Go.Proofs.Ytinnfcjkgddfeaa
set_option linter.unusedVariables false
set_option linter.unusedSimpArgs false
open Go.RowKit

theorem bjLen (zss : List (List Int)) (T : List (Nat × Nat)) : (bjL zss T).length = T.length := by simp [bjL]
theorem bjTake (zss : List (List Int)) (T : List (Nat × Nat)) {i : Nat} (h : i < T.length) : (bjL zss T).take i ++ [lastP zss (T.getD i (0, 0))] = (bjL zss T).take (i + 1) := by
  unfold bjL
  rw [List.take_add_one, List.getElem?_map, List.getElem?_eq_getElem h, List.getD_eq_getElem?_getD, List.getElem?_eq_getElem h]
  rfl

set_option maxHeartbeats 4000000 in
theorem bjTurn_any (v : Value) (s : List Int) (w : World) (hv : Sl .u8 w v s) (h8 : Bytes8 s) (hs : s.length ≤ 100000) :
    Calls Try.prog 8 #[v] w fun e w' => ∃ l r, e = .returned (.tuple #[r, .int .i64 0]) ∧ IsTurn s l ∧ Own .u8 5 w.heap.size w' r l ∧ Ext w w' := by
  have CF := hide' (bjFactors_any v s w hv hs)
  have HIT : Hid (∀ T, Turned (facW s) T → IsTurn s (bjL (facW s) T)) := fun T hT => ⟨T, hT, rfl⟩
  have HWL : Hid ((facW s).length ≤ 100000) := Nat.le_trans (facW_len s) hs
  have HOFF : Hid (offP (facW s) (facW s).length ≤ 100000) := by show _ ≤ _; rw [facW_off]; exact hs
  have H8 : Hid (∀ zs ∈ facW s, Bytes8 zs) := fun zs hz z h => h8 z (by rw [← (facW_flat s.length s (Nat.le_refl _)).1]; exact List.mem_flatten.2 ⟨zs, hz, h⟩)
  obtain ⟨va, vc, rfl, _⟩ := hv
  obtain ⟨N, HN⟩ : ∃ n, Hid (s.length = n) := ⟨_, rfl⟩
  have d1 : decide ((100000 : Int) < (s.length : Int)) = false := by simp; omega
  obtain ⟨zss, HZ⟩ : ∃ z, Hid (facW s = z) := ⟨_, rfl⟩
  rw [HZ.out] at CF HIT HWL HOFF H8
  rw [HN.out] at CF hs d1 ⊢
  have HLP : Hid ((listP zss).length ≤ 100000) := HOFF.out
  have HW : Hid (∀ k, k < zss.length → (wordAt zss k).length ≤ 100000) := fun k hk => by
    have h1 := offP_succ zss k
    have h2 := offP_mono zss (show k + 1 ≤ zss.length by omega)
    have h3 := HOFF.out
    omega
  clear h8
  go_enter Try.func8, Try.ntmps8
  go_wp2_with fail
  refine CF.out.mono ?_
  rintro e w1 ⟨ws, rfl, hz, he⟩
  have HS1 := hide' hz
  have X1 := hide' he
  obtain ⟨sa, sc, rfl, _⟩ := id hz
  obtain ⟨n, HNN⟩ : ∃ n, Hid (zss.length = n) := ⟨_, rfl⟩
  rw [HNN.out] at HS1 HW ⊢
  obtain ⟨w2, hmk, ho2, he2⟩ := make_room8 w1 N (by omega)
  have O2 := hide' ho2
  have X2 := hide' (X1.out.trans he2)
  have Y2 := hide' he2
  have HS2 := hide' (HS1.out.ext he2)
  have hsz1 := X1.out.size
  clear hz he ho2 he2 CF
  go_wp2_with fail
  clear hmk
  refine (turnsOp_any _ zss w2 HS2.out H8.out HWL.out HOFF.out).mono ?_
  rintro e w3 ⟨ts, T, rfl, hp, hq, ho, he⟩
  have HT : Hid (Turned zss T) := ⟨hp, hq⟩
  have P3 := hide' ho
  have X3 := hide' (X2.out.trans he)
  have Y3 := hide' (Y2.out.trans he)
  have O3 := hide' (O2.out.ext he)
  have hm : T.length ≤ 100000 := by rw [hp.length_eq]; exact HLP.out
  obtain ⟨ta, tc, rfl, _⟩ := id ho.sl
  obtain ⟨m, HM⟩ : ∃ m, Hid (T.length = m) := ⟨_, rfl⟩
  rw [HM.out] at hm P3 ⊢
  have HSTEP : Hid (∀ i, i < m → (bjL zss T).take i ++ [lastP zss (T.getD i (0, 0))] = (bjL zss T).take (i + 1)) := fun i hi => bjTake zss T (by rw [HM.out]; exact hi)
  have HIN : Hid (∀ i, i < m → (T.getD i (0, 0)).1 < n ∧ (T.getD i (0, 0)).2 < (wordAt zss (T.getD i (0, 0)).1).length) := fun i hi => by
    have := HT.out.mem (getP_mem (i := i) (by rw [HM.out]; exact hi))
    rwa [HNN.out] at this
  have HBL : Hid ((bjL zss T).length = m) := by show _ = _; rw [bjLen, HM.out]
  have HI3 := hide' (HIT.out T HT.out)
  obtain ⟨B, HB⟩ : ∃ B, Hid (bjL zss T = B) := ⟨_, rfl⟩
  rw [HB.out] at HSTEP HBL HI3
  obtain ⟨b2, HB2⟩ : ∃ b, Hid (w2.heap.size = b) := ⟨_, rfl⟩
  rw [HB2.out] at P3
  clear hp hq ho he HIT O2 X2 Y2 HS2 H8
  go_wp2
  obtain ⟨g1, HG1⟩ : ∃ g, Hid (w1.heap.size = g) := ⟨_, rfl⟩
  rw [HG1.out] at O3 ⊢
  rw [HG1.out] at hsz1
  go_loopw [5, 19] (fun vo vi wr => ∃ (i : Nat), i ≤ m ∧ vi = .int .i64 i ∧ Hid (Own .u8 5 g1 wr vo (B.take i)) ∧ Hid (OwnP b2 wr (.slice ta m tc) T) ∧ Hid (Ext w1 wr)) (fun _ vi _ => m - (intOf vi).toNat)
  case atStart => exact ⟨0, Nat.zero_le _, rfl, O3, P3, Y3⟩
  case round =>
    clear O3 P3 Y3
    obtain ⟨i, hi, rfl, HO, HP, HE⟩ := hrel
    by_cases hlt : i < m
    · have hlt' : (i : Int) < m := by omega
      obtain ⟨_, _, _, hcp⟩ := HP.out.sl.at
      obtain ⟨pg, poff, rfl, pcell⟩ := hcp (by omega)
      obtain ⟨p1, p2⟩ := pcell i hlt
      obtain ⟨b1, b2'⟩ := HIN.out i hlt
      have HST := hide' (HSTEP.out i hlt)
      have HLA : Hid (lastP zss (T.getD i (0, 0)) = (wordAt zss (T.getD i (0, 0)).1).getD (((T.getD i (0, 0)).2 + (wordAt zss (T.getD i (0, 0)).1).length - 1) % (wordAt zss (T.getD i (0, 0)).1).length) 0) := rfl
      rw [HLA.out] at HST
      obtain ⟨x, HX⟩ : ∃ x, Hid ((T.getD i (0, 0)).1 = x) := ⟨_, rfl⟩
      obtain ⟨y, HY⟩ : ∃ y, Hid ((T.getD i (0, 0)).2 = y) := ⟨_, rfl⟩
      rw [HX.out] at p1 b1 b2' HST
      rw [HY.out] at p2 b2' HST
      clear hcp pcell HLA HX HY
      go_wp2_with fail
      have v0 : (wr.alloc (Obj.cells #[Value.int IntKind.i64 (x : Int), Value.int IntKind.i64 (y : Int)] 35)).cell? ⟨wr.heap.size, 0, none⟩ = some (.int .i64 (x : Int)) := by simp only [World.cell?, heap_alloc_top]; rfl
      have v1 : (wr.alloc (Obj.cells #[Value.int IntKind.i64 (x : Int), Value.int IntKind.i64 (y : Int)] 35)).cell? ⟨wr.heap.size, 1, none⟩ = some (.int .i64 (y : Int)) := by simp only [World.cell?, heap_alloc_top]; rfl
      have HO1 := hide' (HO.out.ext (ext_alloc wr (Obj.cells #[Value.int IntKind.i64 (x : Int), Value.int IntKind.i64 (y : Int)] 35)))
      have HP1 := hide' ((show OwnP _ _ _ _ from HP.out).ext (ext_alloc wr (Obj.cells #[Value.int IntKind.i64 (x : Int), Value.int IntKind.i64 (y : Int)] 35)))
      have HE1 := hide' (HE.out.trans (ext_alloc wr (Obj.cells #[Value.int IntKind.i64 (x : Int), Value.int IntKind.i64 (y : Int)] 35)))
      generalize wr.alloc (Obj.cells #[Value.int IntKind.i64 (x : Int), Value.int IntKind.i64 (y : Int)] 35) = W at *
      generalize wr.heap.size = h at *
      obtain ⟨wg, woff, a2, c2, rfl, hwc, _, _, hws⟩ := (HS1.out.ext HE1.out).word (k := x) (by rw [HNN.out]; exact b1)
      have hwl := HW.out x b1
      obtain ⟨WW, HWW⟩ : ∃ W, Hid (wordAt zss x = W) := ⟨_, rfl⟩
      rw [HWW.out] at hwc hws b2' HST hwl
      have SW := hide' hws
      have HYL := hide' b2'
      obtain ⟨L, HL⟩ : ∃ L, Hid (WW.length = L) := ⟨_, rfl⟩
      rw [HL.out] at hwc SW
      obtain ⟨z, HZ2⟩ : ∃ z, Hid (WW.getD ((y + WW.length - 1) % WW.length) 0 = z) := ⟨_, rfl⟩
      rw [HZ2.out] at HST
      have CL : Hid (∀ w', Ext W w' → Calls Try.prog 16 #[.slice a2 L c2, .int .i64 (y : Int)] w' fun e w'' => e = .returned (.int .u8 z) ∧ Ext w' w'') := fun w' he =>
        (bjLastB_any _ WW y w' (SW.out.ext he) HYL.out (by omega)).mono fun e w'' ⟨h1, q, h2⟩ => ⟨by rw [h1, HZ2.out], by rw [h2]; exact Ext.drewN _ _⟩
      have l1 := later_cell v0
      have l2 := later_cell v1
      have l3 := later_cell hwc
      have b1' : (x : Int) < n := by omega
      have HTL : Hid ((B.take i).length ≤ 100000) := by show _ ≤ _; rw [List.length_take]; omega
      obtain ⟨Q, HQ⟩ : ∃ Q, Hid (B.take i = Q) := ⟨_, rfl⟩
      rw [HQ.out] at HST HTL HO1
      clear hws b2' hwl p1 p2 HO HP HE v0 v1 hwc
      go_wp2_with fail
      refine wp_region_kt (fun _ _ v _ => v = .int .u8 z) 10 (by kernel_rfl) (by kernel_rfl) (by kernel_rfl) ?_
      have hne := later_some W
      simp only [List.take_succ_cons, List.take_zero, List.drop_succ_cons, List.drop_zero]
      refine lexK_take 8 (by kernel_rfl) ?_
      simp only [List.take_succ_cons, List.take_zero, List.drop_succ_cons, List.drop_zero]
      repeat (go_big_quiet_step (fail))
      refine wpQuiet_nil ?_
      refine lexK_call1 16 #[.slice a2 L c2, .int .i64 (y : Int)] (.int .u8 z) (fun _ _ => Iff.rfl) rfl (fun w' => ?_) (fun w' he _ => CL.out w' he) ?_
      · go_simp
      simp only [Act.put, List.setIfInBounds_toArray, List.set_cons_succ, List.set_cons_zero]
      refine lexK_some (fun u w' => ∃ g, u = .slice (some ⟨g, 0, none⟩) 1 1 ∧ w'.cell? ⟨g, 0, none⟩ = some (.int .u8 z)) (fun u w1' w2' h12 h => ?_) rfl (fun w1' he1 _ => ?_) ?_
      · obtain ⟨g, h1, h2⟩ := h
        exact ⟨g, h1, h12.cellOf h2⟩
      · exact ⟨.slice (some ⟨w1'.heap.size, 0, none⟩) 1 1, w1'.alloc (.cells #[.int .u8 z] 5), by kernel_rfl, ext_alloc _ _, _, rfl, by simp only [World.cell?, heap_alloc_top]; simp⟩
      intro u2 w5 he1 _ hu2
      clear he1 hu2
      simp only [Act.put, List.setIfInBounds_toArray, List.set_cons_succ, List.set_cons_zero]
      refine lexK_nil ?_
      intro w5 he1 hf1
      obtain ⟨g2, hg2, hc2⟩ := (hf1 32).2 rfl
      subst hg2
      have HO2 := hide' (HO1.out.ext he1)
      have HP2 := hide' ((show OwnP _ _ _ _ from HP1.out).ext he1)
      have HE2 := hide' (HE1.out.trans he1)
      have hsz2 : g1 ≤ w5.heap.size := by have := HE2.out.size; rw [HG1.out] at this; exact this
      clear hne l1 l2 l3 he1 HO1 HP1 HE1 hf1 CL
      go_wp2_with (at_builtin; refine wpList_snocG _ rfl _ _ 22 rfl 5 .u8 1 Try.underlying22 infoU8 g1 _ Q z ⟨g2, 0, none⟩ rfl rfl hc2 HO2.out ?c3 hsz2 ?_)
      case c3 => have := HTL.out; unfold maxLen; omega
      intro v2 w6 ho2 hb2
      have HO3 : Hid (Own .u8 5 g1 w6 v2 (B.take (i + 1))) := by rw [← HST.out]; exact ho2
      have HP3 : Hid (OwnP b2 w6 (.slice (some ⟨pg, poff, none⟩) m tc) T) := by
        have := owns_other HO2.out HP2.out (by decide) hb2
        exact this
      have HE3 : Hid (Ext w1 w6) := Below.trans HE2.out ((Below.refl _ _).grown hb2 HE2.out.size (fun k hk => by have := (World.ownsRow.lt HO2.out k hk).1; rw [HG1.out]; exact this))
      clear ho2 hb2
      go_wp2
      go_roundw
      case rel => exact ⟨i + 1, by omega, by go_num, HO3, HP3, HE3⟩
      case measure => simp [intOf]; omega
    · have hlt' : decide ((i : Int) < m) = false := by simp; omega
      have HO9 : Hid (Own .u8 5 w.heap.size wr u5 B) := by
        have := HO.out
        rw [List.take_of_length_le (by rw [HBL.out]; omega)] at this
        exact this.low hsz1
      have HX9 := hide' (X1.out.trans HE.out)
      go_wp2
      go_ret2
      exact ⟨B, _, rfl, HI3.out, HO9.out, HX9.out⟩
theorem bjTurn_long (v : Value) (s : List Int) (w : World) (hv : Sl .u8 w v s) (hs : 100000 < s.length) :
    Calls Try.prog 8 #[v] w fun e w' => e = .returned (.tuple #[.slice none 0 0, .int .i64 2]) ∧ Ext w w' := by
  obtain ⟨va, vc, rfl, _⟩ := hv
  have d1 : (100000 : Int) < (s.length : Int) := by omega
  clear hs
  go_enter Try.func8, Try.ntmps8
  go_wp2
  go_ret2
  exact ⟨rfl, Ext.refl _⟩
end Go.Proofs.Ytinnfcjkgddfeaa

/- Rows of slices of ints as rows of values ([][]int): read, owned, appended to (Vals, over ints). -/
namespace Go.Proofs.Ytinnfcjkgddfeaa
set_option linter.unusedVariables false
set_option linter.unusedSimpArgs false
open Go.RowKit

/-- A row of values that may be read. -/
def SlVI (w : World) (v : Value) (vs : List Value) : Prop :=
  ∃ a c, v = .slice a vs.length c ∧ vs.length ≤ c ∧ c ≤ maxLen ∧ (a = none → c = 0) ∧ (vs = [] ∨ ∃ b off, a = some ⟨b, off, none⟩ ∧ ∀ i u, vs[i]? = some u → w.cell? ⟨b, off + i, none⟩ = some u)
/-- What they read as. -/
def ReadI (w : World) (vs : List Value) (zss : List (List Int)) : Prop := vs.length = zss.length ∧ ∀ i u, vs[i]? = some u → Sl .i64 w u (zss.getD i [])
/-- Each the call's own. -/
def RowsI (B : Nat) (w : World) (vs : List Value) (zss : List (List Int)) : Prop := vs.length = zss.length ∧ ∀ i u, vs[i]? = some u → Own .i64 3 B w u (zss.getD i [])
/-- The row itself the call's own. -/
def OwnVI (B : Nat) (w : World) (s : Value) (vs : List Value) : Prop := w.ownsRow B 37 1 s vs.length vs

theorem SlVI.ext {w w' : World} {v : Value} {vs : List Value} (h : SlVI w v vs) (he : Ext w w') : SlVI w' v vs := by
  obtain ⟨a, c, h1, h2, h3, h0, h4⟩ := h
  refine ⟨a, c, h1, h2, h3, h0, ?_⟩
  rcases h4 with h4 | ⟨b, off, h4, h5⟩
  · exact .inl h4
  · exact .inr ⟨b, off, h4, fun j v hj => he.cellOf (h5 j v hj)⟩
theorem ReadI.ext {w w' : World} {vs : List Value} {zss : List (List Int)} (h : ReadI w vs zss) (he : Ext w w') : ReadI w' vs zss := ⟨h.1, fun i u hu => (h.2 i u hu).ext he⟩
theorem RowsI.ext {B : Nat} {w w' : World} {vs : List Value} {zss : List (List Int)} (h : RowsI B w vs zss) (he : Ext w w') : RowsI B w' vs zss := ⟨h.1, fun i u hu => (h.2 i u hu).ext he⟩
theorem RowsI.low {B B' : Nat} {w : World} {vs : List Value} {zss : List (List Int)} (h : RowsI B w vs zss) (hB : B' ≤ B) : RowsI B' w vs zss := ⟨h.1, fun i u hu => (h.2 i u hu).low hB⟩
theorem RowsI.read {B : Nat} {w : World} {vs : List Value} {zss : List (List Int)} (h : RowsI B w vs zss) : ReadI w vs zss := ⟨h.1, fun i u hu => (h.2 i u hu).sl⟩
theorem OwnVI.ext {B : Nat} {w w' : World} {s : Value} {vs : List Value} (h : OwnVI B w s vs) (he : Ext w w') : OwnVI B w' s vs :=
  World.ownsRow.kept (row := none) h ⟨he.os, he.tape, he.output, he.size, fun i hi _ => he.block i hi⟩ (by cases hv : s.ownBlock <;> simp)
theorem OwnVI.low {B B' : Nat} {w : World} {s : Value} {vs : List Value} (h : OwnVI B w s vs) (hB : B' ≤ B) : OwnVI B' w s vs := by
  obtain ⟨h1, h2⟩ := h
  refine ⟨h1, ?_⟩
  rcases h2 with h2 | ⟨g, cap, cur, h2, h3, h4⟩
  · exact .inl h2
  · exact .inr ⟨g, cap, cur, h2, Nat.le_trans hB h3, h4⟩
theorem OwnVI.nil (B : Nat) (w : World) : OwnVI B w (.slice none 0 0) [] := World.ownsRow_nil _ _ _ _
theorem OwnVI.sl {B : Nat} {w : World} {s : Value} {vs : List Value} (h : OwnVI B w s vs) : SlVI w s vs := by
  rcases h.2 with ⟨rfl, h2⟩ | ⟨g, cap, cur, rfl, _, hh, hn, hm, hs, ht⟩
  · exact ⟨none, 0, by rw [h2], by omega, by simp [maxLen], fun _ => rfl, .inl (List.length_eq_zero_iff.1 h2)⟩
  · refine ⟨_, cap, rfl, hn, hm, (fun h => by cases h), .inr ⟨g, 0, rfl, fun j v hj => ?_⟩⟩
    have := World.ownsRow.cells h (g := g) rfl j v hj
    rwa [Addr.add_mid] at this
/-- An empty row just laid. -/
theorem OwnVI.lit (B : Nat) (w : World) (hB : B ≤ w.heap.size) (g : Nat) (hg : g = w.heap.size) : OwnVI B (w.alloc (.cells #[] 37)) (.slice (some ⟨g, 0, none⟩) 0 0) [] := by
  subst hg
  exact World.ownsRow_made w #[] 0 hB (by simp) (by simp)
theorem Sl.cell1I {k : IntKind} {w : World} {v : Value} {zs : List Int} (h : Sl k w v zs) : v.oneCell' = true := by
  obtain ⟨a, c, rfl, _⟩ := h
  rfl
theorem ReadI.one {w : World} {vs : List Value} {zss : List (List Int)} (h : ReadI w vs zss) : ∀ u ∈ vs, u.oneCell' = true := fun u hu => by
  obtain ⟨i, hi, e⟩ := List.mem_iff_getElem.1 hu
  exact (h.2 i u (by rw [List.getElem?_eq_getElem hi, e])).cell1I
theorem ReadI.nil (w : World) : ReadI w [] [] := ⟨rfl, fun i u h => by simp at h⟩
theorem RowsI.nil (B : Nat) (w : World) : RowsI B w [] [] := ⟨rfl, fun i u h => by simp at h⟩
theorem getDI_app_left {α : Type} {x y : List α} {i : Nat} {d : α} (h : i < x.length) : (x ++ y).getD i d = x.getD i d := by simp only [List.getD_eq_getElem?_getD]; rw [List.getElem?_append_left h]
theorem getDI_app_right {α : Type} {x y : List α} {i : Nat} {d : α} (h : x.length ≤ i) : (x ++ y).getD i d = y.getD (i - x.length) d := by simp only [List.getD_eq_getElem?_getD]; rw [List.getElem?_append_right h]
theorem ltI_of_some {α : Type} {l : List α} {i : Nat} {u : α} (h : l[i]? = some u) : i < l.length := (List.getElem?_eq_some_iff.1 h).1
theorem ReadI.app {w : World} {vs us : List Value} {zss yss : List (List Int)} (h : ReadI w vs zss) (k : ReadI w us yss) : ReadI w (vs ++ us) (zss ++ yss) := by
  refine ⟨by rw [List.length_append, List.length_append, h.1, k.1], fun i u hu => ?_⟩
  by_cases hi : i < vs.length
  · rw [List.getElem?_append_left hi] at hu
    rw [getDI_app_left (by rw [← h.1]; exact hi)]
    exact h.2 i u hu
  · rw [List.getElem?_append_right (by omega)] at hu
    rw [getDI_app_right (by rw [← h.1]; omega), ← h.1]
    exact k.2 _ u hu
theorem ReadI.single {w : World} {u : Value} {zs : List Int} (h : Sl .i64 w u zs) : ReadI w [u] [zs] := ⟨rfl, fun i v hv => by
  have := ltI_of_some hv
  simp at this
  subst this
  simp at hv
  subst hv
  exact h⟩
theorem RowsI.app {B : Nat} {w : World} {vs us : List Value} {zss yss : List (List Int)} (h : RowsI B w vs zss) (k : RowsI B w us yss) : RowsI B w (vs ++ us) (zss ++ yss) := by
  refine ⟨by rw [List.length_append, List.length_append, h.1, k.1], fun i u hu => ?_⟩
  by_cases hi : i < vs.length
  · rw [List.getElem?_append_left hi] at hu
    rw [getDI_app_left (by rw [← h.1]; exact hi)]
    exact h.2 i u hu
  · rw [List.getElem?_append_right (by omega)] at hu
    rw [getDI_app_right (by rw [← h.1]; omega), ← h.1]
    exact k.2 _ u hu
theorem RowsI.single {B : Nat} {w : World} {u : Value} {zs : List Int} (h : Own .i64 3 B w u zs) : RowsI B w [u] [zs] := ⟨rfl, fun i v hv => by
  have := ltI_of_some hv
  simp at this
  subst this
  simp at hv
  subst hv
  exact h⟩
theorem RowsI.take {B : Nat} {w : World} {vs : List Value} {zss : List (List Int)} (h : RowsI B w vs zss) (n : Nat) : RowsI B w (vs.take n) (zss.take n) := by
  refine ⟨by rw [List.length_take, List.length_take, h.1], fun i u hu => ?_⟩
  rw [List.getElem?_take] at hu
  split at hu
  · rename_i hi
    rw [List.getD_eq_getElem?_getD, List.getElem?_take, if_pos hi, ← List.getD_eq_getElem?_getD]
    exact h.2 i u hu
  · cases hu
theorem RowsI.drop {B : Nat} {w : World} {vs : List Value} {zss : List (List Int)} (h : RowsI B w vs zss) (n : Nat) : RowsI B w (vs.drop n) (zss.drop n) := by
  refine ⟨by rw [List.length_drop, List.length_drop, h.1], fun i u hu => ?_⟩
  rw [List.getElem?_drop] at hu
  rw [List.getD_eq_getElem?_getD, List.getElem?_drop, ← List.getD_eq_getElem?_getD]
  exact h.2 _ u hu

/-- A block has one type: a row of another type stays. -/
theorem ownsI_other {e e' : TypeId} {B B' n m sz sz' : Nat} {w w' : World} {v x : Value} {xs ys : List Value} (hv : w.ownsRow B e sz v n xs) (hx : w.ownsRow B' e' sz' x m ys) (he : e ≠ e') (hg : w.grownBy w' v.ownBlock) : w'.ownsRow B' e' sz' x m ys := by
  refine World.ownsRow.kept (row := v.ownBlock) hx hg ?_
  rcases hx.2 with ⟨h, _⟩ | ⟨g, cap, cur, h, _, hb, _⟩
  · rw [h]; exact .inl rfl
  · refine .inr fun e1 => ?_
    rcases hv.2 with ⟨h', _⟩ | ⟨g', cap', cur', h', _, hb', _⟩
    · rw [h, h'] at e1; simp [Value.ownBlock] at e1
    · rw [h, h'] at e1
      simp only [Value.ownBlock, Option.some.injEq] at e1
      subst e1
      rw [hb] at hb'
      cases hb'
      exact he rfl
theorem ownsI_grown {e : TypeId} {B n sz : Nat} {w w' : World} {v : Value} {xs : List Value} (h : w.ownsRow B e sz v n xs) (hB : B ≤ w.heap.size) (hg : w.grownBy w' v.ownBlock) : Below B w w' :=
  (Below.refl _ _).grown hg hB (fun k hk => (World.ownsRow.lt h k hk).1)
theorem RowsI.other {B B' : Nat} {w w' : World} {s : Value} {vs us : List Value} {zss : List (List Int)} (h : RowsI B w us zss) (hv : OwnVI B' w s vs) (hg : w.grownBy w' s.ownBlock) : RowsI B w' us zss :=
  ⟨h.1, fun i u hu => ownsI_other hv (h.2 i u hu) (by decide) hg⟩

theorem infoVI : (Try.prog.info? 37).map (fun i => (i.zero, i.size, i.bytes)) = some (some (.slice none 0 0), 1, 24) := by kernel_rfl
theorem info_partsVI {P : Program} {e : TypeId} {z : Value} {n b : Nat} (h : (P.info? e).map (fun i => (i.zero, i.size, i.bytes)) = some (some z, n, b)) : ∃ i, P.info? e = some i ∧ i.zero = some z ∧ i.size = n ∧ i.bytes = b := by
  cases hi : P.info? e with
  | none => simp [hi] at h
  | some i =>
    simp only [hi, Option.map_some, Option.some.injEq, Prod.mk.injEq] at h
    exact ⟨i, rfl, h.1, h.2.1, h.2.2⟩

/-- 'append(s, x)' -/
theorem wpList_snocVI (w : World) {ops : Array Oper} {rest : List Oper} {o : Oper} {a : Act} {Q : Exit → Act → World → Prop} (hgd : o.guard = none) (s x : Operand)
    (ho : o.op = .call { callee := .builtin .append, args := #[s, x], argTypes := #[40, 40] }) (B : Nat) (v : Value) (vs : List Value) (u : Value) (g : Nat) (hs : a.eval s = v) (hx : a.eval x = .slice (some ⟨g, 0, none⟩) 1 1)
    (hc : w.cell? ⟨g, 0, none⟩ = some u) (h1 : u.oneCell' = true) (hown : OwnVI B w v vs) (hlen : vs.length + 1 ≤ 1000000) (hB : B ≤ w.heap.size)
    (h : ∀ v' w', OwnVI B w' v' (vs ++ [u]) → w.grownBy w' v.ownBlock → wpList Try.prog ops Q rest (a.put o.dst v') w') : wpList Try.prog ops Q (o :: rest) a w := by
  obtain ⟨i0, hi, hz0, hz1, hz2⟩ := info_partsVI infoVI
  refine wpList_append_own w hgd s x 40 ho B 37 i0 (.slice none 0 0) 1 24 Try.underlying40 hi hz0 hz1 hz2 rfl (by decide) v _ _ hs hown ⟨g, 0, none⟩ 1 1 [u] hx rfl ?_ (by simpa using h1) (by unfold maxLen; omega) (by omega) hB ?_
  · intro j u' hj
    rw [Addr.add_mid, Nat.zero_add]
    match j, hj with
    | 0, hj => simp at hj; subst hj; exact hc
  · intro v' w' k1 k2 _
    refine h v' w' ?_ k2
    unfold OwnVI
    rw [List.length_append]
    exact k1

/-- 'append(s, xs...)' -/
theorem wpList_joinVI (w : World) {ops : Array Oper} {rest : List Oper} {o : Oper} {a : Act} {Q : Exit → Act → World → Prop} (hgd : o.guard = none) (s x : Operand)
    (ho : o.op = .call { callee := .builtin .append, args := #[s, x], argTypes := #[40, 40] }) (B : Nat) (v y : Value) (vs us : List Value) (hs : a.eval s = v) (hx : a.eval x = y)
    (hsl : SlVI w y us) (h1 : ∀ u ∈ us, u.oneCell' = true) (hown : OwnVI B w v vs) (hlen : vs.length + us.length ≤ 1000000) (hB : B ≤ w.heap.size)
    (h : ∀ v' w', OwnVI B w' v' (vs ++ us) → w.grownBy w' v.ownBlock → wpList Try.prog ops Q rest (a.put o.dst v') w') : wpList Try.prog ops Q (o :: rest) a w := by
  obtain ⟨i0, hi, hz0, hz1, hz2⟩ := info_partsVI infoVI
  obtain ⟨ad, c, rfl, h2, h3, h0, h4⟩ := hsl
  cases ad with
  | none =>
    have hc := h0 rfl
    subst hc
    have hy : us = [] := List.length_eq_zero_iff.1 (by omega)
    subst hy
    refine wpList_append_own_none hgd s x 40 ho B 37 i0 1 Try.underlying40 hi v _ _ hs hown hx ?_
    refine h v w ?_ ⟨rfl, rfl, rfl, Nat.le_refl _, fun _ _ _ => rfl⟩
    rw [List.append_nil]; exact hown
  | some ad =>
    refine wpList_append_own w hgd s x 40 ho B 37 i0 (.slice none 0 0) 1 24 Try.underlying40 hi hz0 hz1 hz2 rfl (by decide) v _ _ hs hown ad us.length c us hx (by simp) ?_ h1 (by unfold maxLen; omega) (by omega) hB (fun v' w' k1 k2 _ => h v' w' (by unfold OwnVI; rw [List.length_append]; exact k1) k2)
    intro j u hj
    rcases h4 with rfl | ⟨b, off, hb, h5⟩
    · simp at hj
    · simp only [Option.some.injEq] at hb
      subst hb
      rw [Go.WideShapes.add_plain]
      exact h5 j u hj
theorem SlVI.row {w : World} {a : Option Addr} {n c : Nat} {vs : List Value} {zss : List (List Int)} (h : SlVI w (.slice a n c) vs) (hr : ReadI w vs zss) {k : Nat} (hk : k < zss.length) :
    ∃ g off u, a = some ⟨g, off, .none⟩ ∧ w.cell? ⟨g, off + k, .none⟩ = some u ∧ Sl .i64 w u (zss.getD k []) := by
  obtain ⟨a', c', hv, _, _, _, h4⟩ := h
  simp only [Value.slice.injEq] at hv
  obtain ⟨rfl, _, rfl⟩ := hv
  have hk' : k < vs.length := by rw [hr.1]; exact hk
  rcases h4 with h4 | ⟨g, off, rfl, h5⟩
  · rw [h4] at hk'; exact absurd hk' (by simp)
  exact ⟨g, off, vs[k], rfl, h5 k _ (List.getElem?_eq_getElem hk'), hr.2 k _ (List.getElem?_eq_getElem hk')⟩
end Go.Proofs.Ytinnfcjkgddfeaa

/- Rows of truths that a call owns: made, read, stored to. No conditions. -/
namespace Go.Proofs.Ytinnfcjkgddfeaa
set_option linter.unusedVariables false
set_option linter.unusedSimpArgs false
open Go.RowKit

theorem infoB : (Try.prog.info? 4).map (fun i => (i.zero, i.size, i.bytes)) = some (some (.bool false), 1, 1) := by kernel_rfl

/-- The call's own row of truths. -/
def OwnB (B : Nat) (w : World) (s : Value) (bs : List Bool) : Prop := w.ownsRow B 4 1 s bs.length (bs.map Value.bool)

theorem make_bools (w : World) (n : Nat) (hn : n ≤ 4000000) : ∃ w', (Instr.makeSlice 48 (.int .i64 (n : Int)) (.int .i64 (n : Int))).run Try.prog w = .ok (.slice (some ⟨w.heap.size, 0, none⟩) n n) w' ∧ OwnB w.heap.size w' (.slice (some ⟨w.heap.size, 0, none⟩) n n) (List.replicate n false) ∧ Ext w w' := by
  obtain ⟨i0, hi, hz0, hz1, hz2⟩ := info_parts infoB
  obtain ⟨w', h1, h2, h3⟩ := run_make_full (P := Try.prog) w w.heap.size 48 4 i0 (.bool false) 1 Try.underlying48 hi hz0 hz1 .i64 .i64 n (by rw [hz2]; omega) (by unfold maxLen; omega) (Nat.le_refl _)
  refine ⟨w', h1, ?_, ⟨h3.os, h3.tape, h3.output, h3.size, fun k hk => h3.block k hk (by simp)⟩⟩
  unfold OwnB
  have e1 : (Value.bool false).cells = #[Value.bool false] := rfl
  rw [e1, Nat.mul_one, toList_madeCells_one] at h2
  rw [List.length_replicate, List.map_replicate]
  exact h2

theorem OwnB.cell {B : Nat} {w : World} {g n cap : Nat} {bs : List Bool} (h : OwnB B w (.slice (some ⟨g, 0, none⟩) n cap) bs) (hn : bs.length = n) (j : Nat) (hj : j < n) : w.cell? ⟨g, j, none⟩ = some (.bool (bs.getD j false)) := by
  subst hn
  have := World.ownsRow.cellAt h j (by simpa using hj)
  rw [this]
  simp [List.getD, List.getElem?_eq_getElem hj]
theorem OwnB.frozen {B : Nat} {w : World} {g n cap : Nat} {bs : List Bool} (h : OwnB B w (.slice (some ⟨g, 0, none⟩) n cap) bs) (hn : bs.length = n) (j : Nat) : w.frozen? ⟨g, j, none⟩ = false := by
  subst hn
  exact World.ownsRow.frozenAt h j
theorem OwnB.store {B : Nat} {w : World} {g n cap : Nat} {bs : List Bool} (h : OwnB B w (.slice (some ⟨g, 0, none⟩) n cap) bs) (hn : bs.length = n) (j : Nat) (b : Bool) :
    OwnB B (w.setCell ⟨g, j, none⟩ (.bool b)) (.slice (some ⟨g, 0, none⟩) n cap) (bs.set j b) := by
  subst hn
  have := (World.ownsRow.stored h j (.bool b)).1
  unfold OwnB
  rw [List.length_set, List.map_set]
  exact this
theorem OwnB.ext {B : Nat} {w w' : World} {s : Value} {bs : List Bool} (h : OwnB B w s bs) (he : Ext w w') : OwnB B w' s bs :=
  World.ownsRow.kept (row := none) h ⟨he.os, he.tape, he.output, he.size, fun i hi _ => he.block i hi⟩ (by cases hv : s.ownBlock <;> simp)
/-- A row of truths that may be read. -/
def SlB (w : World) (v : Value) (bs : List Bool) : Prop :=
  ∃ a c, v = .slice a bs.length c ∧ bs.length ≤ c ∧ c ≤ maxLen ∧ (bs = [] ∨ ∃ b off, a = some ⟨b, off, none⟩ ∧ ∀ i, i < bs.length → w.cell? ⟨b, off + i, none⟩ = some (.bool (bs.getD i false)))

theorem SlB.ext {w w' : World} {v : Value} {bs : List Bool} (h : SlB w v bs) (he : Ext w w') : SlB w' v bs := by
  obtain ⟨a, c, h1, h2, h3, h4⟩ := h
  refine ⟨a, c, h1, h2, h3, ?_⟩
  rcases h4 with h4 | ⟨b, off, h4, h5⟩
  · exact .inl h4
  · exact .inr ⟨b, off, h4, fun i hi => he.cellOf (h5 i hi)⟩

theorem OwnB.sl {B : Nat} {w : World} {s : Value} {bs : List Bool} (h : OwnB B w s bs) : SlB w s bs := by
  obtain ⟨h1, h2⟩ := h
  rcases h2 with ⟨rfl, h2⟩ | ⟨g, cap, cur, rfl, _, hh, hn, hm, hs, ht⟩
  · exact ⟨none, 0, by rw [h2], by omega, by simp [maxLen], .inl (List.length_eq_zero_iff.1 h2)⟩
  · refine ⟨_, cap, rfl, hn, hm, .inr ⟨g, 0, rfl, fun i hi => ?_⟩⟩
    have : w.cell? ⟨g, 0 + i, none⟩ = cur[i]? := by simp [World.cell?, hh]
    rw [this]
    have h5 : cur.toList[i]? = (bs.map Value.bool)[i]? := by
      rw [← ht, List.getElem?_take, if_pos (by simpa using hi)]
    have h6 : cur[i]? = cur.toList[i]? := by simp
    rw [h6, h5]
    simp [List.getD, List.getElem?_eq_getElem hi]

theorem SlB.truth {w : World} {a : Option Addr} {n c : Nat} {bs : List Bool} (h : SlB w (.slice a n c) bs) : bs.length = n ∧ n ≤ c ∧ c ≤ maxLen ∧ (0 < n → ∃ g off, a = some ⟨g, off, none⟩ ∧ ∀ i, i < n → w.cell? ⟨g, off + i, none⟩ = some (.bool (bs.getD i false))) := by
  obtain ⟨a', c', h1, h2, h3, h4⟩ := h
  simp only [Value.slice.injEq] at h1
  obtain ⟨rfl, rfl, rfl⟩ := h1
  refine ⟨rfl, h2, h3, fun h0 => ?_⟩
  rcases h4 with h4 | ⟨b, off, h4, h5⟩
  · rw [h4] at h0; simp at h0
  · exact ⟨b, off, h4, h5⟩

theorem OwnB.nil (B : Nat) (w : World) : OwnB B w (.slice none 0 0) [] := World.ownsRow_nil _ _ _ _
theorem OwnB.alloc {B : Nat} {w : World} {s : Value} {bs : List Bool} (h : OwnB B w s bs) (o : Obj) : OwnB B (w.alloc o) s bs := World.ownsRow.alloc h o
theorem OwnB.low {B B' : Nat} {w : World} {s : Value} {bs : List Bool} (h : OwnB B w s bs) (hB : B' ≤ B) : OwnB B' w s bs := by
  obtain ⟨h1, h2⟩ := h
  refine ⟨h1, ?_⟩
  rcases h2 with h2 | ⟨g, cap, cur, h2, h3, h4⟩
  · exact .inl h2
  · exact .inr ⟨g, cap, cur, h2, Nat.le_trans hB h3, h4⟩

theorem oneB {b : Bool} : ∀ u ∈ [Value.bool b], u.oneCell' = true := by
  intro u hu; simp at hu; subst hu; rfl

/-- 'append(s, x)', s the call's own row of truths. -/
theorem wpList_snocB (w : World) {ops : Array Oper} {rest : List Oper} {o : Oper} {a : Act} {Q : Exit → Act → World → Prop} (hgd : o.guard = none) (s x : Operand)
    (ho : o.op = .call { callee := .builtin .append, args := #[s, x], argTypes := #[48, 48] }) (B : Nat) (v : Value) (bs : List Bool) (z : Bool) (ad : Addr) (hs : a.eval s = v) (hx : a.eval x = .slice (some ad) 1 1)
    (hcell : w.cell? ad = some (.bool z)) (hown : OwnB B w v bs) (hlen : bs.length + 1 ≤ 1000000) (hB : B ≤ w.heap.size)
    (h : ∀ v' w', OwnB B w' v' (bs ++ [z]) → Below B w w' → wpList Try.prog ops Q rest (a.put o.dst v') w') : wpList Try.prog ops Q (o :: rest) a w := by
  obtain ⟨i0, hi, hz0, hz1, hz2⟩ := info_parts infoB
  refine wpList_append_own w hgd s x 48 ho B 4 i0 (.bool false) 1 1 Try.underlying48 hi hz0 hz1 hz2 rfl (by decide) v _ _ hs hown ad 1 1 [.bool z] hx rfl ?_ oneB (by unfold maxLen; omega) (by omega) hB ?_
  · intro j u hj
    match j, hj with
    | 0, hj => simp at hj; subst hj; simpa [Addr.add] using hcell
  · intro v' w' h1 h2 _
    exact h v' w' (by unfold OwnB; simpa using h1) ((Below.refl _ _).grown h2 hB (fun k hk => (World.ownsRow.lt hown k hk).1))

theorem setB_same {l : List Bool} {i : Nat} {x : Bool} (h : i < l.length) : (l.set i x).getD i false = x := by simp [List.getD, h]
theorem setB_other {l : List Bool} {i j : Nat} {x : Bool} (h : i ≠ j) : (l.set i x).getD j false = l.getD j false := by
  simp [List.getD, List.getElem?_set_ne h]
theorem getB_ext {x y : List Bool} (hl : x.length = y.length) (h : ∀ k, k < x.length → x.getD k false = y.getD k false) : x = y := by
  refine List.ext_getElem hl fun k h1 h2 => ?_
  have := h k h1
  simpa [List.getD, List.getElem?_eq_getElem h1, List.getElem?_eq_getElem h2] using this
end Go.Proofs.Ytinnfcjkgddfeaa

/- Which places were walked: the row of truths that the loop over cycles keeps. Plain lists. -/
namespace Go.Proofs.Ytinnfcjkgddfeaa
set_option linter.unusedVariables false
set_option linter.unusedSimpArgs false

/-- Which of n places stand in a row. -/
def seenF (n : Nat) (xs : List Nat) : List Bool := (List.range n).map fun k => decide (k ∈ xs)
theorem seenF_len (n : Nat) (xs : List Nat) : (seenF n xs).length = n := by simp [seenF]
theorem seenF_nil (n : Nat) : seenF n [] = List.replicate n false :=
  List.ext_getElem (by simp [seenF]) fun i h1 h2 => by simp [seenF]
theorem seenF_at {n k : Nat} (xs : List Nat) (h : k < n) : (seenF n xs).getD k false = decide (k ∈ xs) := by
  have h' : k < (seenF n xs).length := by rw [seenF_len]; exact h
  rw [List.getD_eq_getElem?_getD, List.getElem?_eq_getElem h']
  simp [seenF]
theorem seenF_set {n k : Nat} (xs : List Nat) (h : k < n) : (seenF n xs).set k true = seenF n (xs ++ [k]) := by
  refine List.ext_getElem (by simp [seenF]) fun i h1 h2 => ?_
  rw [List.getElem_set]
  by_cases e : k = i
  · subst e; rw [if_pos rfl]; simp [seenF]
  · rw [if_neg e]
    have e' : ¬ i = k := fun h => e h.symm
    simp [seenF, e']
theorem seenF_close (n : Nat) (cs : List (List Nat)) (c : List Nat) : seenF n (cs.flatten ++ c) = seenF n (cs ++ [c]).flatten := by simp
/-- The round's own test: is the next place walked already? -/
theorem seenF_test {n k : Nat} (cs : List (List Nat)) (c : List Nat) (h : k < n) : (seenF n (cs.flatten ++ c)).getD k false = decide (k ∈ c ∨ k ∈ cs.flatten) := by
  rw [seenF_at _ h]
  exact decide_eq_decide.2 (by rw [List.mem_append]; exact Or.comm)
end Go.Proofs.Ytinnfcjkgddfeaa

/- Where each stands, twice; a row with one number another. Plain numbers, no conditions. -/
namespace Go.Proofs.Ytinnfcjkgddfeaa
set_option linter.unusedVariables false
set_option linter.unusedSimpArgs false

theorem invI_back {l : List Int} (h : ordB l = true) {p : Nat} (hp : p < l.length) : ∃ q : Nat, q < l.length ∧ (invI l).getD p 0 = (q : Int) ∧ l.getD q 0 = (p : Int) := by
  have hm : (p : Int) ∈ l := (ordB_mem h).2 ⟨by omega, by omega⟩
  obtain ⟨q, hq, e⟩ := mem_getI hm
  exact ⟨q, hq, invI_at h hq e, e⟩
theorem ordB_inv {l : List Int} (h : ordB l = true) : ordB (invI l) = true := by
  have hl := invI_len h
  rw [ordB_iff]
  have hnd : (invI l).Nodup := by
    rw [List.Nodup, List.pairwise_iff_getElem]
    intro i j hi hj hij e
    rw [hl] at hi hj
    obtain ⟨q, _, e1, e2⟩ := invI_back h hi
    obtain ⟨r, _, e3, e4⟩ := invI_back h hj
    have e5 : (invI l).getD i 0 = (invI l).getD j 0 := by
      rw [List.getD_eq_getElem?_getD, List.getD_eq_getElem?_getD, List.getElem?_eq_getElem (by rw [hl]; exact hi), List.getElem?_eq_getElem (by rw [hl]; exact hj), e]
    rw [e1, e3] at e5
    have : q = r := by omega
    subst this
    rw [e2] at e4
    omega
  refine nodup_perm hnd (fun z hz => natL_mem.2 ?_) (by rw [natL_len, List.length_range]; exact Nat.le_refl _)
  obtain ⟨p, hp, rfl⟩ := mem_getI hz
  rw [hl] at hp
  obtain ⟨q, hq, e1, _⟩ := invI_back h hp
  exact ⟨q, List.mem_range.2 (by rw [hl]; exact hq), e1⟩
theorem inv_twice {l : List Int} (h : ordB l = true) : invI (invI l) = l := by
  have hl := invI_len h
  refine (invI_eq (ordB_inv h) hl.symm fun i p hi hp => ?_).symm
  rw [hl] at hi
  obtain ⟨q, _, e1, e2⟩ := invI_back h hi
  rw [hp] at e1
  have : p = q := by omega
  rw [this, e2]
theorem setI_self {l : List Int} {i : Nat} (hi : i < l.length) : l.set i (l.getD i 0) = l := by
  refine List.ext_getElem (by rw [List.length_set]) fun j h1 h2 => ?_
  rw [List.getElem_set]
  split
  · rename_i e
    subst e
    rw [List.getD_eq_getElem?_getD, List.getElem?_eq_getElem h2]
    rfl
  · rfl
theorem ordB_set {l : List Int} (h : ordB l = true) {i : Nat} (hi : i < l.length) (v : Int) : ordB (l.set i v) = decide (v = l.getD i 0) := by
  by_cases e : v = l.getD i 0
  · rw [decide_eq_true e, e, setI_self hi, h]
  · rw [decide_eq_false e, Bool.eq_false_iff]
    intro ho
    have hm : v ∈ l.set i v := List.mem_iff_getElem.2 ⟨i, by rw [List.length_set]; exact hi, by simp⟩
    have h1 := (ordB_mem ho).1 hm
    rw [List.length_set] at h1
    obtain ⟨j, hj, ej⟩ := mem_getI ((ordB_mem h).2 h1)
    have hij : i ≠ j := fun e2 => by
      subst e2
      exact e ej.symm
    have := nodup_getI (ordB_nodup ho) (i := i) (j := j) (by rw [List.length_set]; exact hi) (by rw [List.length_set]; exact hj) (by rw [setI_same hi, setI_other hij, ej])
    exact hij this
end Go.Proofs.Ytinnfcjkgddfeaa

/- How much neighbours of a row have alike, told place by place of the text. Plain numbers, no conditions. -/
namespace Go.Proofs.Ytinnfcjkgddfeaa
set_option linter.unusedVariables false
set_option linter.unusedSimpArgs false

/-- How much two endings have alike. -/
def comN (s : List Int) (i j : Nat) : Nat := comI (s.drop i) (s.drop j)
theorem comN_swap (s : List Int) (i j : Nat) : comN s i j = comN s j i := comI_swap _ _
theorem comN_le (s : List Int) (i j : Nat) : comN s i j ≤ s.length := by
  have := (comI_le (s.drop i) (s.drop j)).1
  rw [List.length_drop] at this
  unfold comN
  omega
theorem comL_nat {s : List Int} {i j : Nat} (hi : i ≤ s.length) (hj : j ≤ s.length) : comL s i j = (comN s i j : Int) := comL_in hi hj
/-- The first of what they have alike away, one less is alike. -/
theorem comN_next {s : List Int} {i j : Nat} (h : 0 < comN s i j) : comN s i j = comN s (i + 1) (j + 1) + 1 := by
  unfold comN at *
  by_cases h1 : i < s.length
  · by_cases h2 : j < s.length
    · rw [drop_getD h1, drop_getD h2, comI] at h ⊢
      by_cases e : s.getD i 0 = s.getD j 0
      · rw [if_pos e]
      · rw [if_neg e] at h
        omega
    · rw [List.drop_of_length_le (l := s) (i := j) (by omega), comI_nil_right] at h
      omega
  · rw [List.drop_of_length_le (l := s) (i := i) (by omega), comI_nil_left] at h
    omega

/-- Of each place how much it has alike with the one ahead of it. -/
def lcpN (s : List Int) (A : List Nat) : List Nat := (List.range A.length).map fun i => if i = 0 then 0 else comN s (A.getD (i - 1) 0) (A.getD i 0)
theorem lcpN_len (s : List Int) (A : List Nat) : (lcpN s A).length = A.length := by simp [lcpN]
theorem lcpN_zero {s : List Int} {A : List Nat} : (lcpN s A).getD 0 0 = 0 := by
  by_cases h : 0 < A.length
  · unfold lcpN
    rw [mapI_at _ _ h, if_pos rfl]
  · rw [List.getD_eq_getElem?_getD, List.getElem?_eq_none (by rw [lcpN_len]; omega)]; rfl
theorem lcpN_at {s : List Int} {A : List Nat} {i : Nat} (h0 : 0 < i) (h : i < A.length) : (lcpN s A).getD i 0 = comN s (A.getD (i - 1) 0) (A.getD i 0) := by
  unfold lcpN
  rw [mapI_at _ _ h, if_neg (by omega)]
def lcpOk (s a : List Int) : Bool := decide (a.length = s.length) && ordB a
def lcpL (s a : List Int) : List Int := if lcpOk s a = true then natL (lcpN s (toN a)) else []
theorem lcpOk_long {s a : List Int} (h : a.length ≠ s.length) : lcpOk s a = false := by simp [lcpOk, h]
theorem lcpOk_no {s a : List Int} (h : ordB a = false) : lcpOk s a = false := by simp [lcpOk, h]
theorem lcpOk_yes {s a : List Int} (h : a.length = s.length) (h' : ordB a = true) : lcpOk s a = true := by simp [lcpOk, h, h']
theorem lcpL_no {s a : List Int} (h : lcpOk s a = false) : lcpL s a = [] := by unfold lcpL; rw [h]; rfl
theorem lcpL_yes {s a : List Int} (h : lcpOk s a = true) : lcpL s a = natL (lcpN s (toN a)) := by unfold lcpL; rw [if_pos h]
theorem lcpL_le (s a : List Int) : (lcpL s a).length ≤ a.length := by
  cases h : lcpOk s a
  · rw [lcpL_no h]; exact Nat.zero_le _
  · rw [lcpL_yes h, natL_len, lcpN_len, toN_len]; exact Nat.le_refl _

/-- An order as naturals. -/
theorem ordB_cast {a : List Int} (h : ordB a = true) : natL (toN a) = a ∧ (toN a).Perm (List.range a.length) := by
  have h1 : natL (toN a) = a := natL_toN (n := a.length) (goodI_iff.2 fun z hz => (ordB_mem h).1 hz)
  refine ⟨h1, ?_⟩
  have h2 := (ordB_iff.1 h).map Int.toNat
  have h3 : (natL (List.range a.length)).map Int.toNat = List.range a.length := toN_nat _
  rw [h3] at h2
  exact h2
/-- Where each stands, as naturals. -/
structure InvOf (A B : List Nat) : Prop where
  len : B.length = A.length
  lt : ∀ i, i < A.length → B.getD i 0 < A.length
  back : ∀ i, i < A.length → A.getD (B.getD i 0) 0 = i
  on : ∀ p, p < A.length → B.getD (A.getD p 0) 0 = p
theorem inv_nat {A : List Nat} (h : A.Perm (List.range A.length)) : invI (natL A) = natL (toN (invI (natL A))) ∧ InvOf A (toN (invI (natL A))) := by
  have ho := ordB_nat h
  have hl := invI_len ho
  rw [natL_len] at hl
  have hb : ∀ p, p < A.length → ∃ q : Nat, q < A.length ∧ (invI (natL A)).getD p 0 = (q : Int) ∧ A.getD q 0 = p := fun p hp => by
    obtain ⟨q, h1, h2, h3⟩ := invI_back ho (p := p) (by rw [natL_len]; exact hp)
    rw [natL_len] at h1
    rw [natL_at] at h3
    exact ⟨q, h1, h2, by omega⟩
  have hat : ∀ p, p < A.length → (toN (invI (natL A))).getD p 0 < A.length ∧ A.getD ((toN (invI (natL A))).getD p 0) 0 = p := fun p hp => by
    obtain ⟨q, h1, h2, h3⟩ := hb p hp
    rw [toN_at, h2, Int.toNat_natCast]
    exact ⟨h1, h3⟩
  refine ⟨(natL_toN (n := A.length) (goodI_of fun p hp => ?_)).symm, ⟨by rw [toN_len, hl], fun i hi => (hat i hi).1, fun i hi => (hat i hi).2, fun p hp => ?_⟩⟩
  · rw [hl] at hp
    obtain ⟨q, h1, h2, _⟩ := hb p hp
    omega
  · have hm := List.mem_range.1 (h.mem_iff.1 (getN_mem hp))
    have h2 := hat _ hm
    exact nodup_getN (h.nodup_iff.2 List.nodup_range) h2.1 hp h2.2
theorem perm_lt {A : List Nat} (h : A.Perm (List.range A.length)) {p : Nat} (hp : p < A.length) : A.getD p 0 < A.length := List.mem_range.1 (h.mem_iff.1 (getN_mem hp))

/-- What is known of what neighbours have alike once all places of the text ahead of i are told. -/
structure Kas (s : List Int) (A R : List Nat) (i : Nat) : Prop where
  len : R.length = A.length
  zero : R.getD 0 0 = 0
  at' : ∀ q, 0 < q → q < A.length → A.getD q 0 < i → R.getD q 0 = comN s (A.getD (q - 1) 0) (A.getD q 0)
theorem Kas.start (s : List Int) (A : List Nat) : Kas s A (List.replicate A.length 0) 0 :=
  ⟨List.length_replicate, by cases A <;> simp [List.getD, List.replicate], fun q _ _ h => by omega⟩
theorem Kas.skip {s : List Int} {A B R : List Nat} {i : Nat} (h : Kas s A R i) (hB : InvOf A B) (h0 : B.getD i 0 = 0) : Kas s A R (i + 1) := by
  refine ⟨h.len, h.zero, fun q h1 h2 h3 => ?_⟩
  by_cases e : A.getD q 0 = i
  · have := hB.on q h2
    rw [e, h0] at this
    omega
  · exact h.at' q h1 h2 (by omega)
theorem Kas.next {s : List Int} {A B R : List Nat} {i p c : Nat} (h : Kas s A R i) (hB : InvOf A B) (hi : i < A.length) (hp : B.getD i 0 = p) (h0 : 0 < p) (hc : c = comN s i (A.getD (p - 1) 0)) : Kas s A (R.set p c) (i + 1) := by
  have hlt := hB.lt i hi
  rw [hp] at hlt
  have hback := hB.back i hi
  rw [hp] at hback
  refine ⟨by rw [List.length_set]; exact h.len, by rw [set_other (by omega)]; exact h.zero, fun q h1 h2 h3 => ?_⟩
  by_cases e : q = p
  · subst e
    rw [set_same (by rw [h.len]; exact h2), hc, hback, comN_swap]
  · rw [set_other (fun e2 => e e2.symm)]
    refine h.at' q h1 h2 ?_
    have : A.getD q 0 ≠ i := fun e2 => by
      have h4 := hB.on q h2
      rw [e2, hp] at h4
      exact e h4.symm
    omega
theorem Kas.done {s : List Int} {A R : List Nat} (h : Kas s A R A.length) (hA : A.Perm (List.range A.length)) : R = lcpN s A := by
  refine natL_ext (by rw [h.len, lcpN_len]) fun q hq => ?_
  rw [h.len] at hq
  by_cases h0 : q = 0
  · subst h0
    rw [h.zero, lcpN_zero]
  · rw [lcpN_at (by omega) hq, h.at' q (by omega) hq (perm_lt hA hq)]
/-- What the document's own loop keeps: all places up to i are told. -/
structure LcpTo (s : List Int) (A R : List Nat) (i : Nat) : Prop where
  len : R.length = A.length
  at' : ∀ q, q < i → q < A.length → R.getD q 0 = (lcpN s A).getD q 0
theorem LcpTo.start (s : List Int) (A : List Nat) : LcpTo s A (List.replicate A.length 0) 1 :=
  ⟨List.length_replicate, fun q hq h => by
    have : q = 0 := by omega
    subst this
    rw [lcpN_zero]
    simp [List.getD, h]⟩
theorem LcpTo.next {s : List Int} {A R : List Nat} {i c : Nat} (h : LcpTo s A R i) (h0 : 0 < i) (hi : i < A.length) (hc : c = comN s (A.getD (i - 1) 0) (A.getD i 0)) : LcpTo s A (R.set i c) (i + 1) := by
  refine ⟨by rw [List.length_set]; exact h.len, fun q h1 h2 => ?_⟩
  by_cases e : q = i
  · subst e
    rw [set_same (by rw [h.len]; exact h2), hc, lcpN_at h0 h2]
  · rw [set_other (fun e2 => e e2.symm)]
    exact h.at' q (by omega) h2
theorem LcpTo.done {s : List Int} {A R : List Nat} {i : Nat} (h : LcpTo s A R i) (hi : A.length ≤ i) : R = lcpN s A :=
  natL_ext (by rw [h.len, lcpN_len]) fun q hq => by rw [h.len] at hq; exact h.at' q (by omega) hq
end Go.Proofs.Ytinnfcjkgddfeaa

/- The cycles of a row, or none, as a row of rows of the call's own. No conditions. -/
namespace Go.Proofs.Ytinnfcjkgddfeaa
set_option linter.unusedVariables false
set_option linter.unusedSimpArgs false
open Go.RowKit

def stepN (A : List Nat) (x : Nat) : Nat := A.getD x 0
/-- The cycles of a row, or none. -/
def CycIs (l : List Int) (cs : List (List Nat)) : Prop := if ordB l = true then CycOf (stepN (toN l)) l.length cs else cs = []
theorem CycIs.eq {l : List Int} {cs ds : List (List Nat)} (h : CycIs l cs) (k : CycIs l ds) : cs = ds := by
  unfold CycIs at h k
  by_cases e : ordB l = true
  · rw [if_pos e] at h k; exact CycOf.eq h k
  · rw [if_neg e] at h k; rw [h, k]
theorem CycIs.no {l : List Int} (h : ordB l = false) : CycIs l [] := by unfold CycIs; rw [h]; rfl
theorem CycIs.yes {l : List Int} {cs : List (List Nat)} (h : ordB l = true) (k : CycOf (stepN (toN l)) l.length cs) : CycIs l cs := by unfold CycIs; rw [if_pos h]; exact k
def rowLen : Value → Nat
  | .slice _ n _ => n
  | _ => 0
theorem rowLen_eq (a : Option Addr) (n c : Nat) : rowLen (.slice a n c) = n := rfl
theorem Own.rowLen {k : IntKind} {e : TypeId} {B : Nat} {w : World} {v : Value} {zs : List Int} (h : Own k e B w v zs) : rowLen v = zs.length := by
  obtain ⟨a, c, rfl, _⟩ := h.sl
  rfl
theorem flatC_len : ∀ {cs : List (List Nat)}, (∀ c ∈ cs, 0 < c.length) → cs.length ≤ cs.flatten.length
  | [], _ => Nat.zero_le _
  | c :: cs, h => by
    have h1 := h c (List.mem_cons_self)
    have h2 := flatC_len (cs := cs) fun d hd => h d (List.mem_cons_of_mem _ hd)
    rw [List.flatten_cons, List.length_append, List.length_cons]
    omega
/-- What a row of another type keeps. -/
theorem OwnB.other {e' : TypeId} {B B' m sz : Nat} {w w' : World} {g n cap : Nat} {x : Value} {bs : List Bool} {ys : List Value} (hv : OwnB B w (.slice (some ⟨g, 0, none⟩) n cap) bs) (hx : w.ownsRow B' e' sz x m ys) (he : 4 ≠ e') (hg : But g w w') : w'.ownsRow B' e' sz x m ys := by
  have hl : n = bs.length := by
    rcases hv.2 with ⟨h, _⟩ | ⟨_, _, _, h, _⟩
    · cases h
    · cases h; rfl
  exact ownsI_other (v := .slice (some ⟨g, 0, none⟩) n cap) hv hx he hg
theorem but_grown {g : Nat} {w w1 w2 : World} {v : Value} (h : But g w w1) (hg : w1.grownBy w2 v.ownBlock) (hv : ∀ k, v.ownBlock = some k → w.heap.size ≤ k) : But g w w2 :=
  ⟨hg.os.trans h.os, hg.tape.trans h.tape, hg.output.trans h.output, Nat.le_trans h.size hg.size, fun i hi hne => (hg.block i (Nat.lt_of_lt_of_le hi h.size) (fun e => by
    have := hv i e.symm
    omega)).trans (h.block i hi hne)⟩
theorem Own.above {k : IntKind} {e : TypeId} {B : Nat} {w : World} {v : Value} {zs : List Int} (h : Own k e B w v zs) : ∀ j, v.ownBlock = some j → B ≤ j := fun j hj => (World.ownsRow.lt h j hj).1

theorem CycIs.len {l : List Int} {cs : List (List Nat)} (h : CycIs l cs) (k : Nat) : ((cs.map natL).getD k []).length ≤ l.length := by
  rw [List.getD_eq_getElem?_getD]
  rcases Nat.lt_or_ge k (cs.map natL).length with g | g
  · rw [List.getElem?_eq_getElem g, Option.getD_some, List.getElem_map, natL_len]
    unfold CycIs at h
    split at h
    · have hm : cs[k]'(by simpa using g) ∈ cs := List.getElem_mem _
      exact nodup_permN_le (h.nodupC hm) fun x hx => h.ltC hm hx
    · subst h; simp at g
  · rw [List.getElem?_eq_none g]; exact Nat.zero_le _
theorem CycIs.num {l : List Int} {cs : List (List Nat)} (h : CycIs l cs) : (cs.map natL).length ≤ l.length := by
  rw [List.length_map]
  unfold CycIs at h
  split at h
  · have h1 := flatC_len h.ne
    have h2 := h.all.length_eq
    rw [List.length_range] at h2
    omega
  · subst h; exact Nat.zero_le _
theorem take_flat_le (cs : List (List Nat)) (i : Nat) : (cs.take i).flatten.length ≤ cs.flatten.length := by
  have h := congrArg List.length (congrArg List.flatten (List.take_append_drop i cs))
  rw [List.flatten_append, List.length_append] at h
  omega
theorem take_flat_succ (cs : List (List Nat)) {i : Nat} (hi : i < cs.length) : (cs.take (i + 1)).flatten.length = (cs.take i).flatten.length + (cs.getD i []).length := by
  rw [List.take_add_one, List.getElem?_eq_getElem hi, List.flatten_append, List.length_append, List.getD_eq_getElem?_getD, List.getElem?_eq_getElem hi]
  simp
theorem CycIs.flat {l : List Int} {cs : List (List Nat)} (h : CycIs l cs) : cs.flatten.length ≤ l.length := by
  unfold CycIs at h
  split at h
  · have := h.all.length_eq
    rw [List.length_range] at this
    omega
  · subst h; exact Nat.zero_le _
theorem CycIs.flat_ok {l : List Int} {cs : List (List Nat)} (h : CycIs l cs) (ho : ordB l = true) : cs.flatten.length = l.length := by
  unfold CycIs at h
  rw [if_pos ho] at h
  have := h.all.length_eq
  rwa [List.length_range] at this
theorem getD_mapL (cs : List (List Nat)) (k : Nat) : ((cs.map natL).getD k []).length = (cs.getD k []).length := by
  simp only [List.getD_eq_getElem?_getD, List.getElem?_map]
  cases cs[k]? with
  | none => rfl
  | some c => simp [natL_len]
theorem getD_memL {cs : List (List Nat)} {i : Nat} (h : i < cs.length) : cs.getD i [] ∈ cs := by
  rw [List.getD_eq_getElem?_getD, List.getElem?_eq_getElem h]
  exact List.getElem_mem h
theorem getD_mapE (cs : List (List Nat)) (k : Nat) : (cs.map natL).getD k [] = natL (cs.getD k []) := by
  simp only [List.getD_eq_getElem?_getD, List.getElem?_map]
  cases cs[k]? with
  | none => rfl
  | some c => rfl
theorem lf_ok (l : List Int) : ordB (natL (lfN l)) = true := ordB_nat (lfN_perm l)
theorem CycOf.congr {p q : Nat → Nat} {n : Nat} {cs : List (List Nat)} (h : CycOf p n cs) (e : ∀ x, x < n → p x = q x) : CycOf q n cs :=
  { ne := h.ne
    nxt := fun c hc t ht => by rw [← e _ (h.ltC hc (getN_mem ht))]; exact h.nxt c hc t ht
    least := h.least
    up := h.up
    all := h.all }
/-- The cycles of the order that like bytes stand in. -/
theorem lf_cyc {l : List Int} {cs : List (List Nat)} (h : CycIs (natL (lfN l)) cs) : CycOf (rkN l) l.length cs := by
  unfold CycIs at h
  rw [if_pos (lf_ok l), natL_len, lfN_len, toN_nat] at h
  exact h.congr fun x hx => lfN_at hx
end Go.Proofs.Ytinnfcjkgddfeaa

/- A row filled from its end with what the cycles of an order read, one behind the other. Plain numbers, no conditions. -/
namespace Go.Proofs.Ytinnfcjkgddfeaa
set_option linter.unusedVariables false
set_option linter.unusedSimpArgs false

/-- What all the cycles' places read. -/
def strB (l : List Int) (cs : List (List Nat)) : List Int := cs.flatten.map fun k => l.getD k 0
theorem strB_rev (l : List Int) : ∀ cs : List (List Nat), (strB l cs).reverse = (cs.reverse.map (wordOf l)).flatten
  | [] => rfl
  | c :: cs => by
    have ih := strB_rev l cs
    unfold strB at ih ⊢
    rw [List.flatten_cons, List.map_append, List.reverse_append, ih, List.reverse_cons, List.map_append, List.flatten_append]
    simp [wordOf, List.map_reverse]
theorem strB_len (l : List Int) (cs : List (List Nat)) : (strB l cs).length = cs.flatten.length := by
  unfold strB
  rw [List.length_map]
theorem flatC_at : ∀ {cs : List (List Nat)} {i j : Nat}, i < cs.length → j < (cs.getD i []).length → cs.flatten[(cs.take i).flatten.length + j]? = some ((cs.getD i []).getD j 0)
  | [], _, _, hi, _ => absurd hi (by simp)
  | c :: cs, 0, j, _, hj => by
    rw [List.getD_cons_zero] at hj ⊢
    rw [List.take_zero, List.flatten_nil, List.length_nil, Nat.zero_add, List.flatten_cons, List.getElem?_append_left hj, List.getD_eq_getElem?_getD, List.getElem?_eq_getElem hj]
    rfl
  | c :: cs, i + 1, j, hi, hj => by
    rw [List.getD_cons_succ] at hj ⊢
    rw [List.take_succ_cons, List.flatten_cons, List.flatten_cons, List.length_append, List.getElem?_append_right (by omega), show c.length + (cs.take i).flatten.length + j - c.length = (cs.take i).flatten.length + j by omega]
    exact flatC_at (by rw [List.length_cons] at hi; omega) hj
theorem strB_at {l : List Int} {cs : List (List Nat)} {i j : Nat} (hi : i < cs.length) (hj : j < (cs.getD i []).length) : (strB l cs).getD ((cs.take i).flatten.length + j) 0 = l.getD ((cs.getD i []).getD j 0) 0 := by
  unfold strB
  rw [List.getD_eq_getElem?_getD, List.getElem?_map, flatC_at hi hj]
  rfl
/-- A row of n, filled from its end with k of what there is. -/
def fillR (X : List Int) (n k : Nat) : List Int := List.replicate (n - k) 0 ++ (X.take k).reverse
theorem fillR_len {X : List Int} {n k : Nat} (hX : X.length = n) (hk : k ≤ n) : (fillR X n k).length = n := by
  unfold fillR
  rw [List.length_append, List.length_replicate, List.length_reverse, List.length_take]
  omega
theorem fillR_zero (X : List Int) (n : Nat) : fillR X n 0 = List.replicate n 0 := by simp [fillR]
theorem fillR_all {X : List Int} {n : Nat} (hX : X.length = n) : fillR X n n = X.reverse := by
  unfold fillR
  rw [Nat.sub_self, List.replicate_zero, List.nil_append, List.take_of_length_le (by omega)]
theorem fillR_next {X : List Int} {n k : Nat} (hX : X.length = n) (hk : k < n) : (fillR X n k).set (n - 1 - k) (X.getD k 0) = fillR X n (k + 1) := by
  unfold fillR
  have e : List.replicate (n - k) (0 : Int) = List.replicate (n - 1 - k) 0 ++ [0] := by
    rw [show n - k = n - 1 - k + 1 by omega, List.replicate_succ']
  have h1 : k < X.length := by omega
  rw [e, List.take_add_one, List.getElem?_eq_getElem h1, Option.toList_some, List.reverse_append, List.append_assoc, List.set_append_right _ _ (by simp), List.length_replicate, Nat.sub_self, List.getD_eq_getElem?_getD, List.getElem?_eq_getElem h1, show n - (k + 1) = n - 1 - k by omega]
  rfl
end Go.Proofs.Ytinnfcjkgddfeaa

/- What stands ahead of a text's endings, in order, and the text out of it. Plain numbers, no conditions. -/
namespace Go.Proofs.Ytinnfcjkgddfeaa
set_option linter.unusedVariables false
set_option linter.unusedSimpArgs false

/-- The rows that have a byte ahead of them. -/
def aheadN (n : Nat) (A : List Nat) : List Nat := (n :: A).filter fun p => decide (p ≠ 0)
/-- What stands ahead of the endings. -/
def bwL (s : List Int) (A : List Nat) : List Int := (aheadN s.length A).map fun p => s.getD (p - 1) 0
/-- Which row the whole text is. -/
def bwAt (s : List Int) (A : List Nat) : Nat := (s.length :: A).idxOf 0

theorem ends_mem {n x : Nat} {A : List Nat} (hA : A.Perm (List.range n)) : x ∈ n :: A ↔ x ≤ n := by
  rw [List.mem_cons, hA.mem_iff, List.mem_range]
  omega
theorem ends_nodup {n : Nat} {A : List Nat} (hA : A.Perm (List.range n)) : (n :: A).Nodup := by
  rw [List.nodup_cons]
  exact ⟨fun h => by have := List.mem_range.1 (hA.mem_iff.1 h); omega, hA.nodup_iff.2 List.nodup_range⟩
theorem ends_len {n : Nat} {A : List Nat} (hA : A.Perm (List.range n)) : (n :: A).length = n + 1 := by
  rw [List.length_cons, hA.length_eq, List.length_range]
theorem ends_le {n : Nat} {A : List Nat} (hA : A.Perm (List.range n)) {r : Nat} (hr : r ≤ n) : (n :: A).getD r 0 ≤ n := (ends_mem hA).1 (getN_mem (by rw [ends_len hA]; omega))
theorem at_le {n : Nat} {A : List Nat} (hA : A.Perm (List.range n)) : (n :: A).idxOf 0 ≤ n := by
  have := List.idxOf_lt_length_of_mem ((ends_mem hA).2 (Nat.zero_le n))
  rw [ends_len hA] at this
  omega
theorem at_is {n : Nat} {A : List Nat} (hA : A.Perm (List.range n)) {r : Nat} (hr : r ≤ n) : (n :: A).getD r 0 = 0 ↔ r = (n :: A).idxOf 0 := by
  have h1 := at_le hA
  have h2 : (n :: A).getD ((n :: A).idxOf 0) 0 = 0 := by
    rw [List.getD_eq_getElem?_getD, List.getElem?_eq_getElem (by rw [ends_len hA]; omega)]
    exact List.getElem_idxOf _
  constructor
  · intro h
    exact nodup_getN (ends_nodup hA) (by rw [ends_len hA]; omega) (by rw [ends_len hA]; omega) (by rw [h, h2])
  · intro h
    rw [h, h2]
theorem ahead_erase {n : Nat} {A : List Nat} (hA : A.Perm (List.range n)) : aheadN n A = (n :: A).eraseIdx ((n :: A).idxOf 0) := by
  unfold aheadN
  have h1 := (ends_nodup hA).erase_eq_filter 0
  have h2 : (n :: A).filter (fun p => decide (p ≠ 0)) = (n :: A).filter (· != 0) := List.filter_congr fun x _ => by
    by_cases h : x = 0 <;> simp [h]
  rw [h2, ← h1]
  exact List.erase_eq_eraseIdx_of_idxOf rfl
theorem ahead_len {n : Nat} {A : List Nat} (hA : A.Perm (List.range n)) : (aheadN n A).length = n := by
  rw [ahead_erase hA, List.length_eraseIdx_of_lt (by have := at_le hA; rw [ends_len hA]; omega), ends_len hA]
  omega
/-- Which row such a one is. -/
def rowOf (at' k : Nat) : Nat := if k < at' then k else k + 1
theorem ahead_at {n : Nat} {A : List Nat} (hA : A.Perm (List.range n)) (k : Nat) : (aheadN n A).getD k 0 = (n :: A).getD (rowOf ((n :: A).idxOf 0) k) 0 := by
  rw [ahead_erase hA]
  simp only [List.getD_eq_getElem?_getD, List.getElem?_eraseIdx, rowOf]
  split <;> rfl
theorem ahead_pos {n : Nat} {A : List Nat} (hA : A.Perm (List.range n)) {k : Nat} (hk : k < n) : 1 ≤ (aheadN n A).getD k 0 ∧ (aheadN n A).getD k 0 ≤ n := by
  have hm := getN_mem (l := aheadN n A) (i := k) (by rw [ahead_len hA]; exact hk)
  unfold aheadN at hm ⊢
  rw [List.mem_filter] at hm
  have h1 := (ends_mem hA).1 hm.1
  have h2 := of_decide_eq_true hm.2
  omega
theorem ahead_perm {n : Nat} {A : List Nat} (hA : A.Perm (List.range n)) : ((List.range n).map fun j => (aheadN n A).getD j 0 - 1).Perm (List.range n) := by
  have hn : (aheadN n A).Nodup := List.Pairwise.sublist List.filter_sublist (ends_nodup hA)
  refine inj_permN (fun j hj => ?_) (fun i j hi hj e => ?_)
  · have := ahead_pos hA hj
    omega
  · have h1 := ahead_pos hA hi
    have h2 := ahead_pos hA hj
    exact nodup_getN hn (by rw [ahead_len hA]; exact hi) (by rw [ahead_len hA]; exact hj) (by omega)
theorem bw_len {s : List Int} {A : List Nat} (hA : A.Perm (List.range s.length)) : (bwL s A).length = s.length := by
  unfold bwL
  rw [List.length_map, ahead_len hA]
theorem bw_at {s : List Int} {A : List Nat} (hA : A.Perm (List.range s.length)) {k : Nat} (hk : k < s.length) : (bwL s A).getD k 0 = s.getD ((aheadN s.length A).getD k 0 - 1) 0 := by
  have h : k < (aheadN s.length A).length := by rw [ahead_len hA]; exact hk
  simp [bwL, List.getD, List.getElem?_eq_getElem h]

def ltD (s : List Int) (a b : Nat) : Bool := decide (cmpI (s.drop a) (s.drop b) < 0)
theorem ltD_iff {s : List Int} {a b : Nat} : ltD s a b = true ↔ ltE s a b := decide_eq_true_iff
theorem ltE_asymm {s : List Int} {a b : Nat} (h : ltE s a b) (k : ltE s b a) : False := ltE_irrefl (ltE_trans h k)
theorem ahead_sorted {s : List Int} {A : List Nat} (h : InOrd s A) : (aheadN s.length A).Pairwise (ltE s) := by
  refine List.Pairwise.sublist List.filter_sublist (List.pairwise_cons.2 ⟨fun b hb => ?_, h.2⟩)
  exact ltE_end (Nat.le_refl _) (List.mem_range.1 (h.1.mem_iff.1 hb))
/-- From the last letters to the first: a step back in the text. -/
theorem bw_step {s : List Int} {A : List Nat} (h : InOrd s A) {k i : Nat} (hk : k < s.length) (hF : (aheadN s.length A).getD k 0 = i + 1) : rkN (bwL s A) k < s.length ∧ A.getD (rkN (bwL s A) k) 0 = i := by
  have hA := h.1
  have hi : i < s.length := by have := ahead_pos hA hk; omega
  have hS := ahead_sorted h
  have hFl := ahead_len hA
  have key : ∀ j, j < s.length → (Lt1 (bwL s A) j k ↔ ltE s ((aheadN s.length A).getD j 0 - 1) i) := fun j hj => by
    have hp := ahead_pos hA hj
    obtain ⟨p, hp1⟩ : ∃ p, (aheadN s.length A).getD j 0 = p + 1 := ⟨(aheadN s.length A).getD j 0 - 1, by omega⟩
    have hjk : j < k ↔ ltE s (p + 1) (i + 1) := by
      rw [← hp1, ← hF]
      constructor
      · intro g
        exact pairN_at hS g (by rw [hFl]; exact hk)
      · intro g
        rcases Nat.lt_trichotomy j k with g2 | g2 | g2
        · exact g2
        · subst g2; exact absurd g ltE_irrefl
        · exact (ltE_asymm g (pairN_at hS g2 (by rw [hFl]; exact hj))).elim
    unfold Lt1
    rw [bw_at hA hj, bw_at hA hk, hp1, hF, hjk]
    simp only [Nat.add_sub_cancel]
    rcases Int.lt_trichotomy (s.getD p 0) (s.getD i 0) with g | g | g
    · exact ⟨fun _ => ltE_less (by omega) hi g, fun _ => .inl g⟩
    · rw [← ltE_same (by omega) hi g]
      constructor
      · rintro (g2 | g2)
        · omega
        · exact g2.2
      · exact fun g2 => .inr ⟨g, g2⟩
    · constructor
      · rintro (g2 | g2) <;> omega
      · intro g2
        exact (ltE_asymm g2 (ltE_less hi (by omega) g)).elim
  obtain ⟨m, hm, em⟩ := mem_getN (hA.mem_iff.2 (List.mem_range.2 hi))
  rw [h.len] at hm
  have hr : rkN (bwL s A) k = m := by
    unfold rkN
    rw [bw_len hA]
    have e1 : (List.range s.length).filter (fun j => decide (Lt1 (bwL s A) j k)) = (List.range s.length).filter ((fun p => decide (cmpI (s.drop p) (s.drop i) < 0)) ∘ fun j => (aheadN s.length A).getD j 0 - 1) :=
      List.filter_congr fun j hj => by
        rw [Function.comp, Bool.eq_iff_iff, decide_eq_true_eq, decide_eq_true_eq]
        exact key j (List.mem_range.1 hj)
    have e2 := congrArg List.length (List.filter_map (f := fun j => (aheadN s.length A).getD j 0 - 1) (p := fun p => decide (cmpI (s.drop p) (s.drop i) < 0)) (l := List.range s.length))
    rw [List.length_map] at e2
    rw [e1, ← e2, ((ahead_perm hA).filter _).length_eq]
    have := rank_at (R := ltD s) hA (h.2.imp fun g => ltD_iff.2 g) (fun a => Bool.eq_false_iff.2 fun g => ltE_irrefl (ltD_iff.1 g)) (fun a b g => Bool.eq_false_iff.2 fun k => ltE_asymm (ltD_iff.1 g) (ltD_iff.1 k)) hm
    rw [em] at this
    exact this
  rw [hr]
  exact ⟨hm, em⟩

/-- Which of the bytes a row has ahead of it. -/
def byteOf (at' row : Nat) : Nat := if at' < row then row - 1 else row
theorem row_byte {at' row : Nat} (h : row ≠ at') : rowOf at' (byteOf at' row) = row := by
  unfold rowOf byteOf
  split <;> split <;> omega
/-- Letter by letter from the end. -/
def bkGo (l : List Int) (at' : Nat) : Nat → Nat → List Int → Option (List Int)
  | 0, _, out => some out
  | i + 1, row, out => if row = at' then none else bkGo l at' i (rkN l (byteOf at' row) + 1) (l.getD (byteOf at' row) 0 :: out)
theorem byte_lt {n at' row : Nat} (hr : row ≤ n) (ha : at' ≤ n) (hne : row ≠ at') : byteOf at' row < n := by
  unfold byteOf
  split <;> omega
theorem bkGo_text {s : List Int} {A : List Nat} (h : InOrd s A) : ∀ (i row : Nat), row ≤ s.length → (s.length :: A).getD row 0 = i → bkGo (bwL s A) (bwAt s A) i row (s.drop i) = some s := by
  intro i
  induction i with
  | zero => intro row _ _; rw [bkGo, List.drop_zero]
  | succ i ih =>
    intro row hr he
    have hA := h.1
    have hne : row ≠ bwAt s A := fun e => by
      have := (at_is hA hr).2 e
      omega
    have hk : byteOf (bwAt s A) row < s.length := byte_lt hr (at_le hA) hne
    have hF : (aheadN s.length A).getD (byteOf (bwAt s A) row) 0 = i + 1 := by
      rw [ahead_at hA]
      show (s.length :: A).getD (rowOf (bwAt s A) (byteOf (bwAt s A) row)) 0 = i + 1
      rw [row_byte hne, he]
    obtain ⟨h1, h2⟩ := bw_step h hk hF
    have hi : i < s.length := by have := ends_le hA hr; omega
    rw [bkGo, if_neg hne, bw_at hA hk, hF, Nat.add_sub_cancel, ← drop_getD hi]
    exact ih _ (by omega) h2

/-- All places in order of endings. -/
def sortE (s : List Int) : List Nat := (List.range s.length).mergeSort fun a b => decide (¬ cmpI (s.drop b) (s.drop a) < 0)
theorem sortE_ord (s : List Int) : InOrd s (sortE s) := by
  have hp : (sortE s).Perm (List.range s.length) := List.mergeSort_perm _ _
  have h := List.pairwise_mergeSort (le := fun a b => decide (¬ cmpI (s.drop b) (s.drop a) < 0)) (fun a b c h1 h2 => by
    simp only [decide_eq_true_eq] at *
    rw [cmpI_swap] at h1 h2 ⊢
    have := cmpI_trans (s.drop a) (s.drop b) (s.drop c) (by omega) (by omega)
    omega) (fun a b => by
    simp only [Bool.or_eq_true, decide_eq_true_eq]
    rw [cmpI_swap (s.drop a) (s.drop b)]
    omega) (List.range s.length)
  refine ⟨hp, ?_⟩
  have hn : (sortE s).Nodup := hp.nodup_iff.2 List.nodup_range
  have h2 : (sortE s).Pairwise fun a b => a ≠ b ∧ (decide (¬ cmpI (s.drop b) (s.drop a) < 0)) = true := hn.and h
  refine h2.imp_of_mem fun {a b} ha hb ⟨h3, h4⟩ => ?_
  simp only [decide_eq_true_eq] at h4
  have g1 := List.mem_range.1 (hp.mem_iff.1 ha)
  have g2 := List.mem_range.1 (hp.mem_iff.1 hb)
  by_cases g : ltE s a b
  · exact g
  · exact absurd (ltE_total (by omega) (by omega) h3 g) h4
/-- A text turned: its bytes, and which row it is. -/
def turnB (s : List Int) : List Int × Int := (bwL s (sortE s), (bwAt s (sortE s) : Int))
theorem turnB_eq {s : List Int} {A : List Nat} (h : InOrd s A) : turnB s = (bwL s A, (bwAt s A : Int)) := by
  unfold turnB
  rw [(sortE_ord s).eq h]
theorem turnB_len (s : List Int) : (turnB s).1.length = s.length := bw_len (sortE_ord s).1
def rowMayB (l : List Int) (at' : Int) : Bool := decide (0 ≤ at' ∧ at' ≤ l.length ∧ (l.length = 0 ∨ at' ≠ 0))
theorem turnB_may (s : List Int) : rowMayB (turnB s).1 (turnB s).2 = true := by
  unfold rowMayB
  have h := sortE_ord s
  have h1 := at_le h.1
  rw [turnB_len]
  refine decide_eq_true ⟨by unfold turnB; omega, by unfold turnB bwAt; omega, ?_⟩
  by_cases h0 : s.length = 0
  · exact .inl h0
  · refine .inr fun e => ?_
    have e2 : bwAt s (sortE s) = 0 := by unfold turnB at e; omega
    have := (at_is h.1 (Nat.zero_le _)).2 e2.symm
    exact h0 this
/-- The text that is turned to these, or none (5). -/
def backB (l : List Int) (at' : Int) : List Int × Int :=
  if rowMayB l at' = true then
    match bkGo l at'.toNat l.length 0 [] with
    | none => ([], 5)
    | some out => if turnB out = (l, at') then (out, 0) else ([], 5)
  else ([], 5)
theorem back_yes {s l : List Int} {at' : Int} (h : turnB s = (l, at')) : backB l at' = (s, 0) := by
  have ho := sortE_ord s
  have hm := turnB_may s
  have hl := turnB_len s
  have hgo := bkGo_text ho s.length 0 (Nat.zero_le _) rfl
  rw [h] at hm hl
  have e : bwL s (sortE s) = l ∧ (bwAt s (sortE s) : Int) = at' := by
    unfold turnB at h
    exact Prod.mk.inj h
  unfold backB
  rw [if_pos hm, show l.length = s.length from hl, ← e.2, ← e.1, Int.toNat_natCast]
  rw [List.drop_of_length_le (Nat.le_refl _)] at hgo
  rw [hgo]
  show (if turnB s = _ then _ else _) = _
  rw [h, e.1, e.2, if_pos rfl]
theorem back_no {l : List Int} {at' : Int} (h : ∀ s, turnB s ≠ (l, at')) : backB l at' = ([], 5) := by
  unfold backB
  split
  · split
    · rfl
    · rw [if_neg (h _)]
  · rfl
theorem back_iff {s l : List Int} {at' : Int} : backB l at' = (s, 0) ↔ turnB s = (l, at') := by
  refine ⟨fun h => ?_, back_yes⟩
  unfold backB at h
  split at h
  · split at h
    · cases h
    · split at h
      · rename_i e
        cases h
        exact e
      · cases h
  · cases h
theorem turnB_inj {s t : List Int} (h : turnB s = turnB t) : s = t := by
  have h1 := back_yes (s := s) (l := (turnB t).1) (at' := (turnB t).2) h
  have h2 := back_yes (s := t) (l := (turnB t).1) (at' := (turnB t).2) rfl
  rw [h1] at h2
  exact (Prod.mk.inj h2).1
end Go.Proofs.Ytinnfcjkgddfeaa

/- A text turned: its letters; a walk through all rows is a text's. Plain numbers, no conditions. -/
namespace Go.Proofs.Ytinnfcjkgddfeaa
set_option linter.unusedVariables false
set_option linter.unusedSimpArgs false

theorem map_getI (l : List Int) : (List.range l.length).map (fun p => l.getD p 0) = l := by
  refine List.ext_getElem (by simp) fun k h1 h2 => ?_
  simp [List.getD, List.getElem?_eq_getElem h2]
/-- It has as many of each byte as the text. -/
theorem bw_perm {s : List Int} {A : List Nat} (hA : A.Perm (List.range s.length)) : (bwL s A).Perm s := by
  have h := (ahead_perm hA).map fun p => s.getD p 0
  rw [map_getI, List.map_map] at h
  refine List.Perm.trans (List.Perm.of_eq ?_) h
  refine rowI_ext (by rw [bw_len hA]; simp) fun k hk => ?_
  rw [bw_len hA] at hk
  rw [bw_at hA hk, mapI_at _ _ hk]
  rfl
theorem bw_first {s : List Int} {A : List Nat} (hA : A.Perm (List.range s.length)) (h0 : 0 < s.length) : (bwL s A).getD 0 0 = s.getD (s.length - 1) 0 ∧ 0 < bwAt s A := by
  have hat : 0 < bwAt s A := by
    rcases Nat.eq_zero_or_pos (bwAt s A) with e | e
    · have := (at_is hA (Nat.zero_le _)).2 e.symm
      have h2 : s.length = 0 := this
      omega
    · exact e
  refine ⟨?_, hat⟩
  rw [bw_at hA h0, ahead_at hA]
  have : rowOf ((s.length :: A).idxOf 0) 0 = 0 := by
    unfold rowOf
    exact if_pos hat
  rw [this]
  rfl

theorem byte_row {at' k : Nat} : byteOf at' (rowOf at' k) = k := by
  unfold rowOf byteOf
  split <;> split <;> omega
theorem row_ne {at' k : Nat} : rowOf at' k ≠ at' := by
  unfold rowOf
  split <;> omega
theorem count_lt {n x : Nat} (h : x ≤ n) : ((List.range n).filter fun j => decide (j < x)).length = x := by
  induction n with
  | zero => simp; omega
  | succ n ih =>
    rw [List.range_succ, List.filter_append, List.length_append]
    by_cases e : x = n + 1
    · subst e
      have : (List.range n).filter (fun j => decide (j < n + 1)) = List.range n := by
        rw [List.filter_eq_self]
        intro a ha
        have := List.mem_range.1 ha
        exact decide_eq_true (by omega)
      rw [this]
      simp
    · rw [ih (by omega)]
      simp
      omega
/-- A walk through all rows. -/
structure Walk (l : List Int) (at' : Nat) (r : Nat → Nat) (out : List Int) : Prop where
  len : out.length = l.length
  start : r 0 = 0
  ne : ∀ t, t < l.length → r t ≠ at'
  le : ∀ t, t ≤ l.length → r t ≤ l.length
  next : ∀ t, t < l.length → r (t + 1) = rkN l (byteOf at' (r t)) + 1
  stop : r l.length = at'
  at' : ∀ t, t < l.length → out.getD (l.length - 1 - t) 0 = l.getD (byteOf at' (r t)) 0
theorem byte_inj {at' a b : Nat} (ha : a ≠ at') (hb : b ≠ at') (h : byteOf at' a = byteOf at' b) : a = b := by
  rw [← row_byte ha, h, row_byte hb]
theorem byte_mono {at' a b : Nat} (ha : a ≠ at') (hb : b ≠ at') : byteOf at' a < byteOf at' b ↔ a < b := by
  unfold byteOf
  split <;> split <;> omega
theorem Walk.inj {l out : List Int} {at' : Nat} {r : Nat → Nat} (h : Walk l at' r out) (ha : at' ≤ l.length) : ∀ a b, a ≤ l.length → b ≤ l.length → a < b → r a ≠ r b := by
  intro a
  induction a with
  | zero =>
    intro b _ hb hab e
    have := h.next (b - 1) (by omega)
    rw [show b - 1 + 1 = b by omega] at this
    rw [h.start] at e
    omega
  | succ a ih =>
    intro b h1 h2 hab e
    have e1 := h.next a (by omega)
    have e2 := h.next (b - 1) (by omega)
    rw [show b - 1 + 1 = b by omega] at e2
    have n1 := h.ne a (by omega)
    have n2 := h.ne (b - 1) (by omega)
    have l1 := byte_lt (h.le a (by omega)) ha n1
    have l2 := byte_lt (h.le (b - 1) (by omega)) ha n2
    exact ih (b - 1) (by omega) (by omega) (by omega) (byte_inj n1 n2 (rk_inj l1 l2 (by omega)))
theorem Walk.order {l out : List Int} {at' : Nat} {r : Nat → Nat} (h : Walk l at' r out) (ha : at' ≤ l.length) : ∀ (m a b : Nat), l.length - a ≤ m → a ≤ l.length → b ≤ l.length → a ≠ b → (r (l.length - a) < r (l.length - b) ↔ ltE out a b) := by
  intro m
  induction m with
  | zero =>
    intro a b hm h1 h2 hne
    have e : a = l.length := by omega
    subst e
    rw [Nat.sub_self, h.start]
    have h3 := h.inj ha 0 (l.length - b) (Nat.zero_le _) (by omega) (by omega)
    rw [h.start] at h3
    exact ⟨fun _ => ltE_end (by rw [h.len]; exact Nat.le_refl _) (by rw [h.len]; omega), fun _ => by omega⟩
  | succ m ih =>
    intro a b hm h1 h2 hne
    by_cases ea : a = l.length
    · exact ih a b (by omega) h1 h2 hne
    by_cases eb : b = l.length
    · subst eb
      rw [Nat.sub_self, h.start]
      exact ⟨fun g => by omega, fun g => (ltE_asymm g (ltE_end (by rw [h.len]; exact Nat.le_refl _) (by rw [h.len]; omega))).elim⟩
    obtain ⟨t, ht⟩ : ∃ t, l.length - a = t + 1 := ⟨l.length - a - 1, by omega⟩
    obtain ⟨u, hu⟩ : ∃ u, l.length - b = u + 1 := ⟨l.length - b - 1, by omega⟩
    have n1 := h.ne t (by omega)
    have n2 := h.ne u (by omega)
    have l1 := byte_lt (h.le t (by omega)) ha n1
    have l2 := byte_lt (h.le u (by omega)) ha n2
    have hi := ih (a + 1) (b + 1) (by omega) (by omega) (by omega) (by omega)
    rw [show l.length - (a + 1) = t by omega, show l.length - (b + 1) = u by omega] at hi
    have c1 := h.at' t (by omega)
    have c2 := h.at' u (by omega)
    rw [show l.length - 1 - t = a by omega] at c1
    rw [show l.length - 1 - u = b by omega] at c2
    rw [ht, hu, h.next t (by omega), h.next u (by omega)]
    have key : rkN l (byteOf at' (r t)) + 1 < rkN l (byteOf at' (r u)) + 1 ↔ Lt1 l (byteOf at' (r t)) (byteOf at' (r u)) := by
      rw [← rk_iff l1 l2]
      omega
    rw [key]
    unfold Lt1
    rw [byte_mono n1 n2, ← c1, ← c2, hi]
    have la : a < out.length := by rw [h.len]; omega
    have lb : b < out.length := by rw [h.len]; omega
    rcases Int.lt_trichotomy (out.getD a 0) (out.getD b 0) with g | g | g
    · exact ⟨fun _ => ltE_less la lb g, fun _ => .inl g⟩
    · rw [ltE_same la lb g]
      constructor
      · rintro (g2 | g2)
        · omega
        · exact g2.2
      · exact fun g2 => .inr ⟨g, g2⟩
    · constructor
      · rintro (g2 | g2) <;> omega
      · intro g2
        exact (ltE_asymm g2 (ltE_less lb la g)).elim
/-- Of a walk through all rows the text is turned to just these bytes and this row. -/
theorem Walk.turn {l out : List Int} {at' : Nat} {r : Nat → Nat} (h : Walk l at' r out) (ha : at' ≤ l.length) : turnB out = (l, (at' : Int)) := by
  have ho := sortE_ord out
  have hA := ho.1
  have hE : ∀ i, i ≤ l.length → (out.length :: sortE out).getD (r (l.length - i)) 0 = i := by
    intro i hi
    have hp : (out.length :: sortE out).Perm (List.range (l.length + 1)) := by
      refine nodup_permN (ends_nodup hA) (fun x hx => ?_) (by rw [ends_len hA, h.len, List.length_range]; exact Nat.le_refl _)
      have := (ends_mem hA).1 hx
      rw [h.len] at this
      exact List.mem_range.2 (by omega)
    have hs : (out.length :: sortE out).Pairwise fun a b => ltD out a b = true := by
      refine List.pairwise_cons.2 ⟨fun b hb => ltD_iff.2 (ltE_end (Nat.le_refl _) (List.mem_range.1 (hA.mem_iff.1 hb))), ho.2.imp fun g => ltD_iff.2 g⟩
    obtain ⟨m, hm, em⟩ := mem_getN (hp.mem_iff.2 (List.mem_range.2 (show i < l.length + 1 by omega)))
    rw [ends_len hA, h.len] at hm
    have e1 := rank_at (R := ltD out) hp hs (fun a => Bool.eq_false_iff.2 fun g => ltE_irrefl (ltD_iff.1 g)) (fun a b g => Bool.eq_false_iff.2 fun k => ltE_asymm (ltD_iff.1 g) (ltD_iff.1 k)) hm
    rw [em] at e1
    have hr : ((List.range (l.length + 1)).map fun j => r (l.length - j)).Perm (List.range (l.length + 1)) := by
      refine inj_permN (fun j _ => by have := h.le (l.length - j) (by omega); omega) (fun a b ha' hb' e => ?_)
      rcases Nat.lt_trichotomy a b with g | g | g
      · exact absurd e.symm (h.inj ha (l.length - b) (l.length - a) (by omega) (by omega) (by omega))
      · exact g
      · exact absurd e (h.inj ha (l.length - a) (l.length - b) (by omega) (by omega) (by omega))
    have e2 := (hr.filter fun x => decide (x < r (l.length - i))).length_eq
    rw [count_lt (by have := h.le (l.length - i) (by omega); omega), List.filter_map, List.length_map] at e2
    have e3 : (List.range (l.length + 1)).filter ((fun x => decide (x < r (l.length - i))) ∘ fun j => r (l.length - j)) = (List.range (l.length + 1)).filter fun j => ltD out j i := by
      refine List.filter_congr fun j hj => ?_
      have hj' := List.mem_range.1 hj
      rw [Function.comp, Bool.eq_iff_iff, decide_eq_true_eq, ltD_iff]
      by_cases e : j = i
      · subst e
        exact ⟨fun g => by omega, fun g => absurd g ltE_irrefl⟩
      · exact h.order ha _ j i (Nat.le_refl _) (by omega) hi e
    rw [e3, e1] at e2
    rw [← e2]
    exact em
  have hat : bwAt out (sortE out) = at' := by
    have h0 := hE 0 (Nat.zero_le _)
    rw [Nat.sub_zero, h.stop] at h0
    exact ((at_is hA (by rw [h.len]; exact ha)).1 h0).symm
  have hl : bwL out (sortE out) = l := by
    refine rowI_ext (by rw [bw_len hA, h.len]) fun k hk => ?_
    rw [bw_len hA] at hk
    have hk' : k < l.length := by rw [← h.len]; exact hk
    rw [bw_at hA hk, ahead_at hA]
    have e0 : rowOf ((out.length :: sortE out).idxOf 0) k = rowOf at' k := by
      have : (out.length :: sortE out).idxOf 0 = at' := hat
      rw [this]
    rw [e0]
    have hrow : rowOf at' k ≤ l.length := by unfold rowOf; split <;> omega
    have hmem := ends_le hA (r := rowOf at' k) (by rw [h.len]; exact hrow)
    obtain ⟨i, ei⟩ : ∃ i, (out.length :: sortE out).getD (rowOf at' k) 0 = i := ⟨_, rfl⟩
    rw [ei] at hmem ⊢
    rw [h.len] at hmem
    have hi2 := hE i hmem
    have hrr : r (l.length - i) = rowOf at' k := nodup_getN (ends_nodup hA) (by rw [ends_len hA, h.len]; have := h.le (l.length - i) (by omega); omega) (by rw [ends_len hA, h.len]; omega) (by rw [hi2, ei])
    have hi0 : i ≠ 0 := fun e => by
      subst e
      rw [Nat.sub_zero, h.stop] at hrr
      exact row_ne hrr.symm
    have hc := h.at' (l.length - i) (by omega)
    rw [show l.length - 1 - (l.length - i) = i - 1 by omega, hrr, byte_row] at hc
    exact hc
  unfold turnB
  rw [hat, hl]
end Go.Proofs.Ytinnfcjkgddfeaa

/- A text turned by any row; the document's own loops. Plain numbers, no conditions. -/
namespace Go.Proofs.Ytinnfcjkgddfeaa
set_option linter.unusedVariables false
set_option linter.unusedSimpArgs false

/-- Of any row: the bytes; which row the whole text is. -/
def bwI (s a : List Int) : List Int := if lcpOk s a = true then bwL s (toN a) else []
def bwAtI (s a : List Int) : Int := if lcpOk s a = true then (bwAt s (toN a) : Int) else 0
theorem bwI_no {s a : List Int} (h : lcpOk s a = false) : bwI s a = [] := by unfold bwI; rw [h]; rfl
theorem bwAtI_no {s a : List Int} (h : lcpOk s a = false) : bwAtI s a = 0 := by unfold bwAtI; rw [h]; rfl
theorem bwI_nat {s : List Int} {A : List Nat} (h : lcpOk s (natL A) = true) : bwI s (natL A) = bwL s A := by unfold bwI; rw [if_pos h, toN_nat]
theorem bwAtI_nat {s : List Int} {A : List Nat} (h : lcpOk s (natL A) = true) : bwAtI s (natL A) = (bwAt s A : Int) := by unfold bwAtI; rw [if_pos h, toN_nat]
theorem bwI_len {s a : List Int} : (bwI s a).length ≤ s.length := by
  unfold bwI
  split
  · rename_i h
    have h1 : a.length = s.length ∧ ordB a = true := by
      unfold lcpOk at h
      rw [Bool.and_eq_true, decide_eq_true_eq] at h
      exact h
    have h2 := (ordB_cast h1.2).2
    rw [h1.1] at h2
    rw [bw_len h2]
    exact Nat.le_refl _
  · exact Nat.zero_le _
/-- Of the first so many rows. -/
def bwP (s : List Int) (A : List Nat) (i : Nat) : List Int := ((s.length :: A.take i).filter fun p => decide (p ≠ 0)).map fun p => s.getD (p - 1) 0
def atP (A : List Nat) (i : Nat) : Nat := if 0 ∈ A.take i then A.idxOf 0 + 1 else 0
theorem bwP_zero {s : List Int} (A : List Nat) (h : s.length ≠ 0) : bwP s A 0 = [s.getD (s.length - 1) 0] := by
  unfold bwP
  rw [List.take_zero, List.filter_cons, if_pos (decide_eq_true h)]
  rfl
theorem bwP_nought {s : List Int} {A : List Nat} {i : Nat} (hi : i < A.length) (h : A.getD i 0 = 0) : bwP s A (i + 1) = bwP s A i := by
  unfold bwP
  rw [takeN_succ hi, h, ← List.cons_append, List.filter_append]
  simp
theorem bwP_other {s : List Int} {A : List Nat} {i : Nat} (hi : i < A.length) (h : A.getD i 0 ≠ 0) : bwP s A (i + 1) = bwP s A i ++ [s.getD (A.getD i 0 - 1) 0] := by
  unfold bwP
  rw [takeN_succ hi, ← List.cons_append, List.filter_append, List.map_append]
  congr 1
  rw [List.filter_cons, if_pos (decide_eq_true h)]
  rfl
theorem bwP_len {s : List Int} {A : List Nat} {i : Nat} : (bwP s A i).length ≤ i + 1 := by
  unfold bwP
  rw [List.length_map]
  refine Nat.le_trans (List.length_filter_le _ _) ?_
  rw [List.length_cons, List.length_take]
  omega
theorem bwP_all {s : List Int} {A : List Nat} : bwP s A A.length = bwL s A := by
  unfold bwP
  rw [List.take_length]
  rfl
theorem atP_zero (A : List Nat) : atP A 0 = 0 := by unfold atP; simp
theorem atP_nought {A : List Nat} {i : Nat} (hA : A.Nodup) (hi : i < A.length) (h : A.getD i 0 = 0) : atP A (i + 1) = i + 1 := by
  have hm : 0 ∈ A.take (i + 1) := by rw [takeN_succ hi, h]; simp
  have hx : A.idxOf 0 = i := by
    have h1 : (0 : Nat) ∈ A := List.mem_of_mem_take hm
    have h2 := List.idxOf_lt_length_of_mem h1
    refine nodup_getN hA h2 hi ?_
    rw [h, List.getD_eq_getElem?_getD, List.getElem?_eq_getElem h2]
    exact List.getElem_idxOf h2
  unfold atP
  rw [if_pos hm, hx]
theorem atP_other {A : List Nat} {i : Nat} (hi : i < A.length) (h : A.getD i 0 ≠ 0) : atP A (i + 1) = atP A i := by
  unfold atP
  rw [takeN_succ hi]
  have : (0 ∈ A.take i ++ [A.getD i 0]) ↔ 0 ∈ A.take i := by
    rw [List.mem_append, List.mem_singleton]
    exact ⟨fun g => g.resolve_right fun e => h e.symm, .inl⟩
  simp only [this]
theorem atP_le {A : List Nat} {i : Nat} (hi : i ≤ A.length) : atP A i ≤ A.length + 1 := by
  unfold atP
  split
  · have := List.idxOf_le_length (a := 0) (l := A)
    omega
  · omega
theorem atP_all {s : List Int} {A : List Nat} (hA : A.Perm (List.range s.length)) (h0 : s.length ≠ 0) : atP A A.length = bwAt s A := by
  have hm : 0 ∈ A := hA.mem_iff.2 (List.mem_range.2 (by omega))
  unfold atP bwAt
  rw [List.take_length, if_pos hm, List.idxOf_cons]
  have : (s.length == 0) = false := by simpa using h0
  rw [this]
  rfl
theorem bwL_nil {A : List Nat} (h : A.Perm (List.range 0)) : bwL [] A = [] ∧ bwAt [] A = 0 := by
  have : A = [] := List.length_eq_zero_iff.1 (by rw [h.length_eq, List.length_range])
  subst this
  exact ⟨rfl, rfl⟩
theorem bwL_bytes {s : List Int} {A : List Nat} (hA : A.Perm (List.range s.length)) (h : ∀ z ∈ s, 0 ≤ z ∧ z ≤ 255) : ∀ z ∈ bwL s A, 0 ≤ z ∧ z ≤ 255 := fun z hz => h z ((bw_perm hA).mem_iff.1 hz)

/-- How many of the first so many are less, or like it and ahead. -/
def cntJ (l : List Int) (k J : Nat) : Nat := ((List.range J).filter fun j => decide (Lt1 l j k)).length
theorem cntJ_zero (l : List Int) (k : Nat) : cntJ l k 0 = 0 := rfl
theorem cntJ_yes {l : List Int} {k J : Nat} (h : Lt1 l J k) : cntJ l k (J + 1) = cntJ l k J + 1 := by
  unfold cntJ
  rw [List.range_succ, List.filter_append, List.length_append, List.filter_cons, if_pos (decide_eq_true h)]
  rfl
theorem cntJ_no {l : List Int} {k J : Nat} (h : ¬ Lt1 l J k) : cntJ l k (J + 1) = cntJ l k J := by
  unfold cntJ
  rw [List.range_succ, List.filter_append, List.length_append, List.filter_cons, if_neg (by rw [decide_eq_false h]; decide)]
  rfl
theorem cntJ_le (l : List Int) (k J : Nat) : cntJ l k J ≤ J := by
  unfold cntJ
  refine Nat.le_trans (List.length_filter_le _ _) ?_
  rw [List.length_range]
  exact Nat.le_refl _
theorem cntJ_all (l : List Int) (k : Nat) : cntJ l k l.length = rkN l k := rfl
theorem drop_set {l : List Int} {i : Nat} {z : Int} (h : i < l.length) : (l.set i z).drop i = z :: l.drop (i + 1) := by
  rw [drop_getD (by rw [List.length_set]; exact h), setI_same h, List.drop_set_of_lt (by omega)]
theorem bkGo_stop (l : List Int) (at' t : Nat) (out : List Int) : bkGo l at' (t + 1) at' out = none := by rw [bkGo, if_pos rfl]
theorem bkGo_next {l : List Int} {at' t row : Nat} {out : List Int} (h : row ≠ at') : bkGo l at' (t + 1) row out = bkGo l at' t (rkN l (byteOf at' row) + 1) (l.getD (byteOf at' row) 0 :: out) := by rw [bkGo, if_neg h]
theorem backB_out {l : List Int} {at' : Int} (h : rowMayB l at' = false) : backB l at' = ([], 5) := by
  unfold backB
  rw [h]
  rfl
theorem backB_none {l : List Int} {at' : Nat} (h : bkGo l at' l.length 0 [] = none) : backB l (at' : Int) = ([], 5) := by
  unfold backB
  split
  · rw [Int.toNat_natCast, h]
  · rfl
theorem backB_some {l out : List Int} {at' : Nat} (hm : rowMayB l at' = true) (h : bkGo l at' l.length 0 [] = some out) : backB l (at' : Int) = if turnB out = (l, (at' : Int)) then (out, 0) else ([], 5) := by
  unfold backB
  rw [if_pos hm, Int.toNat_natCast, h]
theorem backB_len (l : List Int) (at' : Int) : (backB l at').1.length ≤ l.length := by
  unfold backB
  split
  · split
    · exact Nat.zero_le _
    · rename_i out h
      split
      · rename_i e
        have := turnB_len out
        rw [e] at this
        show out.length ≤ _
        have h2 : l.length = out.length := this
        omega
      · exact Nat.zero_le _
  · exact Nat.zero_le _
end Go.Proofs.Ytinnfcjkgddfeaa

/- From how often bytes are there to the row of the longer ending; a walk that never meets the whole text's row. Plain numbers, no conditions. -/
namespace Go.Proofs.Ytinnfcjkgddfeaa
set_option linter.unusedVariables false
set_option linter.unusedSimpArgs false

/-- How many of the first J are less than b. -/
def ahC (l : List Int) : Nat → Nat → Nat
  | 0, _ => 0
  | b + 1, J => ahC l b J + cntI l b J
theorem ahC_none (l : List Int) (b : Nat) : ahC l b 0 = 0 := by
  induction b with
  | zero => rfl
  | succ b ih => rw [ahC, ih]; rfl
theorem ahC_step {l : List Int} {J : Nat} (h0 : 0 ≤ l.getD J 0) (b : Nat) : ahC l b (J + 1) = ahC l b J + if l.getD J 0 < (b : Int) then 1 else 0 := by
  induction b with
  | zero => rw [ahC, ahC, if_neg (by omega)]
  | succ b ih =>
    rw [ahC, ahC, ih, cntI_succ]
    by_cases g : l.getD J 0 < (b : Int)
    · rw [if_pos g, if_neg (by omega), if_pos (by omega)]; omega
    · rw [if_neg g]
      by_cases g2 : l.getD J 0 = (b : Int)
      · rw [if_pos g2, if_pos (by omega)]
        omega
      · rw [if_neg g2, if_neg (by omega)]
        omega
theorem ahC_le (l : List Int) (b J : Nat) : ahC l b J ≤ b * J := by
  induction b with
  | zero => rw [ahC]; omega
  | succ b ih =>
    rw [ahC, Nat.succ_mul]
    have := cntI_le l b J
    omega
theorem cntJ_sum {l : List Int} {k b : Nat} (hb : l.getD k 0 = (b : Int)) (h0 : ∀ j, 0 ≤ l.getD j 0) : ∀ J, cntJ l k J = ahC l b J + cntI l b (min J k) := by
  intro J
  induction J with
  | zero => rw [cntJ_zero, ahC_none, Nat.zero_min]; rfl
  | succ J ih =>
    rw [ahC_step (h0 J)]
    by_cases g : Lt1 l J k
    · rw [cntJ_yes g, ih]
      unfold Lt1 at g
      rw [hb] at g
      by_cases g1 : l.getD J 0 < (b : Int)
      · rw [if_pos g1]
        by_cases g2 : J < k
        · rw [show min (J + 1) k = J + 1 by omega, show min J k = J by omega, cntI_other (by omega)]
          omega
        · rw [show min (J + 1) k = min J k by omega]
          omega
      · obtain ⟨g2, g3⟩ := g.resolve_left g1
        rw [if_neg g1, show min (J + 1) k = J + 1 by omega, show min J k = J by omega, cntI_same g2]
        omega
    · rw [cntJ_no g, ih]
      unfold Lt1 at g
      rw [hb] at g
      rw [if_neg (by omega)]
      by_cases g2 : J < k
      · rw [show min (J + 1) k = J + 1 by omega, show min J k = J by omega, cntI_other (by omega)]
        omega
      · rw [show min (J + 1) k = min J k by omega]
        omega
theorem rk_sum {l : List Int} {k b : Nat} (hb : l.getD k 0 = (b : Int)) (h0 : ∀ j, 0 ≤ l.getD j 0) (hk : k ≤ l.length) : rkN l k = ahC l b l.length + cntI l b k := by
  rw [← cntJ_all, cntJ_sum hb h0, show min l.length k = k by omega]

/-- How often each byte is among the first i. -/
def oftL (l : List Int) (i : Nat) : List Int := (List.range 256).map fun (b : Nat) => ((cntI l b i : Nat) : Int)
/-- The first row of each byte's endings, and how often it was there so far. -/
def nxtL (l : List Int) (i : Nat) : List Int := (List.range 256).map fun (b : Nat) => ((ahC l b l.length + cntI l b i + 1 : Nat) : Int)
/-- The first rows of the first so many bytes. -/
def fstL (l : List Int) (q : Nat) : List Int := (List.range 256).map fun (b : Nat) => if b < q then ((ahC l b l.length + 1 : Nat) : Int) else 0
theorem oftL_len (l : List Int) (i : Nat) : (oftL l i).length = 256 := by simp [oftL]
theorem nxtL_len (l : List Int) (i : Nat) : (nxtL l i).length = 256 := by simp [nxtL]
theorem fstL_len (l : List Int) (i : Nat) : (fstL l i).length = 256 := by simp [fstL]
theorem oftL_at (l : List Int) (i : Nat) {b : Nat} (h : b < 256) : (oftL l i).getD b 0 = ((cntI l b i : Nat) : Int) := mapI_at _ _ h
theorem nxtL_at (l : List Int) (i : Nat) {b : Nat} (h : b < 256) : (nxtL l i).getD b 0 = ((ahC l b l.length + cntI l b i + 1 : Nat) : Int) := mapI_at _ _ h
theorem fstL_at (l : List Int) (q : Nat) {b : Nat} (h : b < 256) : (fstL l q).getD b 0 = if b < q then ((ahC l b l.length + 1 : Nat) : Int) else 0 := mapI_at _ _ h
theorem rep_at {n b : Nat} (h : b < n) : (List.replicate n (0 : Int)).getD b 0 = 0 := by simp [List.getD, h]
theorem oftL_zero (l : List Int) : oftL l 0 = List.replicate 256 0 := by
  refine rowI_ext (by rw [oftL_len, List.length_replicate]) fun b hb => ?_
  rw [oftL_len] at hb
  rw [oftL_at l 0 hb, rep_at hb]
  rfl
theorem fstL_zero (l : List Int) : fstL l 0 = List.replicate 256 0 := by
  refine rowI_ext (by rw [fstL_len, List.length_replicate]) fun b hb => ?_
  rw [fstL_len] at hb
  rw [fstL_at l 0 hb, rep_at hb, if_neg (by omega)]
theorem fstL_all (l : List Int) : fstL l 256 = nxtL l 0 := by
  refine rowI_ext (by rw [fstL_len, nxtL_len]) fun b hb => ?_
  rw [fstL_len] at hb
  rw [fstL_at l _ hb, nxtL_at l _ hb, if_pos hb]
  rfl
theorem oftL_next {l : List Int} {i q : Nat} (h : l.getD i 0 = (q : Int)) (hq : q < 256) : (oftL l i).set q ((cntI l q i + 1 : Nat) : Int) = oftL l (i + 1) := by
  refine rowI_ext (by rw [List.length_set, oftL_len, oftL_len]) fun b hb => ?_
  rw [List.length_set, oftL_len] at hb
  rw [oftL_at l _ hb]
  by_cases e : q = b
  · subst e
    rw [setI_same (by rw [oftL_len]; exact hb), cntI_same h]
  · rw [setI_other e, oftL_at l _ hb, cntI_other (by rw [h]; omega)]
theorem nxtL_next {l : List Int} {i q : Nat} (h : l.getD i 0 = (q : Int)) (hq : q < 256) : (nxtL l i).set q ((ahC l q l.length + cntI l q i + 1 + 1 : Nat) : Int) = nxtL l (i + 1) := by
  refine rowI_ext (by rw [List.length_set, nxtL_len, nxtL_len]) fun b hb => ?_
  rw [List.length_set, nxtL_len] at hb
  rw [nxtL_at l _ hb]
  by_cases e : q = b
  · subst e
    rw [setI_same (by rw [nxtL_len]; exact hb), cntI_same h]
    congr 1
  · rw [setI_other e, nxtL_at l _ hb, cntI_other (by rw [h]; omega)]
theorem fstL_next (l : List Int) {q : Nat} (hq : q < 256) : (fstL l q).set q ((ahC l q l.length + 1 : Nat) : Int) = fstL l (q + 1) := by
  refine rowI_ext (by rw [List.length_set, fstL_len, fstL_len]) fun b hb => ?_
  rw [List.length_set, fstL_len] at hb
  rw [fstL_at l _ hb]
  by_cases e : q = b
  · subst e
    rw [setI_same (by rw [fstL_len]; exact hb), if_pos (by omega)]
  · rw [setI_other e, fstL_at l _ hb]
    by_cases g : b < q
    · rw [if_pos g, if_pos (by omega)]
    · rw [if_neg g, if_neg (by omega)]

/-- The rows of the longer endings of the first so many. -/
def lonL (l : List Int) (i : Nat) : List Int := (List.range l.length).map fun (j : Nat) => if j < i then ((rkN l j + 1 : Nat) : Int) else 0
theorem lonL_len (l : List Int) (i : Nat) : (lonL l i).length = l.length := by simp [lonL]
theorem lonL_at (l : List Int) (i : Nat) {j : Nat} (h : j < l.length) : (lonL l i).getD j 0 = if j < i then ((rkN l j + 1 : Nat) : Int) else 0 := mapI_at _ _ h
theorem lonL_zero (l : List Int) : lonL l 0 = List.replicate l.length 0 := by
  refine rowI_ext (by rw [lonL_len, List.length_replicate]) fun b hb => ?_
  rw [lonL_len] at hb
  rw [lonL_at l 0 hb, rep_at hb, if_neg (by omega)]
theorem lonL_next (l : List Int) {i : Nat} (hi : i < l.length) : (lonL l i).set i ((rkN l i + 1 : Nat) : Int) = lonL l (i + 1) := by
  refine rowI_ext (by rw [List.length_set, lonL_len, lonL_len]) fun b hb => ?_
  rw [List.length_set, lonL_len] at hb
  rw [lonL_at l _ hb]
  by_cases e : i = b
  · subst e
    rw [setI_same (by rw [lonL_len]; exact hb), if_pos (by omega)]
  · rw [setI_other e, lonL_at l _ hb]
    by_cases g : b < i
    · rw [if_pos g, if_pos (by omega)]
    · rw [if_neg g, if_neg (by omega)]
theorem lonL_all (l : List Int) {j : Nat} (h : j < l.length) : (lonL l l.length).getD j 0 = ((rkN l j + 1 : Nat) : Int) := by rw [lonL_at l _ h, if_pos h]

theorem bkGo_walk {l : List Int} {k : Nat} : ∀ (i row : Nat) (acc out : List Int), bkGo l k i row acc = some out →
    ∃ r : Nat → Nat, r 0 = row ∧ (∀ t, t < i → r t ≠ k ∧ r (t + 1) = rkN l (byteOf k (r t)) + 1) ∧ out.length = i + acc.length ∧ (∀ t, t < i → out.getD (i - 1 - t) 0 = l.getD (byteOf k (r t)) 0) ∧ out.drop i = acc := by
  intro i
  induction i with
  | zero =>
    intro row acc out h
    rw [bkGo] at h
    cases h
    exact ⟨fun _ => row, rfl, fun t ht => by omega, by omega, fun t ht => by omega, by simp⟩
  | succ i ih =>
    intro row acc out h
    rw [bkGo] at h
    split at h
    · cases h
    · rename_i hne
      obtain ⟨r, h1, h2, h3, h4, h5⟩ := ih _ _ _ h
      rw [List.length_cons] at h3
      refine ⟨fun t => match t with | 0 => row | t + 1 => r t, rfl, fun t ht => ?_, by omega, fun t ht => ?_, ?_⟩
      · match t with
        | 0 => exact ⟨hne, h1⟩
        | t + 1 => exact h2 t (by omega)
      · match t with
        | 0 =>
          have e : out.getD i 0 = (out.drop i).getD 0 0 := by simp [List.getD_eq_getElem?_getD]
          rw [show i + 1 - 1 - 0 = i by omega, e, h5]
          rfl
        | t + 1 =>
          have := h4 t (by omega)
          rw [show i + 1 - 1 - (t + 1) = i - 1 - t by omega]
          exact this
      · have : out.drop (i + 1) = (out.drop i).drop 1 := by rw [List.drop_drop]
        rw [this, h5]
        rfl
/-- What is walked through is a text's. -/
theorem bkGo_turn {l out : List Int} {k : Nat} (hk : k ≤ l.length) (h : bkGo l k l.length 0 [] = some out) : turnB out = (l, (k : Int)) := by
  obtain ⟨r, h1, h2, h3, h4, _⟩ := bkGo_walk _ _ _ _ h
  have hle : ∀ t, t ≤ l.length → r t ≤ l.length := by
    intro t
    induction t with
    | zero => intro _; rw [h1]; omega
    | succ t ih =>
      intro ht
      obtain ⟨g1, g2⟩ := h2 t (by omega)
      have := rk_lt (byte_lt (ih (by omega)) hk g1)
      omega
  have hinj : ∀ a b, a ≤ l.length → b ≤ l.length → a < b → r a ≠ r b := by
    intro a
    induction a with
    | zero =>
      intro b _ hb hab e
      have := (h2 (b - 1) (by omega)).2
      rw [show b - 1 + 1 = b by omega] at this
      omega
    | succ a ih =>
      intro b g1 g2 hab e
      obtain ⟨n1, e1⟩ := h2 a (by omega)
      obtain ⟨n2, e2⟩ := h2 (b - 1) (by omega)
      rw [show b - 1 + 1 = b by omega] at e2
      exact ih (b - 1) (by omega) (by omega) (by omega) (byte_inj n1 n2 (rk_inj (byte_lt (hle a (by omega)) hk n1) (byte_lt (hle (b - 1) (by omega)) hk n2) (by omega)))
  have hstop : r l.length = k := by
    have hp : ((List.range (l.length + 1)).map r).Perm (List.range (l.length + 1)) := by
      refine inj_permN (fun t ht => by have := hle t (by omega); omega) (fun a b ha hb e => ?_)
      rcases Nat.lt_trichotomy a b with g | g | g
      · exact absurd e (hinj a b (by omega) (by omega) g)
      · exact g
      · exact absurd e.symm (hinj b a (by omega) (by omega) g)
    have hm := hp.mem_iff.2 (List.mem_range.2 (show k < l.length + 1 by omega))
    obtain ⟨t, ht, e⟩ := List.mem_map.1 hm
    rw [List.mem_range] at ht
    by_cases g : t = l.length
    · rw [← g]; exact e
    · exact absurd e (h2 t (by omega)).1
  exact Walk.turn (r := r) ⟨by rw [h3]; rfl, h1, fun t ht => (h2 t ht).1, hle, fun t ht => (h2 t ht).2, hstop, h4⟩ hk
theorem back_go {l out : List Int} {k : Nat} (hk : k ≤ l.length) (h : bkGo l k l.length 0 [] = some out) : backB l (k : Int) = (out, 0) := back_yes (bkGo_turn hk h)
end Go.Proofs.Ytinnfcjkgddfeaa

/- A row that is filled from its beginning on; where the next of each byte goes. Plain numbers, no conditions. -/
namespace Go.Proofs.Ytinnfcjkgddfeaa
set_option linter.unusedVariables false
set_option linter.unusedSimpArgs false
open Go.RowKit

/-- A row of n numbers, the first i of them in. -/
def upL (f : Nat → Int) (n i : Nat) : List Int := (List.range n).map fun j => if j < i then f j else 0
theorem upL_len (f : Nat → Int) (n i : Nat) : (upL f n i).length = n := by simp [upL]
theorem upL_at (f : Nat → Int) (i : Nat) {n j : Nat} (h : j < n) : (upL f n i).getD j 0 = if j < i then f j else 0 := mapI_at _ _ h
theorem upL_zero (f : Nat → Int) (n : Nat) : upL f n 0 = List.replicate n 0 := by
  refine rowI_ext (by rw [upL_len, List.length_replicate]) fun b hb => ?_
  rw [upL_len] at hb
  rw [upL_at f 0 hb, rep_at hb, if_neg (by omega)]
theorem upL_next (f : Nat → Int) {n i : Nat} (hi : i < n) : (upL f n i).set i (f i) = upL f n (i + 1) := by
  refine rowI_ext (by rw [List.length_set, upL_len, upL_len]) fun b hb => ?_
  rw [List.length_set, upL_len] at hb
  rw [upL_at f _ hb]
  by_cases e : i = b
  · subst e
    rw [setI_same (by rw [upL_len]; exact hb), if_pos (by omega)]
  · rw [setI_other e, upL_at f _ hb]
    by_cases g : b < i
    · rw [if_pos g, if_pos (by omega)]
    · rw [if_neg g, if_neg (by omega)]
theorem upL_row (l : List Int) : upL (fun j => l.getD j 0) l.length l.length = l := by
  refine rowI_ext (upL_len _ _ _) fun b hb => ?_
  rw [upL_len] at hb
  rw [upL_at _ _ hb, if_pos hb]
theorem upL_lf (l : List Int) : upL (fun j => ((rkN l j : Nat) : Int)) l.length l.length = natL (lfN l) := by
  refine rowI_ext (by rw [upL_len, natL_len, lfN_len]) fun b hb => ?_
  rw [upL_len] at hb
  rw [upL_at _ _ hb, if_pos hb, natL_at, lfN_at hb]

/-- Where the next of each byte goes, the first i of them laid. -/
def nexL (l : List Int) (i : Nat) : List Int := (List.range 256).map fun (b : Nat) => ((ahC l b l.length + cntI l b i : Nat) : Int)
theorem nexL_len (l : List Int) (i : Nat) : (nexL l i).length = 256 := by simp [nexL]
theorem nexL_at (l : List Int) (i : Nat) {b : Nat} (h : b < 256) : (nexL l i).getD b 0 = ((ahC l b l.length + cntI l b i : Nat) : Int) := mapI_at _ _ h
theorem nexL_next {l : List Int} {i q : Nat} (h : l.getD i 0 = (q : Int)) (hq : q < 256) : (nexL l i).set q ((ahC l q l.length + cntI l q i + 1 : Nat) : Int) = nexL l (i + 1) := by
  refine rowI_ext (by rw [List.length_set, nexL_len, nexL_len]) fun b hb => ?_
  rw [List.length_set, nexL_len] at hb
  rw [nexL_at l _ hb]
  by_cases e : q = b
  · subst e
    rw [setI_same (by rw [nexL_len]; exact hb), cntI_same h]
    congr 1
  · rw [setI_other e, nexL_at l _ hb, cntI_other (by rw [h]; omega)]
theorem ahC_sum (l : List Int) : ∀ q : Nat, q ≤ 256 → sumI (natL (cntsI l 256)) q = ((ahC l q l.length : Nat) : Int) := by
  intro q
  induction q with
  | zero => intro _; rfl
  | succ q ih =>
    intro hq
    rw [sumI, ih (by omega), ahC, natL_at, cntsI_at l (by omega)]
    omega
theorem nexL_zero (l : List Int) : startsI (natL (cntsI l 256)) = nexL l 0 := by
  have hl : (natL (cntsI l 256)).length = 256 := by rw [natL_len, cntsI_len]
  refine rowI_ext (by rw [startsI_len, hl, nexL_len]) fun b hb => ?_
  rw [startsI_len, hl] at hb
  rw [startsI_at _ (by rw [hl]; exact hb), nexL_at l _ hb, ahC_sum l b (by omega)]
  rfl
theorem fitB_bytes {l : List Int} (h : Bytes8 l) : fitB l 256 = true := fitB_iff.2 ⟨by omega, by omega, goodI_of fun j hj => ⟨(h.get j).1, by have := (h.get j).2; omega⟩⟩
theorem sum_bound {l : List Int} (h : l.length ≤ 100000) : ∀ i, i ≤ (natL (cntsI l 256)).length → -4611686018427387904 ≤ sumI (natL (cntsI l 256)) i ∧ sumI (natL (cntsI l 256)) i ≤ 4611686018427387904 := fun i hi => by
  rw [natL_len, cntsI_len] at hi
  rw [ahC_sum l i hi]
  have h1 := ahC_le l i l.length
  have h2 : i * l.length ≤ 256 * 100000 := Nat.mul_le_mul hi h
  omega
end Go.Proofs.Ytinnfcjkgddfeaa

/- Contract of bucket.fit. -/
namespace Go.Proofs.Ytinnfcjkgddfeaa
set_option linter.unusedVariables false
set_option linter.unusedSimpArgs false
open Go.RowKit

set_option maxHeartbeats 400000 in
theorem fit_any (v : Value) (zs : List Int) (k : Int) (w : World) (hv : Sl .i64 w v zs) (hlen : zs.length ≤ 1000000) :
    Calls Try.prog 46 #[v, .int .i64 k] w fun e w' => e = .returned (.bool (fitB zs k)) ∧ w' = w := by
  have HV := hide' hv
  obtain ⟨a, c, rfl, _⟩ := hv
  obtain ⟨_, _, _, hcv⟩ := HV.out.int
  have CV := hide' hcv
  obtain ⟨n, HN⟩ : ∃ n, Hid (zs.length = n) := ⟨_, rfl⟩
  rw [HN.out] at CV hlen ⊢
  clear hcv HV
  by_cases h0 : k < 0
  · have HF : Hid (fitB zs k = false) := fitB_neg h0
    go_enter Try.func46, Try.ntmps46
    go_wp2
    go_ret
    rw [HF.out]
    exact ⟨rfl, rfl⟩
  · by_cases h1 : 1048576 < k
    · have HF : Hid (fitB zs k = false) := fitB_big h1
      have d0 : decide (k < 0) = false := by simp; omega
      go_enter Try.func46, Try.ntmps46
      go_wp2
      go_ret
      rw [HF.out]
      exact ⟨rfl, rfl⟩
    · have HF : Hid (fitB zs k = goodI k zs) := fitB_eq (by omega) (by omega)
      have d0 : decide (k < 0) = false := by simp; omega
      have d1 : decide (1048576 < k) = false := by simp; omega
      rw [HF.out]
      go_enter Try.func46, Try.ntmps46
      go_wp2
      go_loopw [15] (fun vi wr => ∃ (i : Nat), i ≤ n ∧ vi = .int .i64 i ∧ Hid (∀ j, j < i → 0 ≤ zs.getD j 0 ∧ zs.getD j 0 < k) ∧ wr = w) (fun vi _ => n - (intOf vi).toNat)
      case atStart => exact ⟨0, Nat.zero_le _, rfl, (fun j hj => by omega), rfl⟩
      case round =>
        obtain ⟨i, hi, rfl, HG, rfl⟩ := hrel
        by_cases hlt : i < n
        · have hlt' : (i : Int) < n := by omega
          obtain ⟨g1, o1, rfl, k1⟩ := CV.out (by omega)
          have c1 := k1 i hlt
          clear k1
          obtain ⟨z, HZ⟩ : ∃ z, Hid (zs.getD i 0 = z) := ⟨_, rfl⟩
          rw [HZ.out] at c1
          by_cases hz : z < 0
          · have HB : Hid (goodI k zs = false) := goodI_bad (j := i) (by rw [HN.out]; exact hlt) (by rw [HZ.out]; exact .inl hz)
            go_wp2
            go_ret
            rw [HB.out]
            exact ⟨rfl, rfl⟩
          · have dz : decide (z < 0) = false := by simp; omega
            by_cases hzk : k ≤ z
            · have HB : Hid (goodI k zs = false) := goodI_bad (j := i) (by rw [HN.out]; exact hlt) (by rw [HZ.out]; exact .inr hzk)
              go_wp2
              go_ret
              rw [HB.out]
              exact ⟨rfl, rfl⟩
            · have dk : decide (k ≤ z) = false := by simp; omega
              go_wp2
              go_roundw
              case rel =>
                refine ⟨i + 1, by omega, by go_num, (fun j hj => ?_), by first | trivial | rfl⟩
                by_cases e : j = i
                · subst e; rw [HZ.out]; omega
                · exact HG.out j (by omega)
              case measure => simp [intOf]; omega
        · have hlt' : decide ((i : Int) < n) = false := by simp; omega
          have HB : Hid (goodI k zs = true) := goodI_of fun j hj => HG.out j (by rw [HN.out] at hj; omega)
          go_wp2
          go_ret
          rw [HB.out]
          exact ⟨rfl, rfl⟩
end Go.Proofs.Ytinnfcjkgddfeaa

/- Contract of bucket.Counts. -/
namespace Go.Proofs.Ytinnfcjkgddfeaa
set_option linter.unusedVariables false
set_option linter.unusedSimpArgs false
open Go.RowKit

/-- How often each key is there, if all may be. -/
def countsI (zs : List Int) (k : Int) : List Int := if fitB zs k = true then natL (cntsI zs k.toNat) else []
theorem countsI_yes {zs : List Int} {k : Int} (h : fitB zs k = true) : countsI zs k = natL (cntsI zs k.toNat) := if_pos h
theorem countsI_no {zs : List Int} {k : Int} (h : fitB zs k = false) : countsI zs k = [] := by unfold countsI; rw [h]; rfl

set_option maxHeartbeats 400000 in
theorem counts_any (v : Value) (zs : List Int) (k : Int) (w : World) (hv : Sl .i64 w v zs) (hlen : zs.length ≤ 1000000) :
    Calls Try.prog 43 #[v, .int .i64 k] w fun e w' => ∃ s, e = .returned (.tuple #[s, .bool (fitB zs k)]) ∧ Own .i64 3 w.heap.size w' s (countsI zs k) ∧ Ext w w' := by
  have HV := hide' hv
  have HLEN := hide' hlen
  obtain ⟨a, c, rfl, _⟩ := hv
  obtain ⟨_, _, _, hcv⟩ := HV.out.int
  have CV := hide' hcv
  obtain ⟨n, HN⟩ : ∃ n, Hid (zs.length = n) := ⟨_, rfl⟩
  rw [HN.out] at CV hlen HV ⊢
  clear hcv
  by_cases hf : fitB zs k = true
  · have HF := hide' hf
    obtain ⟨h0, h1, hg⟩ := fitB_iff.1 hf
    have HG := hide' hg
    obtain ⟨K, rfl⟩ := Int.eq_ofNat_of_zero_le h0
    have HC : Hid (countsI zs (K : Int) = natL (cntsI zs K)) := countsI_yes hf
    rw [HC.out, HF.out]
    clear hf hg h0
    go_enter Try.func43, Try.ntmps43
    go_wp2_with fail
    refine (fit_any _ zs _ _ HV.out HLEN.out).mono ?_
    rw [HF.out]
    rintro e _ ⟨rfl, hw⟩
    rw [hw]
    clear hw
    obtain ⟨w1, hmk, ho, he⟩ := make_natsB w K (by omega)
    have HO := hide' ho
    have HE := hide' he
    clear ho he
    go_wp2
    clear hmk
    go_loopw [17] (fun vi wr => ∃ (i : Nat) (bs : List Nat), i ≤ n ∧ vi = .int .i64 i ∧ Hid (bs.length = K) ∧ Hid (∀ q, q < K → bs.getD q 0 = cntI zs q i) ∧
      Hid (Own .i64 3 w.heap.size wr (.slice (some ⟨w.heap.size, 0, none⟩) K K) (natL bs)) ∧ Hid (Ext w wr)) (fun vi _ => n - (intOf vi).toNat)
    case atStart => exact ⟨0, List.replicate K 0, Nat.zero_le _, rfl, List.length_replicate, (fun q hq => by simp [cntI, List.getD, hq]), HO, HE⟩
    case round =>
      clear HO HE
      obtain ⟨i, bs, hi, rfl, HL, HB, HO, HE⟩ := hrel
      by_cases hlt : i < n
      · have hlt' : (i : Int) < n := by omega
        obtain ⟨g1, o1, rfl, k1⟩ := CV.out (by omega)
        have c1 := HE.out.cellOf (k1 i hlt)
        clear k1
        have hz := goodI_at HG.out (j := i) (by rw [HN.out]; exact hlt)
        obtain ⟨z, HZ⟩ : ∃ z, Hid (zs.getD i 0 = z) := ⟨_, rfl⟩
        rw [HZ.out] at c1 hz
        obtain ⟨q, rfl⟩ := Int.eq_ofNat_of_zero_le hz.1
        have hq : (q : Int) < K := hz.2
        have hq2 : q < K := by omega
        clear hz
        have hfz := HO.out.frozen (by rw [natL_len]; exact HL.out) q
        have hci := HO.out.intCell HL.out q hq2
        rw [HB.out q hq2] at hci
        have hcn := cntI_le zs q i
        obtain ⟨t, HT⟩ : ∃ t, Hid (cntI zs q i = t) := ⟨_, rfl⟩
        rw [HT.out] at hci hcn
        have HO2 := hide' (HO.out.storeN HL.out q (t + 1))
        go_wp2
        go_roundw
        case rel =>
          refine ⟨i + 1, bs.set q (t + 1), by omega, by go_num, (show _ = _ by rw [List.length_set]; exact HL.out), fun r hr => ?_, HO2, Ext.but HE.out (Nat.le_refl _) (but_set _ _ _ _)⟩
          by_cases hrq : r = q
          · subst hrq; rw [set_same (by rw [HL.out]; exact hq2), cntI_same HZ.out, HT.out]
          · rw [set_other (by omega), HB.out r hr, cntI_other (by rw [HZ.out]; omega)]
        case measure => simp [intOf]; omega
      · have hlt' : decide ((i : Int) < n) = false := by simp; omega
        have hin : i = n := by omega
        subst hin
        have HQ : Hid (bs = cntsI zs K) := natL_ext (by rw [HL.out, cntsI_len]) fun q hq => by
          rw [HL.out] at hq
          rw [HB.out q hq, cntsI_at zs hq, HN.out]
        go_wp2
        go_ret2
        exact ⟨_, rfl, by rw [← HQ.out]; exact HO.out, HE.out⟩
  · have hf' : fitB zs k = false := by simpa using hf
    have HF := hide' hf'
    have HC : Hid (countsI zs k = []) := countsI_no hf'
    rw [HC.out, HF.out]
    clear hf hf'
    go_enter Try.func43, Try.ntmps43
    go_wp2_with fail
    refine (fit_any _ zs _ _ HV.out HLEN.out).mono ?_
    rw [HF.out]
    rintro e _ ⟨rfl, hw⟩
    rw [hw]
    clear hw
    go_wp2
    go_ret2
    exact ⟨_, rfl, Own.nil _ _ _ _, Ext.refl _⟩
end Go.Proofs.Ytinnfcjkgddfeaa

/- Contract of bucket.Starts. -/
namespace Go.Proofs.Ytinnfcjkgddfeaa
set_option linter.unusedVariables false
set_option linter.unusedSimpArgs false
open Go.RowKit

set_option maxHeartbeats 400000 in
theorem starts_any (v : Value) (cs : List Int) (w : World) (hv : Sl .i64 w v cs) (hlen : cs.length ≤ 4000000) (hb : ∀ i, i ≤ cs.length → -4611686018427387904 ≤ sumI cs i ∧ sumI cs i ≤ 4611686018427387904) :
    Calls Try.prog 44 #[v] w fun e w' => ∃ s, e = .returned s ∧ Own .i64 3 w.heap.size w' s (startsI cs) ∧ Ext w w' := by
  have HV := hide' hv
  obtain ⟨a, c, rfl, _⟩ := hv
  obtain ⟨_, _, _, hcv⟩ := HV.out.int
  have CV := hide' hcv
  have HBD := hide' hb
  obtain ⟨n, HN⟩ : ∃ n, Hid (cs.length = n) := ⟨_, rfl⟩
  rw [HN.out] at CV hlen HBD ⊢
  clear hcv hb HV
  obtain ⟨w1, hmk, ho, he⟩ := make_intsB w n hlen
  have HO := hide' ho
  have HE := hide' he
  clear ho he
  go_enter Try.func44, Try.ntmps44
  go_wp2
  clear hmk
  go_loopw [4, 12] (fun vs vi wr => ∃ (i : Nat) (t : Int) (bs : List Int), i ≤ n ∧ vs = .int .i64 t ∧ vi = .int .i64 i ∧ Hid (sumI cs i = t) ∧ Hid (bs.length = n) ∧ Hid (∀ j, j < i → bs.getD j 0 = sumI cs j) ∧
    Hid (Own .i64 3 w.heap.size wr (.slice (some ⟨w.heap.size, 0, none⟩) n n) bs) ∧ Hid (Ext w wr)) (fun _ vi _ => n - (intOf vi).toNat)
  case atStart => exact ⟨0, 0, List.replicate n 0, Nat.zero_le _, rfl, rfl, (show _ = _ from rfl), List.length_replicate, (fun j hj => by omega), HO, HE⟩
  case round =>
    clear HO HE
    obtain ⟨i, t, bs, hi, rfl, rfl, HT, HL, HB, HO, HE⟩ := hrel
    by_cases hlt : i < n
    · have hlt' : (i : Int) < n := by omega
      obtain ⟨g1, o1, rfl, k1⟩ := CV.out (by omega)
      have c1 := HE.out.cellOf (k1 i hlt)
      clear k1
      have b1 := HBD.out i (by omega)
      have b2 := HBD.out (i + 1) (by omega)
      have HS : Hid (sumI cs (i + 1) = t + cs.getD i 0) := by show _ = _; rw [← HT.out]; rfl
      rw [HS.out] at b2
      rw [HT.out] at b1
      obtain ⟨z, HZ⟩ : ∃ z, Hid (cs.getD i 0 = z) := ⟨_, rfl⟩
      rw [HZ.out] at c1 b2 HS
      have hfz := HO.out.frozen HL.out i
      have hci := HO.out.cell HL.out i hlt
      have HO2 := hide' (HO.out.store HL.out i t)
      have hsum : IntKind.i64.wrap (t + z) = t + z := by rw [IntKind.wrap_i64]; omega
      go_wp2
      go_roundw
      case rel =>
        refine ⟨i + 1, t + z, bs.set i t, by omega, by first | rfl | go_num, by go_num, HS, (show _ = _ by rw [List.length_set]; exact HL.out), fun j hj => ?_, HO2, Ext.but HE.out (Nat.le_refl _) (but_set _ _ _ _)⟩
        by_cases hji : j = i
        · subst hji; rw [setI_same (by rw [HL.out]; exact hlt), HT.out]
        · rw [setI_other (by omega), HB.out j (by omega)]
      case measure => simp [intOf]; omega
    · have hlt' : decide ((i : Int) < n) = false := by simp; omega
      have hin : i = n := by omega
      subst hin
      have HQ : Hid (bs = startsI cs) := getD_ext (by rw [HL.out, startsI_len, HN.out]) fun j hj => by
        rw [HL.out] at hj
        rw [HB.out j hj, startsI_at cs (by rw [HN.out]; exact hj)]
      go_wp2
      go_ret
      exact ⟨_, rfl, by rw [← HQ.out]; exact HO.out, HE.out⟩
end Go.Proofs.Ytinnfcjkgddfeaa

/- Contract of lf.firstPlaces. -/
namespace Go.Proofs.Ytinnfcjkgddfeaa
set_option linter.unusedVariables false
set_option linter.unusedSimpArgs false
open Go.RowKit

set_option maxHeartbeats 1000000 in
theorem firstPlaces_any (v : Value) (l : List Int) (w : World) (hv : Sl .u8 w v l) (h8 : Bytes8 l) (hs : l.length ≤ 100000) :
    Calls Try.prog 32 #[v] w fun e w' => ∃ r, e = .returned r ∧ Own .i64 3 w.heap.size w' r (nexL l 0) ∧ Ext w w' := by
  have HV := hide' hv
  have H8 := hide' h8
  have HFB := hide' (fitB_bytes h8)
  have HCN : Hid (countsI l 256 = natL (cntsI l 256)) := countsI_yes HFB.out
  have HSB := hide' (sum_bound hs)
  have HNX := hide' (nexL_zero l)
  have HLC : Hid ((natL (cntsI l 256)).length ≤ 4000000) := by show _ ≤ _; rw [natL_len, cntsI_len]; omega
  have HLS := hide' hs
  obtain ⟨va, vc, rfl, _⟩ := hv
  obtain ⟨n, HN⟩ : ∃ n, Hid (l.length = n) := ⟨_, rfl⟩
  have HUR := hide' (upL_row l)
  have HU0 := hide' (upL_zero (fun j => l.getD j 0) n)
  have HUN := hide' (fun i (h : i < n) => upL_next (fun j => l.getD j 0) h)
  have HUL := hide' (upL_len (fun j => l.getD j 0) n)
  rw [HN.out] at HV hs HUR ⊢
  obtain ⟨K, HK⟩ : ∃ K : Nat → List Int, Hid (∀ i, upL (fun j => l.getD j 0) n i = K i) := ⟨_, fun _ => rfl⟩
  rw [HK.out] at HUR HU0
  have HKN : Hid (∀ i, i < n → (K i).set i (l.getD i 0) = K (i + 1)) := fun i hi => by have := HUN.out i hi; rwa [HK.out, HK.out] at this
  have HKL : Hid (∀ i, (K i).length = n) := fun i => by have := HUL.out i; rwa [HK.out] at this
  have VA : Hid (0 < n → ∃ g off, va = some ⟨g, off, none⟩ ∧ ∀ j, j < n → w.cell? ⟨g, off + j, none⟩ = some (.int .u8 (l.getD j 0))) := fun h0 => by
    obtain ⟨_, g, off, h1, h2⟩ := HV.out.at (fun e => by have := HN.out; rw [e] at this; simp at this; omega)
    exact ⟨g, off, h1, fun j hj => h2 j hj⟩
  obtain ⟨w1, hmk, ho, he⟩ := make_intsB w n (by omega)
  rw [← HU0.out] at ho
  have HO := hide' ho
  have HE := hide' he
  clear ho he h8 HK HUN HUL HU0
  go_enter Try.func32, Try.ntmps32
  go_wp2
  clear hmk
  go_loopw [13] (fun vi wr => ∃ (i : Nat), i ≤ n ∧ vi = .int .i64 i ∧ Hid (Own .i64 3 w.heap.size wr (.slice (some ⟨w.heap.size, 0, none⟩) n n) (K i)) ∧ Hid (Ext w wr)) (fun vi _ => n - (intOf vi).toNat)
  case atStart => exact ⟨0, Nat.zero_le _, rfl, HO, HE⟩
  case round =>
    clear HO HE
    obtain ⟨i, hi, rfl, HO, HE⟩ := hrel
    by_cases hlt : i < n
    · have hlt' : (i : Int) < n := by omega
      obtain ⟨b, o, rfl, k1⟩ := VA.out (by omega)
      have c1 := HE.out.cellOf (k1 i hlt)
      clear k1
      have hz := H8.out.get i
      have hst := HKN.out i hlt
      obtain ⟨z, HZ⟩ : ∃ z, Hid (l.getD i 0 = z) := ⟨_, rfl⟩
      rw [HZ.out] at c1 hz hst
      have hcv : IntKind.i64.wrap z = z := by rw [IntKind.wrap_i64]; omega
      have hfz := HO.out.frozen (HKL.out i) i
      have hci := HO.out.cell (HKL.out i) i hlt
      have ho2 := HO.out.store (HKL.out i) i z
      rw [hst] at ho2
      have HO2 := hide' ho2
      have HE2 := hide' (Ext.but HE.out (Nat.le_refl _) (but_set wr w.heap.size i (.int .i64 z)))
      clear ho2 hst
      go_wp2
      go_roundw
      case rel => exact ⟨i + 1, by omega, by go_num, HO2, HE2⟩
      case measure => simp [intOf]; omega
    · have hlt' : decide ((i : Int) < n) = false := by simp; omega
      have hin : i = n := by omega
      have HO1 : Hid (Own .i64 3 w.heap.size wr (.slice (some ⟨w.heap.size, 0, none⟩) n n) l) := by
        have := HO.out
        rw [hin, HUR.out] at this
        exact this
      clear hin HO
      go_wp2_with fail
      refine (counts_any _ l _ _ HO1.out.sl (by have := HLS.out; omega)).mono ?_
      rw [HFB.out, HCN.out]
      rintro e w3 ⟨s3, rfl, ho3, he3⟩
      have HO3 := hide' ho3
      have HE3 := hide' (HE.out.trans he3)
      clear ho3 he3
      go_wp2_with fail
      refine (starts_any _ _ _ HO3.out.sl HLC.out HSB.out).mono ?_
      rw [HNX.out]
      rintro e w4 ⟨s4, rfl, ho4, he4⟩
      have HO4 := hide' (ho4.low HE3.out.size)
      have HE4 := hide' (HE3.out.trans he4)
      clear ho4 he4 HO3 HE3
      go_wp2
      go_ret
      exact ⟨_, rfl, HO4.out, HE4.out⟩
end Go.Proofs.Ytinnfcjkgddfeaa

/- Contract of lf.Of. -/
namespace Go.Proofs.Ytinnfcjkgddfeaa
set_option linter.unusedVariables false
set_option linter.unusedSimpArgs false
open Go.RowKit

set_option maxHeartbeats 2000000 in
theorem lfOf_any (v : Value) (l : List Int) (w : World) (hv : Sl .u8 w v l) (h8 : Bytes8 l) (hs : l.length ≤ 100000) :
    Calls Try.prog 20 #[v] w fun e w' => ∃ r, e = .returned r ∧ Own .i64 3 w.heap.size w' r (natL (lfN l)) ∧ Ext w w' := by
  have HV := hide' hv
  have H8 := hide' h8
  have C := hide' (firstPlaces_any v l w hv h8 hs)
  obtain ⟨va, vc, rfl, _⟩ := hv
  obtain ⟨n, HN⟩ : ∃ n, Hid (l.length = n) := ⟨_, rfl⟩
  have HUR := hide' (upL_lf l)
  have HRK : Hid (∀ k b : Nat, k < n → l.getD k 0 = (b : Int) → rkN l k = ahC l b n + cntI l b k) := fun k b hk hb => by
    have := rk_sum (l := l) (k := k) hb (fun j => (H8.out.get j).1) (by rw [HN.out]; omega)
    rw [HN.out] at this
    exact this
  rw [HN.out] at HV hs HUR C ⊢
  obtain ⟨R, HR⟩ : ∃ R : Nat → List Int, Hid (∀ i, upL (fun j => ((rkN l j : Nat) : Int)) n i = R i) := ⟨_, fun _ => rfl⟩
  have HRN : Hid (∀ i, i < n → (R i).set i ((rkN l i : Nat) : Int) = R (i + 1)) := fun i hi => by have := upL_next (fun j => ((rkN l j : Nat) : Int)) hi; rwa [HR.out, HR.out] at this
  have HRL : Hid (∀ i, (R i).length = n) := fun i => by have := upL_len (fun j => ((rkN l j : Nat) : Int)) n i; rwa [HR.out] at this
  have HR0 : Hid (List.replicate n 0 = R 0) := by have := upL_zero (fun j => ((rkN l j : Nat) : Int)) n; rw [HR.out] at this; exact this.symm
  rw [HR.out] at HUR
  have VA : Hid (0 < n → ∃ b off, va = some ⟨b, off, none⟩ ∧ ∀ W j, Ext w W → j < n → W.cell? ⟨b, off + j, none⟩ = some (.int .u8 (l.getD j 0))) := fun h0 => by
    obtain ⟨_, b, off, h1, h2⟩ := HV.out.at (fun e => by have := HN.out; rw [e] at this; simp at this; omega)
    exact ⟨b, off, h1, fun W j he hj => he.cellOf (h2 j hj)⟩
  clear h8 HR HV
  go_enter Try.func20, Try.ntmps20
  go_wp2_with fail
  refine C.out.mono ?_
  rintro e w1 ⟨s1, rfl, ho1, he1⟩
  have X1 := hide' he1
  have hz1 := he1.size
  obtain ⟨g, cap, hs1, hB, _⟩ := ho1.shape (fun e => by have := nexL_len l 0; rw [e] at this; simp at this)
  rw [nexL_len] at hs1
  subst hs1
  have hgl := (World.ownsRow.lt ho1 g rfl).2
  clear he1 C
  obtain ⟨w2, hmk, ho, he⟩ := make_intsB w1 n (by omega)
  rw [HR0.out] at ho
  have OT := hide' (ho1.ext he)
  have OO := hide' (ho.low hz1)
  have HE := hide' (X1.out.trans he)
  clear ho he ho1
  go_wp2
  clear hmk
  obtain ⟨r, HG⟩ : ∃ r, Hid (w1.heap.size = r) := ⟨_, rfl⟩
  rw [HG.out] at OO hgl hz1 ⊢
  have hne : g ≠ r := by omega
  have hne' : r ≠ g := by omega
  clear HG X1
  go_loopw [14] (fun vi wr => ∃ (i : Nat), i ≤ n ∧ vi = .int .i64 i ∧ Hid (Own .i64 3 w.heap.size wr (.slice (some ⟨g, 0, none⟩) 256 cap) (nexL l i)) ∧
    Hid (Own .i64 3 w.heap.size wr (.slice (some ⟨r, 0, none⟩) n n) (R i)) ∧ Hid (Ext w wr)) (fun vi _ => n - (intOf vi).toNat)
  case atStart => exact ⟨0, Nat.zero_le _, rfl, OT, OO, HE⟩
  case round =>
    clear OT OO HE
    obtain ⟨i, hi, rfl, OT, OO, HE⟩ := hrel
    by_cases hlt : i < n
    · have hlt' : (i : Int) < n := by omega
      obtain ⟨b, o, rfl, k1⟩ := VA.out (by omega)
      have c1 := k1 wr i HE.out hlt
      have hz := H8.out.get i
      obtain ⟨q, hq⟩ := Int.eq_ofNat_of_zero_le hz.1
      have hq6 : q < 256 := by omega
      have hq6' : (q : Int) < 256 := by omega
      have HNX := hide' (nexL_next hq hq6)
      have HRW := hide' (HRK.out i q hlt hq)
      have HLW := hide' (HRN.out i hlt)
      rw [hq] at c1
      have c2 := OT.out.cell (nexL_len l i) q hq6
      rw [nexL_at l i hq6, HN.out] at c2
      have z2 := OT.out.frozen (nexL_len l i) q
      have c3 := OO.out.cell (HRL.out i) i hlt
      have z3 := OO.out.frozen (HRL.out i) i
      have hb1 : ahC l q n ≤ 25600000 := by
        have h1 := ahC_le l q n
        have h2 : q * n ≤ 256 * 100000 := Nat.mul_le_mul (by omega) hs
        omega
      have hb2 := cntI_le l q i
      rw [HN.out] at HNX
      rw [HRW.out] at HLW
      obtain ⟨T, HTT⟩ : ∃ T, Hid (ahC l q n + cntI l q i = T) := ⟨_, rfl⟩
      rw [HTT.out] at c2 HNX HLW
      have hT : T ≤ 25700001 := by rw [← HTT.out]; omega
      have OO2 : Hid (Own .i64 3 w.heap.size (wr.setCell ⟨r, i, none⟩ (.int .i64 (T : Int))) (.slice (some ⟨r, 0, none⟩) n n) (R (i + 1))) := by
        show Own _ _ _ _ _ _
        rw [← HLW.out]
        exact OO.out.store (HRL.out i) i _
      have OT2 := hide' (OT.out.keep hne (but_set wr r i (.int .i64 (T : Int))))
      have HE2 := hide' (Ext.but HE.out hz1 (but_set wr r i (.int .i64 (T : Int))))
      have c4 := OT2.out.cell (nexL_len l i) q hq6
      have z4 := OT2.out.frozen (nexL_len l i) q
      have OO3 := hide' (OO2.out.keep hne' (but_set _ g q (.int .i64 ((T + 1 : Nat) : Int))))
      have OT3 : Hid (Own .i64 3 w.heap.size ((wr.setCell ⟨r, i, none⟩ (.int .i64 (T : Int))).setCell ⟨g, q, none⟩ (.int .i64 ((T + 1 : Nat) : Int))) (.slice (some ⟨g, 0, none⟩) 256 cap) (nexL l (i + 1))) := by
        show Own _ _ _ _ _ _
        rw [← HNX.out]
        exact OT2.out.store (nexL_len l i) q _
      have HE3 := hide' (Ext.but HE2.out hB (but_set _ g q (.int .i64 ((T + 1 : Nat) : Int))))
      rw [nexL_at l i hq6, HN.out, HTT.out] at c4
      clear k1 hq hz HNX HLW HRW hb1 hb2
      go_wp2
      go_roundw
      case rel => exact ⟨i + 1, by omega, by go_num, OT3, OO3, HE3⟩
      case measure => simp [intOf]; omega
    · have hlt' : decide ((i : Int) < n) = false := by simp; omega
      have hin : i = n := by omega
      have OF : Hid (Own .i64 3 w.heap.size wr (.slice (some ⟨r, 0, none⟩) n n) (natL (lfN l))) := by
        have := OO.out
        rw [hin, HUR.out] at this
        exact this
      clear hin
      go_wp2
      go_ret
      exact ⟨_, rfl, OF.out, HE.out⟩
end Go.Proofs.Ytinnfcjkgddfeaa

/- Contract of lf.cycleFrom. -/
namespace Go.Proofs.Ytinnfcjkgddfeaa
set_option linter.unusedVariables false
set_option linter.unusedSimpArgs false
open Go.RowKit

set_option maxHeartbeats 4000000 in
theorem cycleFrom_any (v : Value) (A : List Nat) (cs : List (List Nat)) (n i g B : Nat) (w0 w : World) (hv : Sl .i64 w0 v (natL A)) (he0 : Ext w0 w) (hg0 : w0.heap.size ≤ g) (hA : A.length = n) (hlen : n ≤ 100000)
    (hlt : ∀ x, x < n → stepN A x < n) (hinj : ∀ x y, x < n → y < n → stepN A x = stepN A y → x = y) (hi : i < n) (hni : i ∉ cs.flatten) (hT : CycTo (stepN A) n i cs)
    (hO : OwnB B w (.slice (some ⟨g, 0, none⟩) n n) (seenF n cs.flatten)) :
    Calls Try.prog 31 #[v, .int .i64 (i : Int), .slice (some ⟨g, 0, none⟩) n n] w fun e w' => ∃ c s, e = .returned s ∧ CycTo (stepN A) n (i + 1) (cs ++ [c]) ∧
      OwnB B w' (.slice (some ⟨g, 0, none⟩) n n) (seenF n (cs ++ [c]).flatten) ∧ Own .i64 3 w.heap.size w' s (natL c) ∧ But g w w' := by
  have HLT := hide' hlt
  have HINJ := hide' hinj
  have HNI := hide' hni
  have HT := hide' hT
  have HO := hide' hO
  have HE := hide' he0
  have Hg := hide' hg0
  have HU2 := hide' hv
  obtain ⟨ua, uc, rfl, _⟩ := hv
  obtain ⟨_, _, _, hcp⟩ := HU2.out.nat
  rw [natL_len, hA] at hcp ⊢
  obtain ⟨pg, poff, rfl, hpc⟩ := hcp (by omega)
  have HP2 : Hid (∀ j, j < n → w0.cell? ⟨pg, poff + j, none⟩ = some (.int .i64 (stepN A j : Nat))) := hpc
  clear hcp hpc hlt hinj hni hT hO he0 hg0 HU2
  go_enter Try.func31, Try.ntmps31
  go_wp2
  go_loopw [7, 8] (fun vc vk wq => ∃ (c : List Nat) (k : Nat), k < n ∧ vk = .int .i64 k ∧ Hid (CycIn (stepN A) n i cs c k) ∧ Hid (OwnB B wq (.slice (some ⟨g, 0, none⟩) n n) (seenF n (cs.flatten ++ c))) ∧
    Hid (Own .i64 3 w.heap.size wq vc (natL c)) ∧ Hid (But g w wq)) (fun vc _ _ => n - rowLen vc)
  case atStart => exact ⟨[], i, hi, rfl, CycIn.start hi, (by rw [List.append_nil]; exact HO), Own.nil _ _ _ _, But.refl _ _⟩
  case round =>
    obtain ⟨c, k, hk, rfl, HC, HB, HW, HBT⟩ := hrel
    have hk' : (k : Int) < n := by omega
    have hcb := HB.out.cell (seenF_len _ _) k hk
    rw [seenF_test cs c hk] at hcb
    have hszq := HBT.out.size
    by_cases hin : k ∈ c ∨ k ∈ cs.flatten
    · rw [decide_eq_true hin] at hcb
      have HCL := hide' (HC.out.close HINJ.out HT.out HNI.out hin)
      have HO2 : Hid (OwnB B wr (.slice (some ⟨g, 0, none⟩) n n) (seenF n (cs ++ [c]).flatten)) := by show OwnB _ _ _ _; rw [← seenF_close]; exact HB.out
      clear hin
      go_wp2
      go_ret
      exact ⟨c, _, rfl, HCL.out, HO2.out, HW.out, HBT.out⟩
    · rw [decide_eq_false hin] at hcb
      have HC2 := hide' (HC.out.step HLT.out (fun h => hin (.inl h)) (fun h => hin (.inr h)))
      have hpk := HLT.out k hk
      have hln := nodup_permN_le HC2.out.nodup HC2.out.lt
      rw [List.length_append, List.length_singleton] at hln
      have hfz := HB.out.frozen (seenF_len _ _) k
      have HB1 := HB.out.store (seenF_len _ _) k true
      rw [seenF_set _ hk, List.append_assoc] at HB1
      have HB2 := hide' (HB1.ext (ext_alloc (wr.setCell ⟨g, k, none⟩ (.bool true)) (.cells #[.int .i64 (k : Int)] 3)))
      have HW1 : Own .i64 3 _ (wr.setCell ⟨g, k, none⟩ (.bool true)) u7 (natL c) := OwnB.other HB.out HW.out (by decide) (but_set _ _ _ _)
      have HW2 := hide' (HW1.ext (ext_alloc (wr.setCell ⟨g, k, none⟩ (.bool true)) (.cells #[.int .i64 (k : Int)] 3)))
      have HBT2 := hide' ((HBT.out.trans (but_set wr g k (.bool true))).trans (But.ofExt (ext_alloc (wr.setCell ⟨g, k, none⟩ (.bool true)) (.cells #[.int .i64 (k : Int)] 3))))
      have hcl : (natL c).length ≤ 100000 := by rw [natL_len]; omega
      have HCL := hide' hcl
      have hrl := HW.out.rowLen
      rw [natL_len] at hrl
      have HRL := hide' hrl
      obtain ⟨p, HPK⟩ : ∃ p, Hid (stepN A k = p) := ⟨_, rfl⟩
      rw [HPK.out] at HC2 hpk
      have hpk' : (p : Int) < n := by omega
      have HLN := hide' hln
      clear hin HB HW HB1 HW1 hcl hrl hln
      go_wp2_with (at_builtin; refine wpList_snocG _ rfl _ _ 37 rfl 3 .i64 8 Try.underlying37 infoI64 _ _ (natL c) (k : Int) ⟨wr.heap.size, 0, none⟩ rfl rfl ?c4 HW2.out ?c3 ?c5 ?_)
      case c3 => have := HCL.out; unfold maxLen; omega
      case c5 => exact HBT2.out.size
      case c4 =>
        rw [show wr.heap.size = (wr.setCell ⟨g, k, none⟩ (.bool true)).heap.size by simp [World.setCell]]
        simp only [World.cell?, heap_alloc_top]
        simp
      intro v1 w4 ho1 hg1
      rw [natL_snoc] at ho1
      have HW3 := hide' ho1
      have HB3 : Hid (OwnB B w4 (.slice (some ⟨g, 0, none⟩) n n) (seenF n (cs.flatten ++ (c ++ [k])))) := ownsI_other HW2.out HB2.out (by decide) hg1
      have HBT3 := hide' (but_grown HBT2.out hg1 HW2.out.above)
      have HR1 : Hid (rowLen v1 = c.length + 1) := by show _ = _; rw [ho1.rowLen, natL_len, List.length_append, List.length_singleton]
      have hpc := (Ext.but HE.out Hg.out HBT3.out).cellOf (HP2.out k hk)
      rw [HPK.out] at hpc
      clear ho1 hg1 HW2 HB2 HBT2
      go_wp2
      go_roundw
      case rel => exact ⟨c ++ [k], p, by omega, by first | rfl | go_num, HC2, HB3, HW3, HBT3⟩
      case measure => have h1 := HR1.out; have h2 := HRL.out; have h3 := HLN.out; omega
end Go.Proofs.Ytinnfcjkgddfeaa

/- Contract of rank.Inverse. -/
namespace Go.Proofs.Ytinnfcjkgddfeaa
set_option linter.unusedVariables false
set_option linter.unusedSimpArgs false
open Go.RowKit

theorem Inv.old {l bs : List Int} {i p : Nat} (h : Inv l i bs) (hi : i < l.length) (hp : p < l.length) (hb : bs.getD p 0 ≠ -1) : 0 ≤ bs.getD p 0 := by
  by_cases hin : (p : Int) ∈ l.take i
  · obtain ⟨j, hj, e⟩ := mem_getI hin
    rw [List.length_take] at hj
    have e2 : (l.take i).getD j 0 = l.getD j 0 := by
      simp only [List.getD_eq_getElem?_getD, List.getElem?_take]
      rw [if_pos (by omega)]
    rw [e2] at e
    have := h.at' j p (by omega) (by omega) e
    omega
  · exact absurd (h.none p hp hin) hb

set_option maxHeartbeats 1000000 in
theorem rkInv_any (v : Value) (l : List Int) (w : World) (hv : Sl .i64 w v l) (hlen : l.length ≤ 1000000) :
    Calls Try.prog 42 #[v] w fun e w' => ∃ s, e = .returned (.tuple #[s, .bool (ordB l)]) ∧ Own .i64 3 w.heap.size w' s (invI l) ∧ Ext w w' := by
  have HV := hide' hv
  obtain ⟨a, c, rfl, _⟩ := hv
  obtain ⟨_, _, _, hcv⟩ := HV.out.int
  have CV := hide' hcv
  obtain ⟨n, HN⟩ : ∃ n, Hid (l.length = n) := ⟨_, rfl⟩
  rw [HN.out] at CV hlen ⊢
  clear hcv HV
  obtain ⟨w1, hmk, ho, he⟩ := make_intsB w n (by omega)
  have HO := hide' ho
  have HE := hide' he
  clear ho he
  go_enter Try.func42, Try.ntmps42
  go_wp2
  clear hmk
  go_loopw [5, 13] (fun pi vi wr => ∃ (i : Nat) (bs : List Int), i ≤ n ∧ vi = .int .i64 i ∧ Hid (bs.length = n) ∧ Hid (∀ j, j < i → bs.getD j 0 = -1) ∧
    Hid (Own .i64 3 w.heap.size wr (.slice (some ⟨w.heap.size, 0, none⟩) n n) bs) ∧ Hid (Ext w wr)) (fun _ vi _ => n - (intOf vi).toNat)
  case atStart => exact ⟨0, List.replicate n 0, Nat.zero_le _, rfl, List.length_replicate, (fun j hj => by omega), HO, HE⟩
  case round =>
    clear HO HE
    obtain ⟨i, bs, hi, rfl, HL, HB, HO, HE⟩ := hrel
    by_cases hlt : i < n
    · have hlt' : (i : Int) < n := by omega
      have hfz := HO.out.frozen HL.out i
      have hci := HO.out.cell HL.out i hlt
      have HO2 := hide' (HO.out.store HL.out i (-1))
      go_wp2
      go_roundw
      case rel =>
        refine ⟨i + 1, bs.set i (-1), by omega, by go_num, (show _ = _ by rw [List.length_set]; exact HL.out), fun j hj => ?_, HO2, Ext.but HE.out (Nat.le_refl _) (but_set _ _ _ _)⟩
        by_cases hji : j = i
        · subst hji; rw [setI_same (by rw [HL.out]; exact hlt)]
        · rw [setI_other (by omega), HB.out j (by omega)]
      case measure => simp [intOf]; omega
    · have hlt' : decide ((i : Int) < n) = false := by simp; omega
      have hin : n = i := by omega
      have HI0 : Hid (Inv l 0 bs) := Inv.start (by rw [HL.out, HN.out]) fun x hx => HB.out x (by rw [HN.out] at hx; omega)
      clear HB
      subst hin
      go_wp2
      go_loopw [6, 7, 22] (fun pt pv vi wq => ∃ (t : Nat) (cs : List Int), t ≤ n ∧ vi = .int .i64 t ∧ Hid (cs.length = n) ∧ Hid (Inv l t cs) ∧
        Hid (Own .i64 3 w.heap.size wq (.slice (some ⟨w.heap.size, 0, none⟩) n n) cs) ∧ Hid (Ext w wq)) (fun _ _ vi _ => n - (intOf vi).toNat)
      case atStart => exact ⟨0, bs, Nat.zero_le _, rfl, HL, HI0, HO, HE⟩
      case round =>
        clear HO HE HL HI0 hlt hlt' hi
        obtain ⟨t, cs, ht, rfl, HL, HI, HO, HE⟩ := hrel
        by_cases hlt : t < n
        · have hlt' : (t : Int) < n := by omega
          obtain ⟨g1, o1, rfl, k1⟩ := CV.out (by omega)
          have c1 := HE.out.cellOf (k1 t hlt)
          clear k1
          have HBAD : Hid (∀ z, l.getD t 0 = z → (z < 0 ∨ (n : Int) ≤ z ∨ 0 ≤ cs.getD z.toNat 0) → ordB l = false ∧ invI l = []) := fun z hz h => HI.out.bad (by rw [HN.out]; exact hlt) (by rw [hz, HN.out]; exact h)
          have HNX : Hid (∀ p : Nat, l.getD t 0 = (p : Int) → p < n → cs.getD p 0 < 0 → Inv l (t + 1) (cs.set p (t : Int))) := fun p h1 h2 h3 => HI.out.next (by rw [HN.out]; exact hlt) h1 (by rw [HN.out]; exact h2) h3
          have HOLD : Hid (∀ p : Nat, p < n → cs.getD p 0 ≠ -1 → 0 ≤ cs.getD p 0) := fun p h1 h2 => HI.out.old (by rw [HN.out]; exact hlt) (by rw [HN.out]; exact h1) h2
          obtain ⟨z, HZ⟩ : ∃ p, Hid (l.getD t 0 = p) := ⟨_, rfl⟩
          rw [HZ.out] at c1
          by_cases h0 : z < 0
          · have HB := hide' (HBAD.out z HZ.out (.inl h0))
            go_wp2
            go_ret2
            rw [HB.out.1, HB.out.2]
            exact ⟨_, rfl, Own.nil _ _ _ _, HE.out⟩
          · have e0 : decide (z < 0) = false := by simp; omega
            by_cases h1 : (n : Int) ≤ z
            · have HB := hide' (HBAD.out z HZ.out (.inr (.inl h1)))
              go_wp2
              go_ret2
              rw [HB.out.1, HB.out.2]
              exact ⟨_, rfl, Own.nil _ _ _ _, HE.out⟩
            · have e1 : decide ((n : Int) ≤ z) = false := by simp; omega
              obtain ⟨p, rfl⟩ := Int.eq_ofNat_of_zero_le (show 0 ≤ z by omega)
              have hp : p < n := by omega
              have hp' : (p : Int) < n := by omega
              have e2 : decide (n ≤ p) = false := by simp; omega
              have hci := HO.out.cell HL.out p hp
              clear h0 h1
              have HY2 := hide' (HOLD.out p hp)
              obtain ⟨y, HY⟩ : ∃ x, Hid (cs.getD p 0 = x) := ⟨_, rfl⟩
              rw [HY.out] at hci HY2
              by_cases hy : y = -1
              · subst hy
                have HM2 := hide' (HNX.out p HZ.out hp (by rw [HY.out]; omega))
                have hfz := HO.out.frozen HL.out p
                have HO2 := hide' (HO.out.store HL.out p (t : Int))
                go_wp2
                go_roundw
                case rel => exact ⟨t + 1, cs.set p (t : Int), by omega, by go_num, (show _ = _ by rw [List.length_set]; exact HL.out), HM2, HO2, Ext.but HE.out (Nat.le_refl _) (but_set _ _ _ _)⟩
                case measure => simp [intOf] <;> omega
              · have HB := hide' (HBAD.out p HZ.out (.inr (.inr (by rw [Int.toNat_natCast, HY.out]; exact HY2.out hy))))
                have e3 : (y == -1) = false := by simpa using hy
                go_wp2
                go_ret2
                rw [HB.out.1, HB.out.2]
                exact ⟨_, rfl, Own.nil _ _ _ _, HE.out⟩
        · have hlt' : decide ((t : Int) < n) = false := by simp; omega
          have htl : n = t := by omega
          have HB := hide' ((show Inv l l.length cs by rw [HN.out, htl]; exact HI.out).done)
          go_wp2
          go_ret2
          rw [HB.out.1, HB.out.2]
          exact ⟨_, rfl, HO.out, HE.out⟩
end Go.Proofs.Ytinnfcjkgddfeaa

/- Contract of rank.Is. -/
namespace Go.Proofs.Ytinnfcjkgddfeaa
set_option linter.unusedVariables false
set_option linter.unusedSimpArgs false
open Go.RowKit

theorem rkIs_any (v : Value) (l : List Int) (w : World) (hv : Sl .i64 w v l) (hlen : l.length ≤ 1000000) :
    Calls Try.prog 30 #[v] w fun e w' => e = .returned (.bool (ordB l)) ∧ Ext w w' := by
  have C := hide' (rkInv_any v l w hv hlen)
  clear hv hlen
  go_enter Try.func30, Try.ntmps30
  go_wp2_with fail
  refine C.out.mono ?_
  rintro e w1 ⟨s, rfl, _, he⟩
  have X1 := hide' he
  clear he C
  go_wp2
  go_ret
  exact ⟨rfl, X1.out⟩
end Go.Proofs.Ytinnfcjkgddfeaa

/- Contract of lf.Cycles. -/
namespace Go.Proofs.Ytinnfcjkgddfeaa
set_option linter.unusedVariables false
set_option linter.unusedSimpArgs false
open Go.RowKit

set_option maxHeartbeats 4000000 in
theorem lfCycles_any (v : Value) (l : List Int) (w : World) (hv : Sl .i64 w v l) (hlen : l.length ≤ 100000) :
    Calls Try.prog 19 #[v] w fun e w' => ∃ cs s us, e = .returned (.tuple #[s, .bool (ordB l)]) ∧ CycIs l cs ∧ OwnVI w.heap.size w' s us ∧ RowsI w.heap.size w' us (cs.map natL) ∧ Ext w w' := by
  have HU := hide' hv
  obtain ⟨ua, uc, rfl, _⟩ := hv
  have C := hide' (rkIs_any _ l w HU.out (by omega))
  cases h2 : ordB l
  · have HN := hide' (CycIs.no h2)
    rw [h2] at C
    clear h2 HU
    go_enter Try.func19, Try.ntmps19
    go_wp2_with fail
    refine C.out.mono ?_
    rintro e w1 ⟨rfl, he1⟩
    have X1 := hide' he1
    clear he1
    go_wp2
    go_ret2
    exact ⟨[], _, [], rfl, HN.out, OwnVI.nil _ _, RowsI.nil _ _, X1.out⟩
  · rw [h2] at C
    have HYES : Hid (∀ cs, CycOf (stepN (toN l)) l.length cs → CycIs l cs) := fun cs h => CycIs.yes h2 h
    obtain ⟨hA, hP⟩ := ordB_cast h2
    obtain ⟨A, HA⟩ : ∃ A, Hid (toN l = A) := ⟨_, rfl⟩
    rw [HA.out] at hA hP HYES
    obtain ⟨n, HN⟩ : ∃ n, Hid (l.length = n) := ⟨_, rfl⟩
    have hAL : A.length = n := by rw [← HN.out, ← hA, natL_len]
    have hPP : A.Perm (List.range A.length) := by rw [hAL, ← HN.out]; exact hP
    have HLT : Hid (∀ x, x < n → stepN A x < n) := fun x hx => by
      have := perm_lt hPP (p := x) (by rw [hAL]; exact hx)
      rwa [hAL] at this
    have HINJ : Hid (∀ x y, x < n → y < n → stepN A x = stepN A y → x = y) := fun x y hx hy e => nodup_getN (hPP.nodup_iff.2 List.nodup_range) (by rw [hAL]; exact hx) (by rw [hAL]; exact hy) e
    have HU2 : Hid (Sl .i64 w (.slice ua n uc) (natL A)) := by have := HU.out; rw [← hA, natL_len, hAL] at this; exact this
    have HAL := hide' hAL
    rw [HN.out] at C hlen HYES ⊢
    clear hA hP hAL h2 HU HA hPP HN
    go_enter Try.func19, Try.ntmps19
    go_wp2_with fail
    refine C.out.mono ?_
    rintro e w1 ⟨rfl, he1⟩
    have X1 := hide' he1
    have hz1 := he1.size
    clear he1 C
    obtain ⟨w2, hmk, ho, he⟩ := make_bools w1 n (by omega)
    rw [← seenF_nil] at ho
    have HO := hide' (ho.low hz1)
    have HE := hide' (X1.out.trans he)
    clear ho he
    go_wp2
    clear hmk
    obtain ⟨g, HG⟩ : ∃ g, Hid (w1.heap.size = g) := ⟨_, rfl⟩
    rw [HG.out] at HO ⊢
    have Hg : Hid (w.heap.size ≤ g) := by show _ ≤ _; rw [← HG.out]; exact hz1
    clear HG hz1
    go_loopw [4, 15] (fun vo vi wr => ∃ (i : Nat) (cs : List (List Nat)) (us : List Value), i ≤ n ∧ vi = .int .i64 i ∧ Hid (CycTo (stepN A) n i cs) ∧ Hid (OwnB w.heap.size wr (.slice (some ⟨g, 0, none⟩) n n) (seenF n cs.flatten)) ∧
      Hid (OwnVI w.heap.size wr vo us) ∧ Hid (RowsI w.heap.size wr us (cs.map natL)) ∧ Hid (Ext w wr)) (fun _ vi _ => n - (intOf vi).toNat)
    case atStart => exact ⟨0, [], [], Nat.zero_le _, rfl, CycTo.start _ _, HO, OwnVI.nil _ _, RowsI.nil _ _, HE⟩
    case round =>
      clear HO HE
      obtain ⟨i, cs, us, hi, rfl, HT, HO, HV, HR, HE⟩ := hrel
      by_cases hlt : i < n
      · have hlt' : (i : Int) < n := by omega
        have hsz := HE.out.size
        have hcb := HO.out.cell (seenF_len _ _) i hlt
        rw [seenF_at _ hlt] at hcb
        by_cases hin : i ∈ cs.flatten
        · rw [decide_eq_true hin] at hcb
          have HT2 := hide' (HT.out.skip hin)
          clear hin
          go_wp2
          go_roundw
          case rel => exact ⟨i + 1, cs, us, by omega, by go_num, HT2, HO, HV, HR, HE⟩
          case measure => simp [intOf]; omega
        · rw [decide_eq_false hin] at hcb
          have HNI := hide' hin
          clear hin
          go_wp2_with fail
          refine (cycleFrom_any _ A cs n i g w.heap.size w wr HU2.out HE.out Hg.out HAL.out hlen HLT.out HINJ.out hlt HNI.out HT.out HO.out).mono ?_
          rintro e w2 ⟨c, s, rfl, ht, hob, how, hbt⟩
          have HT2 := hide' ht
          have HO2 := hide' hob
          have HBT := hide' hbt
          have HW2 := hide' (how.low hsz)
          have HEQ := hide' (Ext.but HE.out Hg.out hbt)
          have HV2 : Hid (OwnVI w.heap.size w2 u4 us) := OwnB.other HO.out HV.out (by decide) HBT.out
          have HR2 : Hid (RowsI w.heap.size w2 (us ++ [s]) ((cs ++ [c]).map natL)) := by
            show RowsI _ _ _ _
            rw [List.map_append]
            exact RowsI.app ⟨HR.out.1, fun j u hu => OwnB.other HO.out (HR.out.2 j u hu) (by decide) HBT.out⟩ (RowsI.single HW2.out)
          have LU : Hid (us.length + 1 ≤ 1000000) := by
            have h1 := HR.out.1
            rw [List.length_map] at h1
            have h3 := flatC_len HT.out.ne
            have h4 := nodup_permN_le HT.out.nodup HT.out.lt
            show _ ≤ _
            omega
          obtain ⟨ca, cc, hcs, _⟩ := id HW2.out.sl
          obtain ⟨m, HM⟩ : ∃ m, Hid ((natL c).length = m) := ⟨_, rfl⟩
          rw [HM.out] at hcs
          subst hcs
          have V2 := hide' (HV2.out.ext (ext_alloc w2 (.cells #[.slice ca m cc] 37)))
          have R2 := hide' (HR2.out.ext (ext_alloc w2 (.cells #[.slice ca m cc] 37)))
          have O2 := hide' (HO2.out.ext (ext_alloc w2 (.cells #[.slice ca m cc] 37)))
          have E2 := hide' (HEQ.out.trans (ext_alloc w2 (.cells #[.slice ca m cc] 37)))
          clear ht hob how hbt HV2 HR2 HO2 HEQ HBT HW2 HV HR HO HT HE
          go_wp2_with (at_builtin; refine wpList_snocVI _ rfl _ _ rfl w.heap.size _ us (.slice ca m cc) w2.heap.size rfl rfl ?c1 rfl V2.out LU.out E2.out.size ?_)
          case c1 => simp only [World.cell?, heap_alloc_top]; simp
          intro v1 w3 ho1 hg1
          have V3 := hide' ho1
          have R3 : Hid (RowsI w.heap.size w3 (us ++ [.slice ca m cc]) ((cs ++ [c]).map natL)) := RowsI.other R2.out V2.out hg1
          have O3 : Hid (OwnB w.heap.size w3 (.slice (some ⟨g, 0, none⟩) n n) (seenF n (cs ++ [c]).flatten)) := ownsI_other V2.out O2.out (by decide) hg1
          have E3 : Hid (Ext w w3) := Below.trans E2.out (ownsI_grown V2.out E2.out.size hg1)
          clear ho1 hg1 V2 R2 O2 E2
          go_wp2
          go_roundw
          case rel => exact ⟨i + 1, cs ++ [c], us ++ [.slice ca m cc], by omega, by go_num, HT2, O3, V3, R3, E3⟩
          case measure => simp [intOf]; omega
      · have hlt' : decide ((i : Int) < n) = false := by simp; omega
        have hin : n = i := by omega
        have HD := hide' (HYES.out _ (show CycOf (stepN A) n cs by have := HT.out; rw [← hin] at this; exact this.done))
        go_wp2
        go_ret2
        exact ⟨cs, _, us, rfl, HD.out, HV.out, HR.out, HE.out⟩
end Go.Proofs.Ytinnfcjkgddfeaa

/- Contract of bij.Back. -/
namespace Go.Proofs.Ytinnfcjkgddfeaa
set_option linter.unusedVariables false
set_option linter.unusedSimpArgs false
open Go.RowKit

set_option maxHeartbeats 4000000 in
theorem bjBack_any (v : Value) (l : List Int) (w : World) (hv : Sl .u8 w v l) (h8 : Bytes8 l) (hs : l.length ≤ 100000) :
    Calls Try.prog 11 #[v] w fun e w' => ∃ s r, e = .returned (.tuple #[r, .int .i64 0]) ∧ IsBack l s ∧ Own .u8 5 w.heap.size w' r s ∧ Ext w w' := by
  have HV := hide' hv
  have C := hide' (lfOf_any v l w hv h8 hs)
  have HOK := hide' (lf_ok l)
  have HCY := hide' (fun cs => lf_cyc (l := l) (cs := cs))
  have HIB : Hid (∀ cs, CycOf (rkN l) l.length cs → IsBack l (strB l cs).reverse) := fun cs h => ⟨cs, h, strB_rev l cs⟩
  have HLN : Hid ((natL (lfN l)).length ≤ 100000) := by show _ ≤ _; rw [natL_len, lfN_len]; exact hs
  have HLQ : Hid ((natL (lfN l)).length = l.length) := by show _ = _; rw [natL_len, lfN_len]
  obtain ⟨F, HF⟩ : ∃ F, Hid (natL (lfN l) = F) := ⟨_, rfl⟩
  rw [HF.out] at C HOK HCY HLN HLQ
  obtain ⟨a, c, rfl, _⟩ := hv
  obtain ⟨n, HN⟩ : ∃ n, Hid (l.length = n) := ⟨_, rfl⟩
  have d1 : decide ((100000 : Int) < (l.length : Int)) = false := by simp; omega
  rw [HN.out] at C HV HIB hs d1 HLQ HCY ⊢
  clear h8
  go_enter Try.func11, Try.ntmps11
  go_wp2_with fail
  refine C.out.mono ?_
  rintro e w1 ⟨r1, rfl, ho, he⟩
  have S1 := hide' ho.sl
  have X1 := hide' he
  clear ho he C
  go_wp2_with fail
  refine (lfCycles_any _ F w1 S1.out HLN.out).mono ?_
  rw [HOK.out]
  rintro e w2 ⟨cs, t, us, rfl, hcs, ho, hr, he⟩
  have V2 := hide' ho.sl
  have R2 := hide' hr.read
  have X2 := hide' (X1.out.trans he)
  have HC := hide' (HCY.out _ hcs)
  have HALL : Hid (cs.flatten.length = n) := by
    show _ = _
    rw [HC.out.all.length_eq, List.length_range]
  have hnum := hcs.num
  rw [List.length_map] at hnum
  clear ho hr he hcs S1 X1
  obtain ⟨ua, uc, hv2, _⟩ := id V2.out
  have hul : us.length = cs.length := by rw [R2.out.1, List.length_map]
  rw [hul] at hv2
  subst hv2
  obtain ⟨m, HM⟩ : ∃ m, Hid (cs.length = m) := ⟨_, rfl⟩
  have hm : m ≤ 100000 := by
    rw [← HM.out]
    exact Nat.le_trans hnum HLN.out
  have HROW : Hid (∀ k, k < m → ∃ g off u, ua = some ⟨g, off, none⟩ ∧ w2.cell? ⟨g, off + k, none⟩ = some u ∧ Sl .i64 w2 u (natL (cs.getD k []))) := fun k hk => by
    have := SlVI.row (hul ▸ V2.out) R2.out (k := k) (by rw [List.length_map, HM.out]; exact hk)
    rwa [getD_mapE] at this
  have HGOOD : Hid (∀ k, k < m → ∀ j, j < (cs.getD k []).length → (cs.getD k []).getD j 0 < n) := fun k hk j hj => by
    have hmem := getD_memL (cs := cs) (i := k) (by rw [HM.out]; exact hk)
    exact HC.out.ltC hmem (getN_mem hj)
  obtain ⟨O, HO⟩ : ∃ O : Nat → Nat, Hid (∀ i, (cs.take i).flatten.length = O i) := ⟨_, fun _ => rfl⟩
  have HOS : Hid (∀ i, i < m → O (i + 1) = O i + (cs.getD i []).length) := fun i hi => by
    have := take_flat_succ cs (i := i) (by rw [HM.out]; exact hi)
    rwa [HO.out, HO.out] at this
  have HOL : Hid (∀ i, O i ≤ n) := fun i => by rw [← HO.out, ← HALL.out]; exact take_flat_le cs i
  have HO0 : Hid (O 0 = 0) := by show _ = _; rw [← HO.out]; rfl
  have HOM : Hid (O m = n) := by show _ = _; rw [← HO.out, ← HM.out, List.take_length]; exact HALL.out
  have HXA : Hid (∀ i j, i < m → j < (cs.getD i []).length → (strB l cs).getD (O i + j) 0 = l.getD ((cs.getD i []).getD j 0) 0) := fun i j hi hj => by
    have := strB_at (l := l) (cs := cs) (i := i) (j := j) (by rw [HM.out]; exact hi) hj
    rwa [HO.out] at this
  have HI := hide' (HIB.out _ HC.out)
  have HXL : Hid ((strB l cs).length = n) := by show _ = _; rw [strB_len]; exact HALL.out
  obtain ⟨X, HX⟩ : ∃ X, Hid (strB l cs = X) := ⟨_, rfl⟩
  rw [HX.out] at HXA HI HXL
  have HR0 : Hid (List.replicate n 0 = fillR X n 0) := (fillR_zero X n).symm
  have HRN : Hid (∀ k, k < n → (fillR X n k).set (n - 1 - k) (X.getD k 0) = fillR X n (k + 1)) := fun k hk => fillR_next HXL.out hk
  have HRL : Hid (∀ k, k ≤ n → (fillR X n k).length = n) := fun k hk => fillR_len HXL.out hk
  have HRA : Hid (fillR X n n = X.reverse) := fillR_all HXL.out
  obtain ⟨R, HRR⟩ : ∃ R : Nat → List Int, Hid (∀ k, fillR X n k = R k) := ⟨_, fun _ => rfl⟩
  rw [HRR.out] at HR0 HRA
  have HRN2 : Hid (∀ k, k < n → (R k).set (n - 1 - k) (X.getD k 0) = R (k + 1)) := fun k hk => by have := HRN.out k hk; rwa [HRR.out, HRR.out] at this
  have HRL2 : Hid (∀ k, k ≤ n → (R k).length = n) := fun k hk => by have := HRL.out k hk; rwa [HRR.out] at this
  rw [HM.out]
  have VA : Hid (0 < n → ∃ b off, a = some ⟨b, off, none⟩ ∧ ∀ W j, Ext w W → j < n → W.cell? ⟨b, off + j, none⟩ = some (.int .u8 (l.getD j 0))) := fun h0 => by
    obtain ⟨_, b, off, h1, h2⟩ := HV.out.at (fun e => by have := HN.out; rw [e] at this; simp at this; omega)
    exact ⟨b, off, h1, fun W j he hj => he.cellOf (h2 j hj)⟩
  obtain ⟨w3, hmk, ho3, he3⟩ := make_bytes w2 n (by omega)
  rw [HR0.out] at ho3
  have O3 := hide' ho3
  have X3 := hide' he3
  clear ho3 he3 hul V2 R2 hnum HRN HRL HRR HCY HIB
  go_wp2
  clear hmk
  obtain ⟨g, HG⟩ : ∃ g, Hid (w2.heap.size = g) := ⟨_, rfl⟩
  rw [HG.out] at O3 ⊢
  go_loopw [7, 28] (fun ve vi wr => ∃ (i : Nat), i ≤ m ∧ vi = .int .i64 i ∧ ve = .int .i64 ((n - O i : Nat) : Int) ∧ Hid (Own .u8 5 g wr (.slice (some ⟨g, 0, none⟩) n n) (R (O i))) ∧ Hid (Ext w2 wr)) (fun _ vi _ => m - (intOf vi).toNat)
  case atStart => exact ⟨0, Nat.zero_le _, rfl, by rw [HO0.out]; rfl, (by show Own _ _ _ _ _ _; rw [HO0.out]; exact O3.out), X3⟩
  case round =>
    clear O3 X3
    obtain ⟨i, hi, rfl, rfl, HQ, HE⟩ := hrel
    by_cases hlt : i < m
    · have hlt' : (i : Int) < m := by omega
      obtain ⟨cg, coff, u, rfl, hc, hsl⟩ := HROW.out i hlt
      have hc := HE.out.cellOf hc
      have HSL := hide' hsl
      have HGI := hide' (HGOOD.out i hlt)
      have HXI := hide' (fun j => HXA.out i j hlt)
      have HSI := hide' (HOS.out i hlt)
      obtain ⟨C, HCC⟩ : ∃ C, Hid (cs.getD i [] = C) := ⟨_, rfl⟩
      rw [HCC.out] at HSL HGI HXI HSI
      obtain ⟨ca, cc, hu, _⟩ := id HSL.out
      obtain ⟨L, HL⟩ : ∃ L, Hid (C.length = L) := ⟨_, rfl⟩
      rw [natL_len, HL.out] at hu
      subst hu
      rw [HL.out] at HGI HXI HSI
      have hLn : O i + L ≤ n := by rw [← HSI.out]; exact HOL.out (i + 1)
      have CA : Hid (0 < L → ∃ b off, ca = some ⟨b, off, none⟩ ∧ ∀ W j, Ext w2 W → j < L → W.cell? ⟨b, off + j, none⟩ = some (.int .i64 ((C.getD j 0 : Nat) : Int))) := fun h0 => by
        obtain ⟨_, b, off, h1, h2⟩ := HSL.out.at (fun e => by have := congrArg List.length e; rw [natL_len, HL.out, List.length_nil] at this; omega)
        exact ⟨b, off, h1, fun W j he hj => by have := he.cellOf (h2 j hj); rwa [natL_at] at this⟩
      obtain ⟨K, HK⟩ : ∃ K, Hid (O i = K) := ⟨_, rfl⟩
      rw [HK.out] at HXI HSI hLn HQ ⊢
      have HQ0 : Hid (Own .u8 5 g wr (.slice (some ⟨g, 0, none⟩) n n) (R (K + 0))) := HQ.out
      clear hsl
      go_wp2
      go_loopw [7, 34] (fun ve vj wr => ∃ (j : Nat), j ≤ L ∧ vj = .int .i64 j ∧ ve = .int .i64 ((n - (K + j) : Nat) : Int) ∧ Hid (Own .u8 5 g wr (.slice (some ⟨g, 0, none⟩) n n) (R (K + j))) ∧ Hid (Ext w2 wr)) (fun _ vj _ => L - (intOf vj).toNat)
      case atStart => exact ⟨0, Nat.zero_le _, rfl, rfl, HQ0, HE⟩
      case round =>
        clear HQ HQ0 HE hc
        obtain ⟨j, hj, rfl, rfl, HQ, HE⟩ := hrel
        by_cases hlt3 : j < L
        · have hlt3' : (j : Int) < L := by omega
          obtain ⟨cb, cf, rfl, k1⟩ := CA.out (by omega)
          have c1 := k1 wr j HE.out hlt3
          have hp := HGI.out j hlt3
          have HXJ := hide' (HXI.out j hlt3)
          obtain ⟨b, o, rfl, k2⟩ := VA.out (by omega)
          obtain ⟨p, HPP⟩ : ∃ p, Hid (C.getD j 0 = p) := ⟨_, rfl⟩
          rw [HPP.out] at c1 hp HXJ
          have c2 := k2 wr p (X2.out.trans HE.out) hp
          have hp' : (p : Int) < n := by omega
          have HNX := hide' (HRN2.out (K + j) (by omega))
          rw [HXJ.out] at HNX
          obtain ⟨z, HZ⟩ : ∃ z, Hid (l.getD p 0 = z) := ⟨_, rfl⟩
          rw [HZ.out] at c2 HNX
          obtain ⟨J, HJ⟩ : ∃ J, Hid (n - 1 - (K + j) = J) := ⟨_, rfl⟩
          have hJ : J < n := by have := HJ.out; omega
          have hJ' : (J : Int) < n := by omega
          have hJ2 : ((n - (K + j) : Nat) : Int) - 1 = (J : Int) := by have := HJ.out; omega
          rw [HJ.out] at HNX
          have HLQ2 := hide' (HRL2.out (K + j) (by omega))
          have c3 := HQ.out.cell HLQ2.out J hJ
          have z3 := HQ.out.frozen HLQ2.out J
          have HQ2 : Hid (Own .u8 5 g (wr.setCell ⟨g, J, none⟩ (.int .u8 z)) (.slice (some ⟨g, 0, none⟩) n n) (R (K + (j + 1)))) := by
            show Own _ _ _ _ _ _
            rw [← Nat.add_assoc, ← HNX.out]
            exact HQ.out.store HLQ2.out J z
          have HE2 := hide' (Ext.but HE.out (Nat.le_of_eq HG.out) (but_set wr g J (.int .u8 z)))
          have hJ3 : (J : Int) = ((n - (K + (j + 1)) : Nat) : Int) := by have := HJ.out; omega
          have HJ3 := hide' hJ3
          obtain ⟨N1, HN1⟩ : ∃ N1 : Int, Hid (((n - (K + j) : Nat) : Int) = N1) := ⟨_, rfl⟩
          rw [HN1.out] at hJ2 ⊢
          clear k1 k2 HXJ HNX hJ3
          go_wp2
          go_roundw
          case rel => exact ⟨j + 1, by omega, by go_num, by rw [HJ3.out], HQ2, HE2⟩
          case measure => simp [intOf]; omega
        · have hlt3' : decide ((j : Int) < L) = false := by simp; omega
          have hjL : j = L := by omega
          have hRK : Hid (K + j = O (i + 1)) := by show _ = _; rw [hjL]; exact HSI.out.symm
          rw [hRK.out] at HQ
          have HV7 := hide' (congrArg (fun k : Nat => ((n - k : Nat) : Int)) hRK.out)
          clear hjL
          go_wp2
          go_roundw
          case rel => exact ⟨i + 1, by omega, by go_num, congrArg (Value.int .i64) HV7.out, HQ, HE⟩
          case measure => simp [intOf]; omega
    · have hlt' : decide ((i : Int) < m) = false := by simp; omega
      have hin : i = m := by omega
      have HF9 : Hid (Own .u8 5 w.heap.size wr (.slice (some ⟨g, 0, none⟩) n n) X.reverse) := by
        have := HQ.out
        rw [hin, HOM.out, HRA.out] at this
        exact this.low (by rw [← HG.out]; exact X2.out.size)
      have HE9 := hide' (X2.out.trans HE.out)
      clear hin
      go_wp2
      go_ret2
      exact ⟨_, _, rfl, HI.out, HF9.out, HE9.out⟩
theorem bjBack_long (v : Value) (s : List Int) (w : World) (hv : Sl .u8 w v s) (hs : 100000 < s.length) :
    Calls Try.prog 11 #[v] w fun e w' => e = .returned (.tuple #[.slice none 0 0, .int .i64 2]) ∧ Ext w w' := by
  obtain ⟨va, vc, rfl, _⟩ := hv
  have d1 : (100000 : Int) < (s.length : Int) := by omega
  clear hs
  go_enter Try.func11, Try.ntmps11
  go_wp2
  go_ret2
  exact ⟨rfl, Ext.refl _⟩
end Go.Proofs.Ytinnfcjkgddfeaa

/- What sorters answer: a row and an error's number; bytes as numbers; rows of bytes made. No conditions. -/
namespace Go.Proofs.Ytinnfcjkgddfeaa
set_option linter.unusedVariables false
set_option linter.unusedSimpArgs false
open Go.RowKit

/-- What is answered: a row and an error's number. -/
def ResI (s : List Int) (k : Int) (L : List Int) (c : Int) : Prop :=
  (100000 < s.length ∧ L = [] ∧ c = 2) ∨ (s.length ≤ 100000 ∧ fitB s k = false ∧ L = [] ∧ c = 1) ∨ (s.length ≤ 100000 ∧ fitB s k = true ∧ c = 0 ∧ ∃ R, InOrd s R ∧ L = natL R)
theorem ResI.eq {s L L' : List Int} {k c c' : Int} (h : ResI s k L c) (h' : ResI s k L' c') : L = L' ∧ c = c' := by
  rcases h with ⟨h1, h2, h3⟩ | ⟨h1, h2, h3, h4⟩ | ⟨h1, h2, h3, R, h4, h5⟩ <;> rcases h' with ⟨g1, g2, g3⟩ | ⟨g1, g2, g3, g4⟩ | ⟨g1, g2, g3, R', g4, g5⟩
  · exact ⟨by rw [h2, g2], by rw [h3, g3]⟩
  · omega
  · omega
  · omega
  · exact ⟨by rw [h3, g3], by rw [h4, g4]⟩
  · rw [h2] at g2; cases g2
  · omega
  · rw [h2] at g2; cases g2
  · exact ⟨by rw [h5, g5, h4.eq g4], by rw [h3, g3]⟩
theorem ResI.ok {s L : List Int} {k c : Int} (h : ResI s k L c) (hl : s.length ≤ 100000) (hf : fitB s k = true) : c = 0 ∧ ∃ R, InOrd s R ∧ L = natL R := by
  rcases h with ⟨h1, h2, h3⟩ | ⟨h1, h2, h3, h4⟩ | ⟨h1, h2, h3, h4⟩
  · omega
  · rw [hf] at h2; cases h2
  · exact ⟨h3, h4⟩
theorem ResI.long {s L : List Int} {k c : Int} (h : ResI s k L c) (hl : 100000 < s.length) : c = 2 ∧ L = [] := by
  rcases h with ⟨h1, h2, h3⟩ | ⟨h1, h2, h3, h4⟩ | ⟨h1, h2, h3, h4⟩
  · exact ⟨h3, h2⟩
  · omega
  · omega
theorem ResI.len {s L : List Int} {k c : Int} (h : ResI s k L c) : L.length ≤ s.length := by
  rcases h with ⟨h1, h2, h3⟩ | ⟨h1, h2, h3, h4⟩ | ⟨h1, h2, h3, R, h4, h5⟩
  · rw [h2]; simp
  · rw [h3]; simp
  · rw [h5, natL_len, h4.len]; exact Nat.le_refl _

/-- A row of one kind as far as it is laid. -/
structure HalfI (zs : List Int) (i : Nat) (r : List Int) : Prop where
  len : r.length = zs.length
  at' : ∀ t, t < i → r.getD t 0 = zs.getD t 0
theorem HalfI.start (zs : List Int) : HalfI zs 0 (List.replicate zs.length 0) := ⟨List.length_replicate, fun t h => by omega⟩
theorem HalfI.next {zs r : List Int} {i : Nat} (h : HalfI zs i r) (hi : i < zs.length) : HalfI zs (i + 1) (r.set i (zs.getD i 0)) := by
  refine ⟨by rw [List.length_set]; exact h.len, fun t ht => ?_⟩
  by_cases e : t = i
  · subst e
    rw [setI_same (by rw [h.len]; exact hi)]
  · rw [setI_other (by omega)]
    exact h.at' t (by omega)
theorem HalfI.done {zs r : List Int} (h : HalfI zs zs.length r) : r = zs :=
  rowI_ext h.len fun i hi => h.at' i (by rw [h.len] at hi; exact hi)

theorem fit256 {zs : List Int} (h : Bytes8 zs) : fitB zs 256 = true := fitB_iff.2 ⟨by omega, by omega, goodI_iff.2 fun z hz => by have := h z hz; omega⟩

theorem Bytes8.rep {zs : List Int} (h : Bytes8 zs) (n : Nat) : Bytes8 (repI zs n) := by
  induction n with
  | zero => intro z hz; simp [repI] at hz
  | succ n ih => rw [repI_succ]; exact ih.app h

theorem zero_bytes (n : Nat) : Bytes8 (List.replicate n 0) := fun z hz => by
  rw [(List.mem_replicate.1 hz).2]
  omega

/-- Spread apart. -/
def sprI (b m : Int) (s : List Int) : List Int := s.map fun z => z * b + m
theorem sprI_len (b m : Int) (s : List Int) : (sprI b m s).length = s.length := List.length_map _
theorem sprI_snoc (b m : Int) {s : List Int} {i : Nat} (h : i < s.length) : sprI b m (s.take (i + 1)) = sprI b m (s.take i) ++ [s.getD i 0 * b + m] := by
  unfold sprI
  rw [takeI_succ h, List.map_append]
  rfl
theorem sprI_fit {b m : Int} {s : List Int} (hs : ∀ i, i < s.length → 0 ≤ s.getD i 0 ∧ s.getD i 0 ≤ 200) (hb0 : 1 ≤ b) (hb1 : b ≤ 9) (hm0 : 0 ≤ m) (hm1 : m ≤ 9) : fitB (sprI b m s) (200 * b + m + 1) = true := by
  refine fitB_iff.2 ⟨by omega, by omega, goodI_iff.2 fun z hz => ?_⟩
  obtain ⟨x, hx, rfl⟩ := List.mem_map.1 hz
  obtain ⟨i, hi, rfl⟩ := List.getElem_of_mem hx
  have h1 := hs i hi
  rw [show s.getD i 0 = s[i] by simp [List.getD, hi]] at h1
  have h2 := spread_in h1.1 h1.2 hb0 hb1
  omega
theorem plain_fit {s : List Int} (hs : ∀ i, i < s.length → 0 ≤ s.getD i 0 ∧ s.getD i 0 ≤ 200) : fitB s 201 = true :=
  fitB_iff.2 ⟨by omega, by omega, goodI_of fun j hj => by have := hs j hj; omega⟩
theorem banana_ord : InOrd [98, 97, 110, 97, 110, 97] [5, 3, 1, 0, 4, 2] := by
  refine ⟨by decide, ?_⟩
  show List.Pairwise (fun a b => cmpI (([98, 97, 110, 97, 110, 97] : List Int).drop a) (([98, 97, 110, 97, 110, 97] : List Int).drop b) < 0) [5, 3, 1, 0, 4, 2]
  decide
theorem banana_bytes : Bytes8 [98, 97, 110, 97, 110, 97] := by
  intro z hz
  simp only [List.mem_cons, List.not_mem_nil, or_false] at hz
  omega
end Go.Proofs.Ytinnfcjkgddfeaa

/- Contracts of bij.Turn and bij.Back. -/
namespace Go.Proofs.Ytinnfcjkgddfeaa
end Go.Proofs.Ytinnfcjkgddfeaa

/- whorllaw23's own known answer. -/
namespace Go.Proofs.Ytinnfcjkgddfeaa
set_option linter.unusedVariables false
set_option linter.unusedSimpArgs false
open Go.RowKit

theorem ann_cyc : CycOf (rkN [97, 110, 110, 98, 97, 97]) 6 [[0], [1, 4], [2, 5], [3]] :=
  { ne := by decide
    nxt := by decide
    least := by decide
    up := by decide
    all := by decide }
theorem ann_back : IsBack [97, 110, 110, 98, 97, 97] [98, 97, 110, 97, 110, 97] := ⟨_, ann_cyc, by decide⟩
theorem ban_bij {l : List Int} (h : IsTurn [98, 97, 110, 97, 110, 97] l) : l = [97, 110, 110, 98, 97, 97] := ann_back.turn h
theorem ann_str : (strOfNums [97, 110, 110, 98, 97, 97]) = { data := #[97, 110, 110, 98, 97, 97] } := by decide

theorem known_any (w : World) : Calls Try.prog 10 #[] w fun e w' => e = .returned (.bool true) ∧ Ext w w' := by
  have hc6 := fun w => Go.Lib.run_convert_bytes_const (P := Try.prog) w 22 5 #[.int .u8 98, .int .u8 97, .int .u8 110, .int .u8 97, .int .u8 110, .int .u8 97] 6 6 Try.underlying22 Try.underlying5
  have H6 : Hid (∀ w : World, Sl .u8 (w.alloc (.cells (([98, 97, 110, 97, 110, 97] : List Int).map (Value.int .u8)).toArray 5 (6, 7))) (.slice (some ⟨w.heap.size, 0, none⟩) 6 6) [98, 97, 110, 97, 110, 97]) := fun w => Sl.lit' (k := .u8) (e := 5) (fr := (6, 7)) w [98, 97, 110, 97, 110, 97] 6 rfl (by decide)
  go_enter Try.func10, Try.ntmps10
  go_wp2_with fail
  refine (bjTurn_any _ [98, 97, 110, 97, 110, 97] _ (H6.out w) banana_bytes (by decide)).mono ?_
  rintro e w2 ⟨l, u, rfl, hl, ho, he⟩
  have e1 := ban_bij hl
  subst e1
  have X2 := hide' ((ext_alloc _ _).trans he)
  have s1 := ho.sl.str (P := Try.prog) 22 5 9 Try.underlying22 Try.underlying5 Try.underlying9
  rw [ann_str] at s1
  clear ho he hl
  go_wp2
  go_ret
  exact ⟨rfl, X2.out⟩
end Go.Proofs.Ytinnfcjkgddfeaa

/- What is turned has the text's letters; of one that is less than all its endings the last one comes first. Plain numbers. -/
namespace Go.Proofs.Ytinnfcjkgddfeaa
set_option linter.unusedVariables false
set_option linter.unusedSimpArgs false

theorem bjMap_getI (l : List Int) : (List.range l.length).map (fun k => l.getD k 0) = l := by
  refine List.ext_getElem (by simp) fun i h1 h2 => ?_
  simp [List.getD_eq_getElem?_getD, List.getElem?_eq_getElem h2]
theorem IsBack.perm {l s : List Int} (h : IsBack l s) : s.Perm l := by
  obtain ⟨cs, h1, rfl⟩ := h
  have e1 : (cs.reverse.map (wordOf l)).flatten.Perm ((cs.reverse.flatten).map fun k => l.getD k 0) := by
    rw [← List.flatMap_def, List.map_flatten, ← List.flatMap_def]
    exact flatMap_permI fun c _ => (List.reverse_perm c).map _
  refine e1.trans ((((List.reverse_perm cs).flatten.map fun k => l.getD k 0).trans (h1.all.map _)).trans ?_)
  rw [bjMap_getI]
theorem IsTurn.isBack {s l : List Int} (h8 : ∀ z ∈ s, 0 ≤ z ∧ z ≤ 255) (h : IsTurn s l) : IsBack l s := by
  obtain ⟨x, hx⟩ := isBack_some l
  have := h.back h8 hx
  rwa [this] at hx
theorem IsTurn.perm {s l : List Int} (h8 : ∀ z ∈ s, 0 ≤ z ∧ z ≤ 255) (h : IsTurn s l) : l.Perm s := (h.isBack h8).perm.symm
theorem IsTurn.len {s l : List Int} (h8 : ∀ z ∈ s, 0 ≤ z ∧ z ≤ 255) (h : IsTurn s l) : l.length = s.length := (h.perm h8).length_eq
theorem facW_lyn {s : List Int} (h : Lyn s) : facW s = [s] := by
  rw [facW_cons h.1, (lyn_longI h.1).1 h, List.take_length, List.drop_length, facW_nil]
theorem IsTurn.first {s l : List Int} (h8 : ∀ z ∈ s, 0 ≤ z ∧ z ≤ 255) (h : IsTurn s l) (hs : Lyn s) : l.getD 0 0 = s.getD (s.length - 1) 0 := by
  obtain ⟨cs, h1, e1⟩ := h.isBack h8
  have h2 := back_fac h1
  rw [← e1, facW_lyn hs] at h2
  obtain ⟨c, hc⟩ : ∃ c, cs = [c] := by
    have := congrArg List.length h2
    rw [List.length_map, List.length_reverse] at this
    exact List.length_eq_one_iff.1 this.symm
  subst hc
  have hsc : s = wordOf l c := by simpa using h2
  have hmem : c ∈ [c] := List.mem_singleton.2 rfl
  have hlen : c.length = s.length := by rw [hsc, wordOf_len]
  have hll := h.len h8
  have hs0 := hs.1
  have hall := h1.all
  have h0 : 0 ∈ c := by
    have : 0 ∈ [c].flatten := hall.mem_iff.2 (List.mem_range.2 (by omega))
    simpa using this
  have hc0 : c.getD 0 0 = 0 := by
    have := h1.least c hmem 0 h0
    omega
  have h3 := wordOf_at l (c := c) (a := c.length - 1) (by omega)
  rw [← hsc, show c.length - 1 - (c.length - 1) = 0 by omega, hc0, hlen] at h3
  exact h3.symm
theorem perm_rep {l : List Int} {n : Nat} {c : Int} (h : l.Perm (List.replicate n c)) : l = List.replicate n c := by
  rw [List.eq_replicate_iff]
  refine ⟨by rw [h.length_eq, List.length_replicate], fun x hx => ?_⟩
  exact (List.mem_replicate.1 (h.mem_iff.1 hx)).2
end Go.Proofs.Ytinnfcjkgddfeaa

/- Contract of the document's own comparison of two words: whorlref4.Words. -/
namespace Go.Proofs.Ytinnfcjkgddfeaa
set_option linter.unusedVariables false
set_option linter.unusedSimpArgs false
open Go.RowKit

set_option maxHeartbeats 400000 in
theorem words_any (u v : Value) (x y : List Int) (w : World) (hu : Sl .u8 w u x) (hv : Sl .u8 w v y) (hx : x.length ≤ 1000000) (hy : y.length ≤ 1000000) :
    Calls Try.prog 34 #[u, v] w fun e w' => e = .returned (.int .i64 (cmpI x y)) ∧ ∃ m, w' = w.drewN m := by
  have HU := hide' hu
  have HV := hide' hv
  obtain ⟨a, c, rfl, _⟩ := hu
  obtain ⟨a', c', rfl, _⟩ := hv
  obtain ⟨n1, hn1⟩ : ∃ n, x.length = n := ⟨_, rfl⟩
  obtain ⟨n2, hn2⟩ : ∃ n, y.length = n := ⟨_, rfl⟩
  rw [hn1] at HU hx ⊢
  rw [hn2] at HV hy ⊢
  have HXL := hide' hn1
  have HYL := hide' hn2
  clear hn1 hn2
  go_enter Try.func34, Try.ntmps34
  go_wp2
  go_loopw [5] (fun vk wr => ∃ (k : Nat), k ≤ n1 ∧ k ≤ n2 ∧ vk = .int .i64 k ∧ Hid (cmpI x y = cmpI (x.drop k) (y.drop k)) ∧ ∃ m, wr = w.drewN m) (fun vk _ => n1 - (intOf vk).toNat)
  case atStart => exact ⟨0, Nat.zero_le _, Nat.zero_le _, rfl, (show _ = _ by simp), 0, rfl⟩
  case round =>
    obtain ⟨k, hk1, hk2, rfl, HK, m, rfl⟩ := hrel
    by_cases l1 : k < n1
    · by_cases l2 : k < n2
      · have hne1 : x ≠ [] := fun h => by have := HXL.out; rw [h] at this; simp at this; omega
        have hne2 : y ≠ [] := fun h => by have := HYL.out; rw [h] at this; simp at this; omega
        obtain ⟨_, b1, o1, e1, c1⟩ := HU.out.at hne1
        obtain ⟨_, b2, o2, e2, c2⟩ := HV.out.at hne2
        have c1' := c1 k l1
        have c2' := c2 k l2
        obtain ⟨p, HP⟩ : ∃ p, Hid (x.getD k 0 = p) := ⟨_, rfl⟩
        obtain ⟨q, HQ⟩ : ∃ q, Hid (y.getD k 0 = q) := ⟨_, rfl⟩
        rw [HP.out] at c1'
        rw [HQ.out] at c2'
        subst e1 e2
        clear c1 c2 hne1 hne2
        have l1' : (k : Int) < n1 := by omega
        have l2' : (k : Int) < n2 := by omega
        by_cases hpq : p = q
        · have HK' : Hid (cmpI x y = cmpI (x.drop (k + 1)) (y.drop (k + 1))) := by
            have h := cmpI_same (x := x) (y := y) (k := k) (by rw [HXL.out]; exact l1) (by rw [HYL.out]; exact l2) (by rw [HP.out, HQ.out, hpq])
            show _ = _
            rw [HK.out, h]
          subst hpq
          go_wp2_with fail
          go_quiet (fail)
          go_wp2
          go_roundw
          case rel => exact ⟨k + 1, by omega, by omega, by go_num, HK', _, rfl⟩
          case measure => simp [intOf]; omega
        · have hpq' : (p == q) = false := by simpa using hpq
          by_cases hlt : p < q
          · have HK' : Hid (cmpI x y = -1) := by
              show _ = _
              rw [HK.out, cmpI_lt (by rw [HXL.out]; exact l1) (by rw [HYL.out]; exact l2) (by rw [HP.out, HQ.out]; exact hlt)]
            clear hpq
            go_wp2_with fail
            go_quiet (fail)
            go_wp2_with fail
            go_quiet (fail)
            go_wp2
            go_ret
            rw [HK'.out]
            exact ⟨rfl, _, by rw [World.drewN_drewN, World.drewN_drewN]⟩
          · have HK' : Hid (cmpI x y = 1) := by
              show _ = _
              rw [HK.out, cmpI_gt (by rw [HXL.out]; exact l1) (by rw [HYL.out]; exact l2) (by rw [HP.out, HQ.out]; omega)]
            have hlt' : decide (p < q) = false := by simpa using hlt
            clear hpq hlt
            go_wp2_with fail
            go_quiet (fail)
            go_wp2_with fail
            go_quiet (fail)
            go_wp2
            go_ret
            rw [HK'.out]
            exact ⟨rfl, _, by rw [World.drewN_drewN, World.drewN_drewN]⟩
      · have l1' : (k : Int) < n1 := by omega
        have l2' : decide ((k : Int) < n2) = false := by simp; omega
        have e2 : k = n2 := by omega
        have HK' : Hid (cmpI x y = 1) := by
          show _ = _
          rw [HK.out, cmpI_long (by rw [HXL.out]; exact l1) (by rw [HYL.out]; omega)]
        have d1 : decide ((n1 : Int) < n2) = false := by simp; omega
        have d2 : (n2 : Int) < n1 := by omega
        go_wp2
        go_ret
        rw [HK'.out]
        exact ⟨rfl, _, rfl⟩
    · have l1' : decide ((k : Int) < n1) = false := by simp; omega
      by_cases l2 : k < n2
      · have HK' : Hid (cmpI x y = -1) := by
          show _ = _
          rw [HK.out, cmpI_short (by rw [HXL.out]; omega) (by rw [HYL.out]; exact l2)]
        have d1 : (n1 : Int) < n2 := by omega
        go_wp2
        go_ret
        rw [HK'.out]
        exact ⟨rfl, _, rfl⟩
      · have HK' : Hid (cmpI x y = 0) := by
          show _ = _
          rw [HK.out, cmpI_end (by rw [HXL.out]; omega) (by rw [HYL.out]; omega)]
        have d1 : decide ((n1 : Int) < n2) = false := by simp; omega
        have d2 : decide ((n2 : Int) < n1) = false := by simp; omega
        go_wp2
        go_ret
        rw [HK'.out]
        exact ⟨rfl, _, rfl⟩
end Go.Proofs.Ytinnfcjkgddfeaa

/- Contract of the document's own comparison without end: whorlref8.Compare. -/
namespace Go.Proofs.Ytinnfcjkgddfeaa
set_option linter.unusedVariables false
set_option linter.unusedSimpArgs false
open Go.RowKit

theorem omI_first {x y : List Int} (h : x.length = 0 ∨ y.length = 0) : cmpI (x.take (min x.length 1)) (y.take (min y.length 1)) = omI x y := by
  rcases h with h | h
  · have e := List.length_eq_zero_iff.1 h
    subst e
    cases y with
    | nil => rw [omI_nil]; rfl
    | cons b y => rw [omI_none_left (by simp)]; simp [cmpI]
  · have e := List.length_eq_zero_iff.1 h
    subst e
    cases x with
    | nil => rw [omI_nil]; rfl
    | cons b y => rw [omI_none_right (by simp)]; simp [cmpI]

set_option maxHeartbeats 1000000 in
theorem rcompare_any (u v : Value) (x y : List Int) (w : World) (hu : Sl .u8 w u x) (hv : Sl .u8 w v y) (hx : x.length ≤ 100000) (hy : y.length ≤ 100000) :
    Calls Try.prog 41 #[u, v] w fun e w' => e = .returned (.int .i64 (omI x y)) ∧ Ext w w' := by
  have HU := hide' hu
  have HV := hide' hv
  obtain ⟨a, c, rfl, _⟩ := hu
  obtain ⟨a', c', rfl, _⟩ := hv
  by_cases h0 : x.length = 0 ∨ y.length = 0
  · have HF := hide' (omI_first h0)
    obtain ⟨t1, s1⟩ := HU.out.runTake (P := Try.prog) 22 5 Try.underlying22 size8 (min x.length 1) (by omega)
    obtain ⟨t2, s2⟩ := HV.out.runTake (P := Try.prog) 22 5 Try.underlying22 size8 (min y.length 1) (by omega)
    have S1 := hide' s1
    have S2 := hide' s2
    have X1 : Hid ((x.take (min x.length 1)).length ≤ 1000000) := by show _ ≤ _; simp; omega
    have X2 : Hid ((y.take (min y.length 1)).length ≤ 1000000) := by show _ ≤ _; simp; omega
    have m1 : min (x.length : Int) 1 = ((min x.length 1 : Nat) : Int) := by omega
    have m2 : min (y.length : Int) 1 = ((min y.length 1 : Nat) : Int) := by omega
    have HE : Hid (((x.length : Int) == 0) = true ∨ ((x.length : Int) == 0) = false ∧ ((y.length : Int) == 0) = true) := by
      by_cases h1 : x.length = 0
      · exact .inl (by rw [h1]; rfl)
      · exact .inr ⟨by simp; exact fun h => h1 (by rw [h]; rfl), by rw [show y.length = 0 by omega]; rfl⟩
    clear s1 s2
    generalize min x.length 1 = k1 at *
    generalize min y.length 1 = k2 at *
    obtain ⟨n, HN1⟩ : ∃ n, Hid (x.length = n) := ⟨_, rfl⟩
    obtain ⟨n', HN2⟩ : ∃ n, Hid (y.length = n) := ⟨_, rfl⟩
    rw [HN1.out] at t1 m1 HE hx ⊢
    rw [HN2.out] at t2 m2 HE hy ⊢
    clear h0 HU HV
    obtain ⟨r, HR⟩ : ∃ r, Hid (omI x y = r) := ⟨_, rfl⟩
    rw [HR.out] at HF ⊢
    rcases HE.out with d1 | ⟨d1, d2⟩
    all_goals
      go_enter Try.func41, Try.ntmps41
      go_wp2_with fail
      have hne := later_some w
      refine wp_region_k (fun f args v w' => v = .int .i64 r) (by kernel_rfl) (by kernel_rfl) (by kernel_rfl) ?_
      refine lexK_take 10 (by kernel_rfl) ?_
      simp only [List.take_succ_cons, List.take_zero, List.drop_succ_cons, List.drop_zero]
      repeat (go_big_quiet_step (fail))
      refine wpQuiet_nil ?_
      refine lexK_call1 34 #[.slice a k1 c, .slice a' k2 c'] (.int .i64 r) (fun _ _ => Iff.rfl) rfl (fun w' => ?_) (fun w' he' _ => toExt (by rw [← HF.out]; exact words_any _ _ _ _ w' (S1.out.ext he') (S2.out.ext he') X1.out X2.out)) ?_
      · go_simp
      simp only [Act.put, List.setIfInBounds_toArray, List.set_cons_succ, List.set_cons_zero]
      refine lexK_take 1 (by kernel_rfl) ?_
      simp only [List.take_succ_cons, List.take_zero, List.drop_succ_cons, List.drop_zero]
      repeat (go_big_quiet_step (fail))
      refine wpQuiet_nil ?_
      refine lexK_nil ?_
      intro w7 he7 _
      clear hne t1 t2
      go_wp2
      go_ret
      exact ⟨rfl, he7⟩
  · have hx0 : 0 < x.length := by omega
    have hy0 : 0 < y.length := by omega
    have hne1 : x ≠ [] := fun h => by rw [h] at hx0; simp at hx0
    have hne2 : y ≠ [] := fun h => by rw [h] at hy0; simp at hy0
    obtain ⟨_, b1, o1, rfl, c1⟩ := HU.out.at hne1
    obtain ⟨_, b2, o2, rfl, c2⟩ := HV.out.at hne2
    have C1 := hide' c1
    have C2 := hide' c2
    obtain ⟨n1, HN1⟩ : ∃ n, Hid (x.length = n) := ⟨_, rfl⟩
    obtain ⟨n2, HN2⟩ : ∃ n, Hid (y.length = n) := ⟨_, rfl⟩
    have HX0 := hide' hx0
    have HY0 := hide' hy0
    rw [HN1.out] at hx hx0 C1 ⊢
    rw [HN2.out] at hy hy0 C2 ⊢
    clear c1 c2 hne1 hne2 h0 HU HV
    have d1 : ((n1 : Int) == 0) = false := by simp; omega
    have d2 : ((n2 : Int) == 0) = false := by simp; omega
    have z1 : (n1 : Int) ≠ 0 := by omega
    have z2 : (n2 : Int) ≠ 0 := by omega
    go_enter Try.func41, Try.ntmps41
    go_wp2
    go_loopw [5] (fun vk wr => ∃ (k : Nat), k ≤ n1 + n2 ∧ vk = .int .i64 k ∧ Hid (∀ l, l < k → atW x l = atW y l) ∧ ∃ m, wr = w.drewN m) (fun vk _ => n1 + n2 - (intOf vk).toNat)
    case atStart => exact ⟨0, Nat.zero_le _, rfl, (fun l hl => by omega), 0, rfl⟩
    case round =>
      obtain ⟨k, hk, rfl, HK, m, rfl⟩ := hrel
      by_cases hlt : k < n1 + n2
      · have hlt' : (k : Int) < (n1 : Int) + n2 := by omega
        have hi := Nat.mod_lt k hx0
        have hj := Nat.mod_lt k hy0
        have ci := C1.out (k % n1) hi
        have cj := C2.out (k % n2) hj
        have HP : Hid (x.getD (k % n1) 0 = atW x k) := by show _ = _; unfold atW; rw [HN1.out]
        have HQ : Hid (y.getD (k % n2) 0 = atW y k) := by show _ = _; unfold atW; rw [HN2.out]
        rw [HP.out] at ci
        rw [HQ.out] at cj
        have r1 : (k : Int).tmod (n1 : Int) = ((k % n1 : Nat) : Int) := by rw [Int.tmod_eq_emod_of_nonneg (by omega)]; simp
        have r2 : (k : Int) % (n1 : Int) = ((k % n1 : Nat) : Int) := by simp
        have r3 : (k : Int).tmod (n2 : Int) = ((k % n2 : Nat) : Int) := by rw [Int.tmod_eq_emod_of_nonneg (by omega)]; simp
        have r4 : (k : Int) % (n2 : Int) = ((k % n2 : Nat) : Int) := by simp
        obtain ⟨p, HPP⟩ : ∃ p, Hid (atW x k = p) := ⟨_, rfl⟩
        obtain ⟨q, HQQ⟩ : ∃ q, Hid (atW y k = q) := ⟨_, rfl⟩
        rw [HPP.out] at ci
        rw [HQQ.out] at cj
        clear HP HQ
        obtain ⟨i, hI⟩ : ∃ i, k % n1 = i := ⟨_, rfl⟩
        obtain ⟨j, hJ⟩ : ∃ j, k % n2 = j := ⟨_, rfl⟩
        rw [hI] at ci hi r1 r2
        rw [hJ] at cj hj r3 r4
        clear hI hJ
        have li : (i : Int) < n1 := by omega
        have lj : (j : Int) < n2 := by omega
        by_cases hpq : p = q
        · have HK' : Hid (∀ l, l < k + 1 → atW x l = atW y l) := fun l hl => by
            by_cases e : l = k
            · subst e; rw [HPP.out, HQQ.out, hpq]
            · exact HK.out l (by omega)
          subst hpq
          have e1 : decide (p < p) = false := by simp
          go_wp2_with fail
          go_quiet (fail)
          clear ci cj r1 r2 r3 r4
          go_wp2
          go_roundw
          case rel => exact ⟨k + 1, by omega, by go_num, HK', _, rfl⟩
          case measure => simp [intOf]; omega
        · have HR : Hid (omI x y = if p < q then -1 else 1) := by
            have := omI_other (u := x) (v := y) HX0.out HY0.out (m := k) (by rw [HN1.out, HN2.out]; exact hlt) HK.out (by rw [HPP.out, HQQ.out]; exact hpq)
            rw [HPP.out, HQQ.out] at this
            exact this
          by_cases hl2 : p < q
          · rw [if_pos hl2] at HR
            clear hpq
            go_wp2_with fail
            go_quiet (fail)
            clear ci cj r1 r2 r3 r4
            go_wp2
            go_ret
            rw [HR.out]
            exact ⟨rfl, Ext.drewN _ _⟩
          · rw [if_neg hl2] at HR
            have hl3 : q < p := by omega
            have e1 : decide (p < q) = false := by simpa using hl2
            clear hpq hl2
            go_wp2_with fail
            go_quiet (fail)
            clear ci cj r1 r2 r3 r4
            go_wp2
            go_ret
            rw [HR.out]
            exact ⟨rfl, Ext.drewN _ _⟩
      · have hlt' : decide ((k : Int) < (n1 : Int) + n2) = false := by simp; omega
        have HR : Hid (omI x y = 0) := omI_same HX0.out HY0.out (fun l hl => HK.out l (by rw [HN1.out, HN2.out] at hl; omega))
        go_wp2
        go_ret
        rw [HR.out]
        exact ⟨rfl, Ext.drewN _ _⟩
end Go.Proofs.Ytinnfcjkgddfeaa
