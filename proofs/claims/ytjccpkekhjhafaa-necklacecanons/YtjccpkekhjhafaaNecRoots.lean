/- Contract of necklace.Roots. -/
import Derived.Test.YtjccpkekhjhafaaNecCanon
import Derived.Test.YtjccpkekhjhafaaInts
namespace Go.Proofs.Ytjccpkekhjhafaa
set_option linter.unusedVariables false
set_option linter.unusedSimpArgs false
open Go.RowKit

def timesL (l : List (List Int)) : List Int := l.map fun x => (tmI x : Int)
def rootsL (l : List (List Int)) : List (List Int) := l.map rtI

/-- The first k of xs, then noughts. -/
def uptoI (xs : List Int) (k : Nat) : List Int := xs.take k ++ List.replicate (xs.length - k) 0
theorem uptoI_zero (xs : List Int) : uptoI xs 0 = List.replicate xs.length 0 := by simp [uptoI]
theorem uptoI_len (xs : List Int) (k : Nat) (h : k ≤ xs.length) : (uptoI xs k).length = xs.length := by
  unfold uptoI
  rw [List.length_append, List.length_take, List.length_replicate]
  omega
theorem uptoI_all (xs : List Int) (k : Nat) (h : xs.length ≤ k) : uptoI xs k = xs := by
  unfold uptoI
  rw [List.take_of_length_le h, show xs.length - k = 0 by omega]
  simp
theorem uptoI_set {xs : List Int} {u : Int} {k : Nat} (h : xs[k]? = some u) : (uptoI xs k).set k u = uptoI xs (k + 1) := by
  obtain ⟨hk, e⟩ := List.getElem?_eq_some_iff.1 h
  unfold uptoI
  have hl : (xs.take k).length = k := by rw [List.length_take]; omega
  rw [List.set_append_right _ _ (by omega), hl, Nat.sub_self, show xs.length - k = (xs.length - (k + 1)) + 1 by omega, List.replicate_succ, List.set_cons_zero, List.take_add_one, h]
  simp

theorem run_make_op {P : Program} {w w' : World} {ρ : Operand → Value} {o : Oper} {t : TypeId} {x y : Operand} {a b u : Value} (ho : o.op = .makeSlice t x y) (hx : ρ x = a) (hy : ρ y = b) (h : (Instr.makeSlice t a b).run P w = .ok u w') :
    (execOp ρ o).run P w = .ok (.value u) w' := by
  unfold execOp
  rw [ho]
  simp [hx, hy, h]

theorem owns_ne {e e' : TypeId} {B B' n m sz sz' g h gn gc hn hc : Nat} {w : World} {xs ys : List Value} (hv : w.ownsRow B e sz (.slice (some ⟨g, 0, none⟩) gn gc) n xs) (hx : w.ownsRow B' e' sz' (.slice (some ⟨h, 0, none⟩) hn hc) m ys) (he : e ≠ e') : g ≠ h := by
  rintro rfl
  rcases hv.2 with ⟨h, _⟩ | ⟨g1, cap, cur, h, _, hb, _⟩
  · cases h
  · rcases hx.2 with ⟨h', _⟩ | ⟨g2, cap', cur', h', _, hb', _⟩
    · cases h'
    · simp only [Value.slice.injEq, Option.some.injEq, Addr.mk.injEq, and_true] at h h'
      rw [← h.1] at hb
      rw [← h'.1, hb] at hb'
      cases hb'
      exact he rfl
theorem Own.cellN {k : IntKind} {e : TypeId} {B : Nat} {w : World} {g n cap : Nat} {zs : List Int} (h : Own k e B w (.slice (some ⟨g, 0, none⟩) n cap) zs) (hn : zs.length = n) {j : Nat} (hj : j < n) : (∃ x, w.cell? ⟨g, j, none⟩ = some x) ∧ w.frozen? ⟨g, j, none⟩ = false :=
  ⟨⟨_, h.cell hn j hj⟩, h.frozen hn j⟩
theorem OwnV.keep {B g j : Nat} {w : World} {a : Option Addr} {n c : Nat} {vs : List Value} (h : OwnV B w (.slice (some ⟨g, 0, none⟩) n c) vs) (b : Nat) (hb : g ≠ b) (v : Value) : OwnV B (w.setCell ⟨b, j, none⟩ v) (.slice (some ⟨g, 0, none⟩) n c) vs :=
  World.ownsRow.kept (row := some b) h ((But.refl b w).setCell j v) (.inr (by simp [Value.ownBlock]; exact hb))
theorem Own.keep1 {k : IntKind} {e : TypeId} {B g j : Nat} {w : World} {n c : Nat} {zs : List Int} (h : Own k e B w (.slice (some ⟨g, 0, none⟩) n c) zs) (b : Nat) (hb : g ≠ b) (v : Value) : Own k e B (w.setCell ⟨b, j, none⟩ v) (.slice (some ⟨g, 0, none⟩) n c) zs :=
  World.ownsRow.kept (row := some b) h ((But.refl b w).setCell j v) (.inr (by simp [Value.ownBlock]; exact hb))

set_option maxHeartbeats 2000000 in
theorem roots_any (v : Value) (zss : List (List Int)) (w : World) (hs : Sls w v zss) (hw : Words8 zss) :
    Calls Try.prog 8 #[v] w fun e w' => ∃ s t vs, e = .returned (.tuple #[s, t]) ∧ SlV w' s vs ∧ Read8 w' vs (rootsL (canonL zss)) ∧ Sl .i64 w' t (timesL (canonL zss)) ∧ Ext w w' := by
  have C := hide' (inOrder_any v zss w hs hw)
  have LN : Hid ((canonL zss).length ≤ 100000) := by
    have h1 := baseL_len_take zss zss.length
    rw [List.take_of_length_le (Nat.le_refl _), ← canonL_len] at h1
    have := hw.1
    show _ ≤ _
    omega
  clear hs hw
  go_enter Try.func8, Try.ntmps8
  go_wp2_with fail
  refine C.out.mono ?_
  rintro e w1 ⟨s, l, rfl, hx, hsl, hok, he⟩
  have HX := hide' hx
  have E1 := hide' he
  have HS := hide' hsl
  have HK := hide' hok
  clear hx he hok C
  obtain ⟨sa, sc, rfl, hsc, hsm, _⟩ := hsl
  obtain ⟨n, HN⟩ : ∃ n, Hid (l.length = n) := ⟨_, rfl⟩
  have hn : n ≤ 100000 := by have := LN.out; rw [← HX.out, List.length_map, HN.out] at this; exact this
  rw [HN.out] at HS hsc ⊢
  unfold maxLen at hsm
  go_wp2_with fail
  have hne := later_some w1
  refine wp_region_k (fun _ _ _ _ => True) (by kernel_rfl) (by kernel_rfl) (by kernel_rfl) ?_
  refine lexK_take 2 (by kernel_rfl) ?_
  simp only [List.take_succ_cons, List.take_zero, List.drop_succ_cons, List.drop_zero]
  repeat (go_big_quiet_step (fail))
  refine wpQuiet_nil ?_
  refine lexK_some (fun u w' => ∃ g, u = .slice (some ⟨g, 0, none⟩) n n ∧ w1.heap.size ≤ g ∧ OwnV w1.heap.size w' u (List.replicate n (.slice none 0 0))) (fun u w1' w2' h12 h => ?_) rfl (fun w1' he1 _ => ?_) ?_
  · obtain ⟨g, h1, h2, h3⟩ := h
    exact ⟨g, h1, h2, h3.ext h12⟩
  · obtain ⟨w2, hmk, ho, he⟩ := make_rows w1' n (by omega)
    exact ⟨_, w2, run_make_op rfl rfl rfl hmk, he, _, rfl, he1.size, ho.low he1.size⟩
  intro u11 w11 _ _ hu11
  simp only [Act.put, List.setIfInBounds_toArray, List.set_cons_succ, List.set_cons_zero]
  refine lexK_take 2 (by kernel_rfl) ?_
  simp only [List.take_succ_cons, List.take_zero, List.drop_succ_cons, List.drop_zero]
  repeat (go_big_quiet_step (fail))
  refine wpQuiet_nil ?_
  refine lexK_some (fun u w' => ∃ g, u = .slice (some ⟨g, 0, none⟩) n n ∧ w1.heap.size ≤ g ∧ Own .i64 3 w1.heap.size w' u (List.replicate n 0)) (fun u w1' w2' h12 h => ?_) rfl (fun w1' he1 _ => ?_) ?_
  · obtain ⟨g, h1, h2, h3⟩ := h
    exact ⟨g, h1, h2, h3.ext h12⟩
  · obtain ⟨w2, hmk, ho, he⟩ := make_ints w1' n (by omega)
    exact ⟨_, w2, run_make_op rfl rfl rfl hmk, he, _, rfl, he1.size, ho.low he1.size⟩
  intro u14 w14 _ _ hu14
  simp only [Act.put, List.setIfInBounds_toArray, List.set_cons_succ, List.set_cons_zero]
  refine lexK_take 2 (by kernel_rfl) ?_
  simp only [List.take_succ_cons, List.take_zero, List.drop_succ_cons, List.drop_zero]
  repeat (go_big_quiet_step (fail))
  refine wpQuiet_nil ?_
  refine lexK_nil ?_
  intro w2 he2 hf2
  obtain ⟨g, hg1, hg2, hg3⟩ := (hf2 11).1.2 rfl
  obtain ⟨h, hh1, hh2, hh3⟩ := (hf2 14).2 rfl
  subst hg1 hh1
  have HRV : Hid ((l.map (·.rv)).length = n) := by show _ = _; rw [List.length_map]; exact HN.out
  have HTM : Hid ((l.map (fun r => (tmI r.x : Int))).length = n) := by show _ = _; rw [List.length_map]; exact HN.out
  have O1 : Hid (OwnV w1.heap.size w2 (.slice (some ⟨g, 0, none⟩) n n) (upto (l.map (·.rv)) (.slice none 0 0) 0)) := by show OwnV _ _ _ _; rw [upto_zero, HRV.out]; exact hg3
  have T1 : Hid (Own .i64 3 w1.heap.size w2 (.slice (some ⟨h, 0, none⟩) n n) (uptoI (l.map (fun r => (tmI r.x : Int))) 0)) := by show Own _ _ _ _ _ _; rw [uptoI_zero, HTM.out]; exact hh3
  have hgh : g ≠ h := owns_ne hg3 hh3 (by decide)
  have hhg : h ≠ g := fun e => hgh e.symm
  have E2 := hide' he2
  clear he2 hf2 hg3 hh3 hu11 hu14 hne
  go_wp2
  go_loopw [17] (fun vk wr => ∃ (k : Nat), k ≤ n ∧ vk = .int .i64 k ∧ Hid (OwnV w1.heap.size wr (.slice (some ⟨g, 0, none⟩) n n) (upto (l.map (·.rv)) (.slice none 0 0) k)) ∧ Hid (Own .i64 3 w1.heap.size wr (.slice (some ⟨h, 0, none⟩) n n) (uptoI (l.map (fun r => (tmI r.x : Int))) k)) ∧ Hid (Ext w1 wr)) (fun vk _ => n - (intOf vk).toNat)
  case atStart => exact ⟨0, Nat.zero_le _, rfl, O1, T1, E2⟩
  case round =>
    clear O1 T1 E2
    obtain ⟨k, hk, rfl, HO, HT, HE⟩ := hrel
    by_cases hlt : k < n
    · have hlt' : (k : Int) < n := by omega
      obtain ⟨r, hr⟩ : ∃ r, l[k]? = some r := ⟨_, List.getElem?_eq_getElem (by rw [HN.out]; exact hlt)⟩
      obtain ⟨_, _, _, hcell⟩ := (HS.out.ext HE.out).at
      obtain ⟨b, rfl, hcl⟩ := hcell (by omega)
      obtain ⟨c0, c1, c2⟩ := hcl k r hr
      have hrk := HK.out r (List.mem_of_getElem? hr)
      have hut : Hid ((l.map (·.rv))[k]? = some r.rv) := by show _ = _; rw [List.getElem?_map, hr]; rfl
      have hti : Hid ((l.map (fun r => (tmI r.x : Int)))[k]? = some (tmI r.x : Int)) := by show _ = _; rw [List.getElem?_map, hr]; rfl
      obtain ⟨ta, tn, tc, ht⟩ := slice_of hrk.1.sl
      obtain ⟨ra, rn, rc, hrv⟩ := slice_of hrk.2.1.sl
      rw [ht] at c0
      rw [hrv] at c1 hut
      obtain ⟨m, HM⟩ : ∃ m, Hid (tmI r.x = m) := ⟨_, rfl⟩
      rw [HM.out] at c2 hti
      have hul : Hid ((upto (l.map (·.rv)) (.slice none 0 0) k).length = n) := by show _ = _; rw [upto_len _ _ _ (by rw [HRV.out]; exact hk)]; exact HRV.out
      have htl : Hid ((uptoI (l.map (fun r => (tmI r.x : Int))) k).length = n) := by show _ = _; rw [uptoI_len _ _ (by rw [HTM.out]; exact hk)]; exact HTM.out
      clear hcell hcl hrk ht hrv hr
      go_wp2_with fail
      have HO1 := hide' (HO.out.ext (ext_alloc wr (.cells #[.slice ta tn tc, .slice ra rn rc, .int .i64 (m : Int)] 38)))
      have HT1 := hide' (HT.out.ext (ext_alloc wr (.cells #[.slice ta tn tc, .slice ra rn rc, .int .i64 (m : Int)] 38)))
      have HE1 := hide' (HE.out.trans (ext_alloc wr (.cells #[.slice ta tn tc, .slice ra rn rc, .int .i64 (m : Int)] 38)))
      have x1 : (wr.alloc (.cells #[.slice ta tn tc, .slice ra rn rc, .int .i64 (m : Int)] 38)).cell? ⟨wr.heap.size, 1, none⟩ = some (.slice ra rn rc) := by simp only [World.cell?, heap_alloc_top]; rfl
      have x2 : (wr.alloc (.cells #[.slice ta tn tc, .slice ra rn rc, .int .i64 (m : Int)] 38)).cell? ⟨wr.heap.size, 2, none⟩ = some (.int .i64 (m : Int)) := by simp only [World.cell?, heap_alloc_top]; rfl
      have p1 : wr.heap.size ≠ g := fun e => by
        have := (World.ownsRow.lt HO.out g rfl).2
        omega
      have p2 : wr.heap.size ≠ h := fun e => by
        have := (World.ownsRow.lt HT.out h rfl).2
        omega
      generalize wr.alloc (.cells #[.slice ta tn tc, .slice ra rn rc, .int .i64 (m : Int)] 38) = W at *
      generalize wr.heap.size = q at *
      obtain ⟨⟨z, hz⟩, hf⟩ := HO1.out.cell hul.out hlt
      obtain ⟨⟨z', hz'⟩, hf'⟩ := HT1.out.cellN htl.out hlt
      go_big_region
      have HO2 := HO1.out.store hul.out k (.slice ra rn rc)
      rw [upto_set hut.out] at HO2
      have HO3 : Hid (OwnV w1.heap.size ((W.setCell ⟨g, k, none⟩ (.slice ra rn rc)).setCell ⟨h, k, none⟩ (.int .i64 (m : Int))).drew (.slice (some ⟨g, 0, none⟩) n n) (upto (l.map (·.rv)) (.slice none 0 0) (k + 1))) := hide' ((HO2.keep (a := none) (j := k) h hgh (.int .i64 (m : Int))).ext (Ext.drewN _ 1))
      have HT2 := (HT1.out.keep1 (j := k) g hhg (.slice ra rn rc)).store htl.out k (m : Int)
      rw [uptoI_set hti.out] at HT2
      have HT3 : Hid (Own .i64 3 w1.heap.size ((W.setCell ⟨g, k, none⟩ (.slice ra rn rc)).setCell ⟨h, k, none⟩ (.int .i64 (m : Int))).drew (.slice (some ⟨h, 0, none⟩) n n) (uptoI (l.map (fun r => (tmI r.x : Int))) (k + 1))) := hide' (HT2.ext (Ext.drewN _ 1))
      have HE3 : Hid (Ext w1 ((W.setCell ⟨g, k, none⟩ (.slice ra rn rc)).setCell ⟨h, k, none⟩ (.int .i64 (m : Int))).drew) :=
        (Ext.but (Ext.but HE1.out hg2 ((But.refl _ _).setCell _ _)) hh2 ((But.refl _ _).setCell _ _)).trans (Ext.drewN _ 1)
      clear HO2 HT2 HO1 HT1 HE1 HO HT HE hz hf hz' hf' x1 x2
      generalize ((W.setCell ⟨g, k, none⟩ (.slice ra rn rc)).setCell ⟨h, k, none⟩ (.int .i64 (m : Int))).drew = WW at *
      go_wp2
      go_roundw
      case rel => exact ⟨k + 1, by omega, by go_num, HO3, HT3, HE3⟩
      case measure => simp [intOf]; omega
    · have hlt' : (n : Int) ≤ k := by omega
      have HO1 := HO.out
      rw [upto_all _ _ _ (by rw [HRV.out]; omega)] at HO1
      have HT1 := HT.out
      rw [uptoI_all _ _ (by rw [HTM.out]; omega)] at HT1
      have HO2 := hide' HO1.sl
      have HT2 : Hid (Sl .i64 wr (.slice (some ⟨h, 0, none⟩) n n) (timesL (canonL zss))) := by
        show Sl _ _ _ _
        unfold timesL
        rw [← HX.out, List.map_map]
        exact HT1.sl
      have HR : Hid (Read8 wr (l.map (·.rv)) (rootsL (canonL zss))) := by
        unfold rootsL
        refine ⟨by rw [← HX.out, List.length_map, List.length_map, List.length_map], fun i u hu => ?_⟩
        rw [List.getElem?_map] at hu
        cases hr : l[i]? with
        | none => rw [hr] at hu; cases hu
        | some r =>
          rw [hr] at hu
          simp only [Option.map_some, Option.some.injEq] at hu
          subst hu
          rw [← HX.out, List.getD_eq_getElem?_getD, List.getElem?_map, List.getElem?_map, hr]
          exact ((HK.out r (List.mem_of_getElem? hr)).ext HE.out).2.1.sl
      clear HO1 HT1 HO HT
      go_wp2
      go_ret2
      exact ⟨_, _, _, rfl, HO2.out, HR.out, HT2.out, E1.out.trans HE.out⟩
end Go.Proofs.Ytjccpkekhjhafaa
