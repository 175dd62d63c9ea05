/- Contract of necklace.Canon. -/
import Derived.Test.YtjccpkekhjhafaaNecIn
namespace Go.Proofs.Ytjccpkekhjhafaa
set_option linter.unusedVariables false
set_option linter.unusedSimpArgs false
open Go.RowKit

/-- 'make([][]byte, n)' -/
theorem make_rows (w : World) (n : Nat) (hn : n ≤ 1000000) : ∃ w', (Instr.makeSlice 22 (.int .i64 (n : Int)) (.int .i64 (n : Int))).run Try.prog w = .ok (.slice (some ⟨w.heap.size, 0, none⟩) n n) w' ∧ OwnV w.heap.size w' (.slice (some ⟨w.heap.size, 0, none⟩) n n) (List.replicate n (.slice none 0 0)) ∧ Ext w w' := by
  obtain ⟨i0, hi, hz0, hz1, hz2⟩ := info_partsV infoV
  obtain ⟨w', h1, h2, h3⟩ := run_make_full (P := Try.prog) w w.heap.size 22 31 i0 (.slice none 0 0) 1 Try.underlying22 hi hz0 hz1 .i64 .i64 n (by rw [hz2]; omega) (by unfold maxLen; omega) (Nat.le_refl _)
  refine ⟨w', h1, ?_, ⟨h3.os, h3.tape, h3.output, h3.size, fun k hk => h3.block k hk (by simp)⟩⟩
  unfold OwnV
  have e1 : (Value.slice none 0 0).cells = #[Value.slice none 0 0] := rfl
  rw [e1, Nat.mul_one, toList_madeCells_one] at h2
  rw [List.length_replicate]
  exact h2
theorem OwnV.store {B : Nat} {w : World} {g n cap : Nat} {vs : List Value} (h : OwnV B w (.slice (some ⟨g, 0, none⟩) n cap) vs) (hn : vs.length = n) (j : Nat) (u : Value) :
    OwnV B (w.setCell ⟨g, j, none⟩ u) (.slice (some ⟨g, 0, none⟩) n cap) (vs.set j u) := by
  subst hn
  have := World.ownsRow.stored h j u
  unfold OwnV
  rw [List.length_set]
  exact this.1
theorem OwnV.cell {B : Nat} {w : World} {g n cap : Nat} {vs : List Value} (h : OwnV B w (.slice (some ⟨g, 0, none⟩) n cap) vs) (hn : vs.length = n) {j : Nat} (hj : j < n) : (∃ x, w.cell? ⟨g, j, none⟩ = some x) ∧ w.frozen? ⟨g, j, none⟩ = false := by
  subst hn
  exact ⟨⟨_, by rw [World.ownsRow.cellAt h j (by omega), List.getElem?_eq_getElem hj]⟩, World.ownsRow.frozenAt h j⟩
/-- The first k of xs, then what was there. -/
def upto (xs : List Value) (z : Value) (k : Nat) : List Value := xs.take k ++ List.replicate (xs.length - k) z
theorem upto_zero (xs : List Value) (z : Value) : upto xs z 0 = List.replicate xs.length z := by simp [upto]
theorem upto_len (xs : List Value) (z : Value) (k : Nat) (h : k ≤ xs.length) : (upto xs z k).length = xs.length := by
  unfold upto
  rw [List.length_append, List.length_take, List.length_replicate]
  omega
theorem upto_all (xs : List Value) (z : Value) (k : Nat) (h : xs.length ≤ k) : upto xs z k = xs := by
  unfold upto
  rw [List.take_of_length_le h, show xs.length - k = 0 by omega]
  simp
theorem upto_set {xs : List Value} {z u : Value} {k : Nat} (h : xs[k]? = some u) : (upto xs z k).set k u = upto xs z (k + 1) := by
  obtain ⟨hk, e⟩ := List.getElem?_eq_some_iff.1 h
  unfold upto
  have hl : (xs.take k).length = k := by rw [List.length_take]; omega
  rw [List.set_append_right _ _ (by omega), hl, Nat.sub_self, show xs.length - k = (xs.length - (k + 1)) + 1 by omega, List.replicate_succ, List.set_cons_zero, List.take_add_one, h]
  simp
theorem SlR.at {w : World} {a : Option Addr} {n c : Nat} {l : List Rg} (h : SlR w (.slice a n c) l) : l.length = n ∧ n ≤ c ∧ c ≤ maxLen ∧ (0 < n → ∃ b, a = some ⟨b, 0, none⟩ ∧ ∀ i r, l[i]? = some r → w.cell? ⟨b, i * 3, none⟩ = some r.tv ∧ w.cell? ⟨b, i * 3 + 1, none⟩ = some r.rv ∧ w.cell? ⟨b, i * 3 + 2, none⟩ = some (.int .i64 (tmI r.x : Int))) := by
  obtain ⟨a', c', h1, h2, h3, h5⟩ := h
  simp only [Value.slice.injEq] at h1
  obtain ⟨rfl, rfl, rfl⟩ := h1
  refine ⟨rfl, h2, h3, fun h0 => ?_⟩
  rcases h5 with rfl | h5
  · simp at h0
  · exact h5
theorem slice_of {w : World} {v : Value} {zs : List Int} {k : IntKind} (h : Sl k w v zs) : ∃ a n c, v = .slice a n c := by
  obtain ⟨a, c, h, _⟩ := h
  exact ⟨a, _, c, h⟩

set_option maxHeartbeats 1000000 in
theorem canon_any (v : Value) (zss : List (List Int)) (w : World) (hs : Sls w v zss) (hw : Words8 zss) :
    Calls Try.prog 11 #[v] w fun e w' => ∃ s vs, e = .returned s ∧ OwnV w.heap.size w' s vs ∧ Rows8 w.heap.size w' vs (canonL zss) ∧ Ext w w' := by
  have C := hide' (inOrder_any v zss w hs hw)
  have LN : Hid ((canonL zss).length ≤ 100000) := by
    have h1 := baseL_len_take zss zss.length
    rw [List.take_of_length_le (Nat.le_refl _), ← canonL_len] at h1
    have := hw.1
    show _ ≤ _
    omega
  clear hs hw
  go_enter Try.func11, Try.ntmps11
  go_wp2_with fail
  refine C.out.mono ?_
  rintro e w1 ⟨s, l, rfl, hx, hsl, hok, he⟩
  have HX := hide' hx
  have E1 := hide' he
  have HS := hide' hsl
  have HK := hide' hok
  clear hx he hok C
  obtain ⟨sa, sc, rfl, hsc, hsm, _⟩ := hsl
  obtain ⟨n, HN⟩ : ∃ n, Hid (l.length = n) := ⟨_, rfl⟩
  have hn : n ≤ 100000 := by have := LN.out; rw [← HX.out, List.length_map, HN.out] at this; exact this
  rw [HN.out] at HS hsc ⊢
  unfold maxLen at hsm
  obtain ⟨w2, hmk, ho, he⟩ := make_rows w1 n (by omega)
  have HT : Hid ((l.map (·.tv)).length = n) := by show _ = _; rw [List.length_map]; exact HN.out
  have O1 : Hid (OwnV w1.heap.size w2 (.slice (some ⟨w1.heap.size, 0, none⟩) n n) (upto (l.map (·.tv)) (.slice none 0 0) 0)) := by show OwnV _ _ _ _; rw [upto_zero, HT.out]; exact ho
  have E2 := hide' he
  have G2 : w1.heap.size < w2.heap.size := by
    have := World.ownsRow.lt ho w1.heap.size rfl
    exact this.2
  clear ho he
  obtain ⟨g, HG⟩ : ∃ g, Hid (w1.heap.size = g) := ⟨_, rfl⟩
  rw [HG.out] at hmk O1 G2
  go_wp2
  go_loopw [14] (fun vk wr => ∃ (k : Nat), k ≤ n ∧ vk = .int .i64 k ∧ Hid (OwnV g wr (.slice (some ⟨g, 0, none⟩) n n) (upto (l.map (·.tv)) (.slice none 0 0) k)) ∧ Hid (Ext w1 wr)) (fun vk _ => n - (intOf vk).toNat)
  case atStart => exact ⟨0, Nat.zero_le _, rfl, O1, E2⟩
  case round =>
    obtain ⟨k, hk, rfl, HO, HE⟩ := hrel
    by_cases hlt : k < n
    · have hlt' : (k : Int) < n := by omega
      obtain ⟨r, hr⟩ : ∃ r, l[k]? = some r := ⟨_, List.getElem?_eq_getElem (by rw [HN.out]; exact hlt)⟩
      obtain ⟨_, _, _, hcell⟩ := (HS.out.ext HE.out).at
      obtain ⟨b, rfl, hcl⟩ := hcell (by omega)
      obtain ⟨c0, c1, c2⟩ := hcl k r hr
      have hrk := HK.out r (List.mem_of_getElem? hr)
      have hut : Hid ((l.map (·.tv))[k]? = some r.tv) := by show _ = _; rw [List.getElem?_map, hr]; rfl
      obtain ⟨ta, tn, tc, ht⟩ := slice_of hrk.1.sl
      obtain ⟨ra, rn, rc, hrv⟩ := slice_of hrk.2.1.sl
      rw [ht] at c0 hut
      rw [hrv] at c1
      obtain ⟨m, HM⟩ : ∃ m, Hid (tmI r.x = m) := ⟨_, rfl⟩
      rw [HM.out] at c2
      have hul : Hid ((upto (l.map (·.tv)) (.slice none 0 0) k).length = n) := by show _ = _; rw [upto_len _ _ _ (by rw [HT.out]; exact hk)]; exact HT.out
      clear hcell hcl hrk ht hrv hr
      have HO1 := hide' (HO.out.ext (ext_alloc wr (.cells #[.slice ta tn tc, .slice ra rn rc, .int .i64 (m : Int)] 38)))
      obtain ⟨⟨z, hz⟩, hf⟩ := HO1.out.cell hul.out hlt
      have HO2 := hide' (HO1.out.store hul.out k (.slice ta tn tc))
      rw [upto_set hut.out] at HO2
      have E3 : Hid (Ext w1 ((wr.alloc (.cells #[.slice ta tn tc, .slice ra rn rc, .int .i64 (m : Int)] 38)).setCell ⟨g, k, none⟩ (.slice ta tn tc))) :=
        Ext.but (HE.out.trans (ext_alloc _ _)) (by rw [HG.out]; exact Nat.le_refl _) ((But.refl _ _).setCell _ _)
      go_wp2
      go_roundw
      case rel => exact ⟨k + 1, by omega, by go_num, HO2, E3⟩
      case measure => simp [intOf]; omega
    · have hlt' : (n : Int) ≤ k := by omega
      have HO1 := HO.out
      rw [upto_all _ _ _ (by rw [HT.out]; omega)] at HO1
      have HO2 := hide' HO1
      have HR : Hid (Rows8 w.heap.size wr (l.map (·.tv)) (canonL zss)) := by
        refine ⟨by rw [← HX.out, List.length_map, List.length_map], fun i u hu => ?_⟩
        rw [List.getElem?_map] at hu
        cases hr : l[i]? with
        | none => rw [hr] at hu; cases hu
        | some r =>
          rw [hr] at hu
          simp only [Option.map_some, Option.some.injEq] at hu
          subst hu
          rw [← HX.out, List.getD_eq_getElem?_getD, List.getElem?_map, hr]
          exact ((HK.out r (List.mem_of_getElem? hr)).ext HE.out).1
      clear HO1
      go_wp2
      go_ret
      exact ⟨_, _, rfl, HO2.out.low (by rw [← HG.out]; exact E1.out.size), HR.out, E1.out.trans HE.out⟩
end Go.Proofs.Ytjccpkekhjhafaa
