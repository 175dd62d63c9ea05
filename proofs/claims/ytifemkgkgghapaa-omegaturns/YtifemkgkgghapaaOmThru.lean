/- Contracts of omega.through and omega.counted. -/
import Derived.Test.YtifemkgkgghapaaCsMath
import Derived.Test.YtifemkgkgghapaaInts
namespace Go.Proofs.Ytifemkgkgghapaa
set_option linter.unusedVariables false
set_option linter.unusedSimpArgs false
open Go.RowKit

theorem Own.intCell {B : Nat} {w : World} {g n cap : Nat} {l : List Nat} (h : Own .i64 3 B w (.slice (some ⟨g, 0, none⟩) n cap) (natL l)) (hn : l.length = n) (j : Nat) (hj : j < n) : w.cell? ⟨g, j, none⟩ = some (.int .i64 (l.getD j 0 : Nat)) := by
  rw [h.cell (by rw [natL_len]; exact hn) j hj, natL_at]

theorem Own.storeN {B : Nat} {w : World} {g n cap : Nat} {l : List Nat} (h : Own .i64 3 B w (.slice (some ⟨g, 0, none⟩) n cap) (natL l)) (hn : l.length = n) (j x : Nat) :
    Own .i64 3 B (w.setCell ⟨g, j, none⟩ (.int .i64 (x : Int))) (.slice (some ⟨g, 0, none⟩) n cap) (natL (l.set j x)) := by
  rw [natL_set]
  exact h.store (by rw [natL_len]; exact hn) j x

theorem natL_rep (n : Nat) : List.replicate n (0 : Int) = natL (List.replicate n 0) := by simp [natL]

/-- 'make([]int, n)', as naturals. -/
theorem make_nats (w : World) (n : Nat) (hn : n ≤ 1000000) : ∃ w', (Instr.makeSlice 39 (.int .i64 (n : Int)) (.int .i64 (n : Int))).run Try.prog w = .ok (.slice (some ⟨w.heap.size, 0, none⟩) n n) w' ∧ Own .i64 3 w.heap.size w' (.slice (some ⟨w.heap.size, 0, none⟩) n n) (natL (List.replicate n 0)) ∧ Ext w w' := by
  obtain ⟨w', h1, h2, h3⟩ := make_ints w n hn
  exact ⟨w', h1, by rw [← natL_rep]; exact h2, h3⟩

/-- A row of naturals that may be read. -/
theorem Sl.nat {w : World} {a : Option Addr} {n c : Nat} {l : List Nat} (h : Sl .i64 w (.slice a n c) (natL l)) : l.length = n ∧ n ≤ c ∧ c ≤ maxLen ∧ (0 < n → ∃ g off, a = some ⟨g, off, none⟩ ∧ ∀ i, i < n → w.cell? ⟨g, off + i, none⟩ = some (.int .i64 (l.getD i 0 : Nat))) := by
  have h' := h
  obtain ⟨a', c', h1, h2, h3, _, _⟩ := h
  simp only [Value.slice.injEq] at h1
  obtain ⟨rfl, rfl, rfl⟩ := h1
  refine ⟨(natL_len l).symm, h2, h3, fun h0 => ?_⟩
  obtain ⟨_, g, off, h4, h5⟩ := h'.at (fun e => by rw [e] at h0; simp at h0)
  exact ⟨g, off, h4, fun i hi => by rw [h5 i hi, natL_at]⟩

set_option maxHeartbeats 400000 in
theorem through_any (v u : Value) (ps vs : List Nat) (w : World) (hv : Sl .i64 w v (natL ps)) (hu : Sl .i64 w u (natL vs)) (hin : ∀ p ∈ ps, p < vs.length) (hlen : ps.length ≤ 1000000) :
    Calls Try.prog 26 #[v, u] w fun e w' => ∃ s, e = .returned s ∧ Own .i64 3 w.heap.size w' s (natL (ps.map fun p => vs.getD p 0)) ∧ Ext w w' := by
  have HV := hide' hv
  have HU := hide' hu
  obtain ⟨a, c, rfl, _⟩ := hv
  obtain ⟨a', c', rfl, _⟩ := hu
  rw [natL_len] at HV HU ⊢
  rw [natL_len]
  obtain ⟨_, hc1, hc2, hcv⟩ := HV.out.nat
  obtain ⟨_, hc3, hc4, hcu⟩ := HU.out.nat
  unfold maxLen at hc2 hc4
  have CV := hide' hcv
  have CU := hide' hcu
  have HI := hide' hin
  obtain ⟨n, HN⟩ : ∃ n, Hid (ps.length = n) := ⟨_, rfl⟩
  obtain ⟨m, HM⟩ : ∃ n, Hid (vs.length = n) := ⟨_, rfl⟩
  rw [HN.out] at CV hlen hc1 ⊢
  rw [HM.out] at CU hc3 HI ⊢
  clear hcv hcu hin HV HU
  obtain ⟨w1, hmk, ho, he⟩ := make_nats w n hlen
  have HO := hide' ho
  have HE := hide' he
  clear ho he
  go_enter Try.func26, Try.ntmps26
  go_wp2
  clear hmk
  go_loopw [13] (fun vi wr => ∃ (i : Nat) (bs : List Nat), i ≤ n ∧ vi = .int .i64 i ∧ Hid (bs.length = n) ∧ Hid (∀ j, j < i → bs.getD j 0 = vs.getD (ps.getD j 0) 0) ∧
    Hid (Own .i64 3 w.heap.size wr (.slice (some ⟨w.heap.size, 0, none⟩) n n) (natL bs)) ∧ Hid (Ext w wr)) (fun vi _ => n - (intOf vi).toNat)
  case atStart => exact ⟨0, List.replicate n 0, Nat.zero_le _, rfl, List.length_replicate, (fun j hj => by omega), HO, HE⟩
  case round =>
    obtain ⟨i, bs, hi, rfl, HL, HB, HO, HE⟩ := hrel
    by_cases hlt : i < n
    · have hlt' : (i : Int) < n := by omega
      obtain ⟨g1, o1, rfl, k1⟩ := CV.out (by omega)
      have hp : ps.getD i 0 < m := HI.out _ (getN_mem (by rw [HN.out]; exact hlt))
      obtain ⟨g2, o2, rfl, k2⟩ := CU.out (by omega)
      have c1 := HE.out.cellOf (k1 i hlt)
      have c2 := HE.out.cellOf (k2 _ hp)
      clear k1 k2
      obtain ⟨p, HP⟩ : ∃ p, Hid (ps.getD i 0 = p) := ⟨_, rfl⟩
      obtain ⟨q, HQ⟩ : ∃ q, Hid (vs.getD p 0 = q) := ⟨_, rfl⟩
      rw [HP.out] at c1 hp c2
      rw [HQ.out] at c2
      have hp' : (p : Int) < m := by omega
      have hfz := HO.out.frozen (by rw [natL_len]; exact HL.out) i
      have hci := HO.out.intCell HL.out i hlt
      have HO2 := hide' (HO.out.storeN HL.out i q)
      go_wp2
      go_roundw
      case rel =>
        refine ⟨i + 1, bs.set i q, by omega, by go_num, (show _ = _ by rw [List.length_set]; exact HL.out), fun j hj => ?_, HO2, Ext.but HE.out (Nat.le_refl _) ((But.refl _ _).setCell _ _)⟩
        by_cases hji : j = i
        · subst hji; rw [set_same (by rw [HL.out]; exact hlt), HP.out, HQ.out]
        · rw [set_other (by omega), HB.out j (by omega)]
      case measure => simp [intOf]; omega
    · have hlt' : decide ((i : Int) < n) = false := by simp; omega
      have HQ : Hid (bs = ps.map fun p => vs.getD p 0) := natL_ext (by rw [HL.out, List.length_map, HN.out]) fun j hj => by
        rw [HL.out] at hj
        rw [HB.out j (by omega)]
        simp [List.getD, HN.out, hj]
      go_wp2
      go_ret
      exact ⟨_, rfl, by rw [← HQ.out]; exact HO.out, HE.out⟩

theorem counted_any (n : Nat) (w : World) (hlen : n ≤ 1000000) :
    Calls Try.prog 28 #[.int .i64 (n : Int)] w fun e w' => ∃ s, e = .returned s ∧ Own .i64 3 w.heap.size w' s (natL (List.range n)) ∧ Ext w w' := by
  obtain ⟨w1, hmk, ho, he⟩ := make_nats w n hlen
  have HO := hide' ho
  have HE := hide' he
  clear ho he
  go_enter Try.func28, Try.ntmps28
  go_wp2
  clear hmk
  go_loopw [9] (fun vi wr => ∃ (i : Nat) (bs : List Nat), i ≤ n ∧ vi = .int .i64 i ∧ Hid (bs.length = n) ∧ Hid (∀ j, j < i → bs.getD j 0 = j) ∧
    Hid (Own .i64 3 w.heap.size wr (.slice (some ⟨w.heap.size, 0, none⟩) n n) (natL bs)) ∧ Hid (Ext w wr)) (fun vi _ => n - (intOf vi).toNat)
  case atStart => exact ⟨0, List.replicate n 0, Nat.zero_le _, rfl, List.length_replicate, (fun j hj => by omega), HO, HE⟩
  case round =>
    obtain ⟨i, bs, hi, rfl, HL, HB, HO, HE⟩ := hrel
    by_cases hlt : i < n
    · have hlt' : (i : Int) < n := by omega
      have hfz := HO.out.frozen (by rw [natL_len]; exact HL.out) i
      have hci := HO.out.intCell HL.out i hlt
      have HO2 := hide' (HO.out.storeN HL.out i i)
      go_wp2
      go_roundw
      case rel =>
        refine ⟨i + 1, bs.set i i, by omega, by go_num, (show _ = _ by rw [List.length_set]; exact HL.out), fun j hj => ?_, HO2, Ext.but HE.out (Nat.le_refl _) ((But.refl _ _).setCell _ _)⟩
        by_cases hji : j = i
        · subst hji; rw [set_same (by rw [HL.out]; exact hlt)]
        · rw [set_other (by omega), HB.out j (by omega)]
      case measure => simp [intOf]; omega
    · have hlt' : decide ((i : Int) < n) = false := by simp; omega
      have HQ : Hid (bs = List.range n) := natL_ext (by rw [HL.out, List.length_range]) fun j hj => by
        rw [HL.out] at hj
        rw [HB.out j (by omega), rangeN_at hj]
      go_wp2
      go_ret
      exact ⟨_, rfl, by rw [← HQ.out]; exact HO.out, HE.out⟩
end Go.Proofs.Ytifemkgkgghapaa
