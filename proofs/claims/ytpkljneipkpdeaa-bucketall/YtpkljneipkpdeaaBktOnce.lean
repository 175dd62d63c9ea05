/- whorllaw10's once, at a row in which each place comes once. -/
import Derived.Test.YtpkljneipkpdeaaBools
import Derived.Test.YtpkljneipkpdeaaNatRow
namespace Go.Proofs.Ytpkljneipkpdeaa
set_option linter.unusedVariables false
set_option linter.unusedSimpArgs false
open Go.RowKit

/-- Which were seen after the first t. -/
def seenB (l : List Nat) (n t : Nat) : List Bool := (List.range n).map fun p => decide (p ∈ l.take t)
theorem seenB_len (l : List Nat) (n t : Nat) : (seenB l n t).length = n := by simp [seenB]
theorem seenB_zero (l : List Nat) (n : Nat) : seenB l n 0 = List.replicate n false := by
  refine List.ext_getElem (by simp [seenB]) fun i h1 h2 => by simp [seenB]
theorem seenB_new {l : List Nat} {n t : Nat} (hd : l.Nodup) (ht : t < l.length) (hn : l.getD t 0 < n) : (seenB l n t).getD (l.getD t 0) false = false := by
  have e : l.getD t 0 = l[t] := by simp [List.getD, List.getElem?_eq_getElem ht]
  rw [e] at hn ⊢
  simp only [seenB, List.getD_eq_getElem?_getD, List.getElem?_map, List.getElem?_range hn, Option.map_some, Option.getD_some, decide_eq_false_iff_not]
  intro hm
  obtain ⟨i, hi, h1⟩ := List.mem_iff_getElem.1 hm
  rw [List.length_take] at hi
  rw [List.getElem_take] at h1
  have := (List.nodup_iff_pairwise_ne.1 hd)
  have h2 := List.pairwise_iff_getElem.1 this i t (by omega) ht (by omega)
  exact h2 h1
theorem seenB_next {l : List Nat} {n t : Nat} (ht : t < l.length) : (seenB l n t).set (l.getD t 0) true = seenB l n (t + 1) := by
  have e : l.getD t 0 = l[t] := by simp [List.getD, List.getElem?_eq_getElem ht]
  rw [e]
  refine List.ext_getElem (by simp [seenB]) fun i h1 h2 => ?_
  rw [List.getElem_set]
  simp only [seenB, List.getElem_map, List.getElem_range]
  have hm : i ∈ l.take (t + 1) ↔ i ∈ l.take t ∨ i = l[t] := by rw [List.take_succ_eq_append_getElem ht, List.mem_append, List.mem_singleton]
  by_cases h : l[t] = i
  · rw [if_pos h, eq_comm, decide_eq_true_iff, hm]; exact .inr h.symm
  · rw [if_neg h]
    exact decide_eq_decide.2 (by rw [hm]; exact ⟨.inl, fun g => g.resolve_right fun e => h e.symm⟩)

theorem once_any (v : Value) (l : List Nat) (w : World) (hv : Sl .i64 w v (natL l)) (hl : l.length ≤ 4000000) (hd : l.Nodup) (hg : ∀ i, i < l.length → l.getD i 0 < l.length) :
    Calls Try.prog 15 #[v] w fun e w' => e = .returned (.bool true) ∧ Ext w w' := by
  obtain ⟨a, c, rfl, _⟩ := id hv
  obtain ⟨_, _, _, hcv⟩ := hv.nat
  have CV := hide' hcv
  have HD := hide' hd
  have HG := hide' hg
  obtain ⟨n, HN⟩ : ∃ n, Hid (l.length = n) := ⟨_, rfl⟩
  rw [natL_len, HN.out] at CV ⊢
  rw [HN.out] at hl HG
  clear hcv hv hd hg
  obtain ⟨w1, hmk, ho, he⟩ := make_bools w n hl
  rw [← seenB_zero l n] at ho
  have HO1 := hide' ho
  have HE1 := hide' he
  clear ho he
  go_enter Try.func15, Try.ntmps15
  go_wp2
  clear hmk
  generalize hG : w.heap.size = G at *
  go_loopw [4] (fun vi wq => ∃ (t : Nat), t ≤ n ∧ vi = .int .i64 t ∧ Hid (OwnB G wq (.slice (some ⟨G, 0, none⟩) n n) (seenB l n t)) ∧ Hid (Ext w wq)) (fun vi _ => n - (intOf vi).toNat)
  case atStart => exact ⟨0, Nat.zero_le _, rfl, HO1, HE1⟩
  case round =>
    clear HO1 HE1
    obtain ⟨t, ht, rfl, HO, HE⟩ := hrel
    by_cases hlt : t < n
    · have hlt' : (t : Int) < n := by omega
      obtain ⟨g1, o1, rfl, k1⟩ := CV.out (by omega)
      have c1 := HE.out.cellOf (k1 t hlt)
      have hp := HG.out t hlt
      have c2 := HO.out.cell (seenB_len _ _ _) (l.getD t 0) hp
      rw [seenB_new HD.out (by rw [HN.out]; exact hlt) hp] at c2
      have P2 := hide' (HO.out.store (seenB_len _ _ _) (l.getD t 0) true)
      rw [seenB_next (by rw [HN.out]; exact hlt)] at P2
      have z2 := HO.out.frozen (seenB_len _ _ _) (l.getD t 0)
      obtain ⟨p, HP⟩ : ∃ p, Hid (l.getD t 0 = p) := ⟨_, rfl⟩
      rw [HP.out] at c1 c2 P2 z2 hp
      have p0 : decide ((p : Int) < 0) = false := by rw [decide_eq_false_iff_not]; omega
      have p1 : decide ((n : Int) ≤ p) = false := by rw [decide_eq_false_iff_not]; omega
      have p2 : decide (n ≤ p) = false := by rw [decide_eq_false_iff_not]; omega
      have p3 : (p : Int) < n := by omega
      have XE : Hid (Ext w (wr.setCell ⟨G, p, none⟩ (.bool true))) := Ext.but HE.out (by omega) (but_set _ _ _ _)
      clear k1
      go_wp2
      go_roundw
      case rel => exact ⟨t + 1, by omega, by go_num, P2, XE⟩
      case measure => simp [intOf]; omega
    · have hlt' : decide ((t : Int) < n) = false := by simp; omega
      go_wp2
      go_ret
      exact ⟨rfl, HE.out⟩
end Go.Proofs.Ytpkljneipkpdeaa
