/- Contracts of check.numbers and placesAhead. -/
import Derived.Test.YtmojnliljaefbaaChAgain
import Derived.Test.YtmojnliljaefbaaResMath
import Derived.Test.YtmojnliljaefbaaNatRow
namespace Go.Proofs.Ytmojnliljaefbaa
set_option linter.unusedVariables false
set_option linter.unusedSimpArgs false
open Go.RowKit

set_option maxHeartbeats 1000000 in
theorem chNumbers_any (v : Value) (zs : List Int) (w : World) (hv : Sl .u8 w v zs) (h8 : Bytes8 zs) (hlen : zs.length ≤ 1000000) :
    Calls Try.prog 17 #[v] w fun e w' => ∃ u, e = .returned u ∧ Own .i64 3 w.heap.size w' u zs ∧ Ext w w' := by
  have HV := hide' hv
  have H8 := hide' h8
  obtain ⟨a, c, rfl, _⟩ := hv
  obtain ⟨n, HN⟩ : ∃ n, Hid (zs.length = n) := ⟨_, rfl⟩
  rw [HN.out] at HV hlen ⊢
  obtain ⟨w1, hmk, ho, he⟩ := make_ints w n hlen
  obtain ⟨g, HG⟩ : ∃ g, Hid (w.heap.size = g) := ⟨_, rfl⟩
  have hgw : w.heap.size ≤ g := by rw [HG.out]; exact Nat.le_refl _
  rw [HG.out] at ho hmk ⊢
  have O1 := hide' ho
  have X1 := hide' he
  have H0 : Hid (HalfI zs 0 (List.replicate n 0)) := by show HalfI _ _ _; rw [← HN.out]; exact HalfI.start zs
  clear ho he h8
  go_enter Try.func17, Try.ntmps17
  go_wp2
  go_loopw [11] (fun vi wr => ∃ (i : Nat) (r : List Int), i ≤ n ∧ vi = .int .i64 i ∧ Hid (HalfI zs i r) ∧ Hid (Own .i64 3 g wr (.slice (some ⟨g, 0, none⟩) n n) r) ∧ Hid (Ext w wr)) (fun vi _ => n - (intOf vi).toNat)
  case atStart => exact ⟨0, _, Nat.zero_le _, rfl, H0, O1, X1⟩
  case round =>
    clear O1 X1 H0 hmk
    obtain ⟨i, r, hi, rfl, HH, HO, HE⟩ := hrel
    have HRL : Hid (r.length = n) := by show _ = _; rw [HH.out.len, HN.out]
    by_cases hlt : i < n
    · have hlt' : (i : Int) < n := by omega
      have H1 := hide' (HH.out.next (by rw [HN.out]; exact hlt))
      obtain ⟨_, g1, o1, rfl, k1⟩ := HV.out.at (fun e => by have := HN.out; rw [e] at this; simp at this; omega)
      have c1 := HE.out.cellOf (k1 i hlt)
      have hz := H8.out.get i
      obtain ⟨z, HZ⟩ : ∃ z, Hid (zs.getD i 0 = z) := ⟨_, rfl⟩
      rw [HZ.out] at c1 H1 hz
      have hw : IntKind.i64.wrap z = z := by rw [IntKind.wrap_i64]; omega
      have c3 := HO.out.cell HRL.out i hlt
      have z3 := HO.out.frozen HRL.out i
      have O6 := hide' (HO.out.store HRL.out i z)
      have X6 : Hid (Ext w (wr.setCell ⟨g, i, none⟩ (.int .i64 z))) := Ext.but HE.out hgw (but_set _ _ _ _)
      clear k1 HO HE HH
      go_wp2
      go_roundw
      case rel => exact ⟨i + 1, _, by omega, by go_num, H1, O6, X6⟩
      case measure => simp [intOf] <;> omega
    · have d2 : decide ((i : Int) < n) = false := by simp; omega
      have hin : n = i := by omega
      have HD : Hid (r = zs) := by
        show _ = _
        have := HH.out
        rw [← hin, ← HN.out] at this
        exact this.done
      go_wp2
      go_ret
      refine ⟨_, rfl, ?_, HE.out⟩
      rw [← HD.out]
      exact HO.out

/-- What stands in the row after i rounds. -/
def bhAt (R : List Nat) (i : Nat) : List Nat := (R.length - 1) :: bhF (R.take i)
theorem bhAt_zero (R : List Nat) : natL (bhAt R 0) = [(R.length : Int) - 1] ∨ R.length = 0 := by
  by_cases h : R.length = 0
  · exact .inr h
  · left
    unfold bhAt natL bhF
    simp
    omega
theorem bhTake_succ {R : List Nat} {i : Nat} (h : i < R.length) : R.take (i + 1) = R.take i ++ [R.getD i 0] := by
  rw [List.take_succ_eq_append_getElem h, List.getD_eq_getElem?_getD, List.getElem?_eq_getElem h]
  rfl
theorem bhAt_pos {R : List Nat} {i : Nat} (h : i < R.length) (hp : 0 < R.getD i 0) : natL (bhAt R (i + 1)) = natL (bhAt R i) ++ [(R.getD i 0 : Int) - 1] := by
  unfold bhAt
  rw [bhTake_succ h, bhF_snoc_pos hp, ← List.cons_append, show (R.getD i 0 : Int) - 1 = ((R.getD i 0 - 1 : Nat) : Int) by omega, natL_snoc]
theorem bhAt_no {R : List Nat} {i : Nat} (h : i < R.length) (hp : R.getD i 0 = 0) : natL (bhAt R (i + 1)) = natL (bhAt R i) := by
  unfold bhAt
  rw [bhTake_succ h, hp, bhF_snoc_zero]
theorem bhAt_len {R : List Nat} {i : Nat} (h : i ≤ R.length) : (natL (bhAt R i)).length ≤ i + 1 := by
  rw [natL_len]
  unfold bhAt
  have h1 := bhF_le (R.take i)
  have h2 : (R.take i).length = i := by rw [List.length_take]; omega
  simp only [List.length_cons]
  omega
theorem bhAt_all {R : List Nat} (h : R.length ≠ 0) : bhAt R R.length = bhL R := by
  unfold bhAt bhL
  rw [if_neg h, List.take_length]

set_option maxHeartbeats 1000000 in
theorem chAhead_any (v : Value) (R : List Nat) (w : World) (hv : Sl .i64 w v (natL R)) (hlen : R.length ≤ 1000000) (hR : ∀ i, i < R.length → R.getD i 0 ≤ 1000000) :
    Calls Try.prog 16 #[v] w fun e w' => ∃ u, e = .returned u ∧ Own .i64 3 w.heap.size w' u (natL (bhL R)) ∧ Ext w w' := by
  have HV := hide' hv
  obtain ⟨a, c, rfl, _⟩ := hv
  obtain ⟨n, HN⟩ : ∃ n, Hid (R.length = n) := ⟨_, rfl⟩
  rw [natL_len, HN.out] at HV
  rw [natL_len, HN.out]
  rw [HN.out] at hlen hR
  have HPL := hide' hR
  clear hR
  by_cases h0 : n = 0
  · have HB : Hid (natL (bhL R) = []) := by show _ = _; unfold bhL; rw [if_pos (by rw [HN.out]; exact h0)]; rfl
    rw [HB.out]
    have d0 : ((n : Int) == 0) = true := by simp; omega
    clear h0
    go_enter Try.func16, Try.ntmps16
    go_wp2
    go_ret
    exact ⟨_, rfl, Own.nil _ _ _ _, Ext.refl _⟩
  have d0 : ((n : Int) == 0) = false := by simp; omega
  obtain ⟨w1, hmk, ho, he⟩ := make_roomI w n hlen
  have hz := he.size
  have O1 := hide' ho
  have X1 := hide' he
  have H0 : Hid (natL (bhAt R 0) = [(n : Int) - 1]) := by
    have := bhAt_zero R
    rw [HN.out] at this
    exact this.resolve_right h0
  have HALL : Hid (natL (bhAt R n) = natL (bhL R)) := by show _ = _; rw [← HN.out, bhAt_all (by rw [HN.out]; exact h0)]
  have HP : Hid (∀ i, i < n → 0 < R.getD i 0 → natL (bhAt R (i + 1)) = natL (bhAt R i) ++ [(R.getD i 0 : Int) - 1]) := fun i hi h => bhAt_pos (by rw [HN.out]; exact hi) h
  have HO : Hid (∀ i, i < n → R.getD i 0 = 0 → natL (bhAt R (i + 1)) = natL (bhAt R i)) := fun i hi h => bhAt_no (by rw [HN.out]; exact hi) h
  have HL : Hid (∀ i, i ≤ n → (natL (bhAt R i)).length ≤ i + 1) := fun i hi => bhAt_len (by rw [HN.out]; exact hi)
  obtain ⟨F, HF⟩ : ∃ F : Nat → List Int, Hid (∀ i, natL (bhAt R i) = F i) := ⟨fun i => natL (bhAt R i), fun i => rfl⟩
  rw [HF.out] at H0 HALL
  rw [← HALL.out]
  have HP2 : Hid (∀ i, i < n → 0 < R.getD i 0 → F (i + 1) = F i ++ [(R.getD i 0 : Int) - 1]) := fun i hi h => by rw [← HF.out, ← HF.out]; exact HP.out i hi h
  have HO2 : Hid (∀ i, i < n → R.getD i 0 = 0 → F (i + 1) = F i) := fun i hi h => by rw [← HF.out, ← HF.out]; exact HO.out i hi h
  have HL2 : Hid (∀ i, i ≤ n → (F i).length ≤ i + 1) := fun i hi => by rw [← HF.out]; exact HL.out i hi
  obtain ⟨_, g1, o1, hva, k1⟩ := HV.out.at (fun e => by rw [← List.length_eq_zero_iff, natL_len, HN.out] at e; exact h0 e)
  obtain rfl : a = _ := hva
  have hk1 : Hid (∀ i, i < n → w.cell? ⟨g1, o1 + i, none⟩ = some (.int .i64 (R.getD i 0 : Int))) := fun i hi => by rw [← natL_at]; exact k1 i hi
  clear ho he k1 HP HO HL HF h0
  go_enter Try.func16, Try.ntmps16
  go_wp2_with (at_builtin; refine wpList_snoc _ rfl _ _ 23 rfl 3 .i64 8 Try.underlying23 infoI64 w.heap.size _ [] ((n : Int) - 1) ⟨w1.heap.size, 0, none⟩ rfl rfl ?c4 (O1.out.alloc _) ?c3 ?c5 ?_)
  case c3 => unfold maxLen; simp
  case c5 => simp; omega
  case c4 => simp only [World.cell?, heap_alloc_top]; simp
  intro v1 w2 ho1 hb1
  have HO1 : Hid (Own .i64 3 w.heap.size w2 v1 (F 0)) := by rw [H0.out]; exact ho1
  have HE1 : Hid (Ext w w2) := Below.trans (X1.out.trans (ext_alloc _ _)) hb1
  clear ho1 hb1
  go_wp2
  go_loopw [3, 20] (fun sv vi wr => ∃ (i : Nat), i ≤ n ∧ vi = .int .i64 i ∧ Hid (Own .i64 3 w.heap.size wr sv (F i)) ∧ Hid (Ext w wr)) (fun _ vi _ => n - (intOf vi).toNat)
  case atStart => exact ⟨0, Nat.zero_le _, rfl, HO1, HE1⟩
  case round =>
    obtain ⟨i, hi, rfl, HOW, HE⟩ := hrel
    have hsz := HE.out.size
    clear HO1 HE1
    by_cases hlt : i < n
    · have hlt' : (i : Int) < n := by omega
      have c1 := HE.out.cellOf (hk1.out i hlt)
      have HPi := hide' (HP2.out i hlt)
      have HOi := hide' (HO2.out i hlt)
      have HLi := hide' (HL2.out i hi)
      obtain ⟨p, HPP⟩ : ∃ p, Hid (R.getD i 0 = p) := ⟨_, rfl⟩
      rw [HPP.out] at c1 HPi HOi
      by_cases hp : 0 < p
      · have d1 : decide ((0 : Int) < p) = true := by simp; omega
        have d2 : decide (0 < p) = true := by simp; omega
        have hple : p ≤ 1000000 := by rw [← HPP.out]; exact HPL.out i hlt
        have hwp : wrap64 ((p : Int) - 1) = (p : Int) - 1 := by unfold wrap64; omega
        have HX := hide' (HPi.out hp)
        clear HPi HOi
        go_wp2_with (at_builtin; refine wpList_snoc _ rfl _ _ 23 rfl 3 .i64 8 Try.underlying23 infoI64 w.heap.size _ (F i) ((p : Int) - 1) ⟨wr.heap.size, 0, none⟩ rfl rfl ?d4 (HOW.out.alloc _) ?d3 ?d5 ?_)
        case d3 => have := HLi.out; unfold maxLen; omega
        case d5 => simp; omega
        case d4 => simp only [World.cell?, heap_alloc_top]; simp
        intro v3 w3 ho3 hb3
        have HO3 : Hid (Own .i64 3 w.heap.size w3 v3 (F (i + 1))) := by rw [HX.out]; exact ho3
        have HE3 : Hid (Ext w w3) := Below.trans (HE.out.trans (ext_alloc _ _)) hb3
        clear ho3 hb3
        go_wp2
        go_roundw
        case rel => exact ⟨i + 1, by omega, by go_num, HO3, HE3⟩
        case measure => simp [intOf]; omega
      · have d1 : decide ((0 : Int) < p) = false := by simp; omega
        have d2 : decide (0 < p) = false := by simp; omega
        have HX := hide' (HOi.out (by omega))
        have HO3 : Hid (Own .i64 3 w.heap.size wr u3 (F (i + 1))) := by rw [HX.out]; exact HOW.out
        clear HPi HOi
        go_wp2
        go_roundw
        case rel => exact ⟨i + 1, by omega, by go_num, HO3, HE.out⟩
        case measure => simp [intOf]; omega
    · have hlt' : decide ((i : Int) < n) = false := by simp; omega
      have hin : i = n := by omega
      have HD : Hid (F i = F n) := by show _ = _; rw [hin]
      go_wp2
      go_ret
      exact ⟨_, rfl, by rw [← HD.out]; exact HOW.out, HE.out⟩
end Go.Proofs.Ytmojnliljaefbaa
