/- Contract of the document's own Rows: whorlref9.Rows. -/
import Derived.Test.YtjccpkekhjhafaaSlss
import Derived.Test.YtjccpkekhjhafaaByt
namespace Go.Proofs.Ytjccpkekhjhafaa
set_option linter.unusedVariables false
set_option linter.unusedSimpArgs false
open Go.RowKit

theorem take_ext_rows {x y : List (List Int)} {k : Nat} (h1 : k < x.length) (h2 : k < y.length) (h : x.take k = y.take k) (he : x.getD k [] = y.getD k []) : x.take (k + 1) = y.take (k + 1) := by
  rw [List.take_add_one, List.take_add_one, h]
  simp only [List.getD_eq_getElem?_getD, List.getElem?_eq_getElem h1, List.getElem?_eq_getElem h2, Option.getD_some] at he
  rw [List.getElem?_eq_getElem h1, List.getElem?_eq_getElem h2, he]

set_option maxHeartbeats 1000000 in
theorem rrows_any (u v : Value) (x y : List (List Int)) (w : World) (hu : Sls w u x) (hv : Sls w v y) (hx : ∀ k, Bytes8 (x.getD k [])) (hy : ∀ k, Bytes8 (y.getD k [])) (lx : x.length ≤ 1000000) (ly : y.length ≤ 1000000) :
    Calls Try.prog 10 #[u, v] w fun e w' => e = .returned (.bool (decide (x = y))) ∧ Ext w w' := by
  have HU := hide' hu
  have HV := hide' hv
  have HX := hide' hx
  have HY := hide' hy
  obtain ⟨a, c, rfl, _⟩ := hu
  obtain ⟨a', c', rfl, _⟩ := hv
  obtain ⟨n, HN⟩ : ∃ n, Hid (x.length = n) := ⟨_, rfl⟩
  obtain ⟨m, HM⟩ : ∃ m, Hid (y.length = m) := ⟨_, rfl⟩
  obtain ⟨D, HD⟩ : ∃ D, Hid (decide (x = y) = D) := ⟨_, rfl⟩
  rw [HN.out] at HU lx ⊢
  rw [HM.out] at HV ly ⊢
  rw [HD.out]
  clear hx hy
  by_cases hnm : n = m
  · subst hnm
    have d0 : ((n : Int) != (n : Int)) = false := by simp
    go_enter Try.func10, Try.ntmps10
    go_wp2
    go_loopw [5] (fun vk wr => ∃ (k : Nat), k ≤ n ∧ vk = .int .i64 k ∧ Hid (x.take k = y.take k) ∧ ∃ m, wr = w.drewN m) (fun vk _ => n - (intOf vk).toNat)
    case atStart => exact ⟨0, Nat.zero_le _, rfl, rfl, 0, rfl⟩
    case round =>
      obtain ⟨k, hk, rfl, HT, q, rfl⟩ := hrel
      by_cases hlt : k < n
      · have hlt' : (k : Int) < n := by omega
        have k1 : k < x.length := by rw [HN.out]; exact hlt
        have k2 : k < y.length := by rw [HM.out]; exact hlt
        obtain ⟨g, off, a2, c2, rfl, hc, h10, h9, h8⟩ := HU.out.row k1
        obtain ⟨g', off', a2', c2', rfl, hc', h10', h9', h8'⟩ := HV.out.row k2
        have s1 := h8.strN (P := Try.prog) 31 5 9 Try.underlying31 Try.underlying5 Try.underlying9
        have s2 := h8'.strN (P := Try.prog) 31 5 9 Try.underlying31 Try.underlying5 Try.underlying9
        have hq := strOfNums_inj (HX.out k) (HY.out k)
        by_cases he : x.getD k [] = y.getD k []
        · have HT2 : Hid (x.take (k + 1) = y.take (k + 1)) := take_ext_rows k1 k2 HT.out he
          rw [decide_eq_true he] at hq
          clear h8 h8' he k1 k2
          generalize (x.getD k []).length = p at *
          generalize (y.getD k []).length = p' at *
          generalize strOfNums (x.getD k []) = X at *
          generalize strOfNums (y.getD k []) = Y at *
          have hq' : (X.toList != Y.toList) = false := by simpa using hq
          go_wp2_with fail
          go_quiet (fail)
          go_wp2
          go_roundw
          case rel => exact ⟨k + 1, by omega, by go_num, HT2, _, rfl⟩
          case measure => simp [intOf]; omega
        · have HD2 : Hid (D = false) := by
            show _ = _
            rw [← HD.out]
            refine decide_eq_false fun e => he ?_
            rw [e]
          rw [decide_eq_false he] at hq
          clear h8 h8' he k1 k2
          generalize (x.getD k []).length = p at *
          generalize (y.getD k []).length = p' at *
          generalize strOfNums (x.getD k []) = X at *
          generalize strOfNums (y.getD k []) = Y at *
          have hq' : (X.toList != Y.toList) = true := by simpa [bne] using hq
          go_wp2_with fail
          go_quiet (fail)
          go_wp2
          go_ret
          rw [HD2.out]
          exact ⟨rfl, by first | exact Ext.drewN _ _ | (rw [World.drewN_drewN]; exact Ext.drewN _ _)⟩
      · have hlt' : decide ((k : Int) < n) = false := by simp; omega
        have HD2 : Hid (D = true) := by
          show _ = _
          rw [← HD.out]
          refine decide_eq_true ?_
          have := HT.out
          rw [List.take_of_length_le (by rw [HN.out]; omega), List.take_of_length_le (by rw [HM.out]; omega)] at this
          exact this
        go_wp2
        go_ret
        rw [HD2.out]
        exact ⟨rfl, Ext.drewN _ _⟩
  · have d0 : ((n : Int) != (m : Int)) = true := by simp; omega
    have HD2 : Hid (D = false) := by
      show _ = _
      rw [← HD.out]
      refine decide_eq_false fun e => hnm ?_
      rw [← HN.out, ← HM.out, e]
    rw [HD2.out]
    go_enter Try.func10, Try.ntmps10
    go_wp2
    go_ret
    exact ⟨rfl, Ext.refl _⟩
end Go.Proofs.Ytjccpkekhjhafaa
