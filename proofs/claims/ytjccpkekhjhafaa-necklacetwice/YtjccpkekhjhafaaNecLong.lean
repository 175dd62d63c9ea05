/- Contract of whorllaw9.long: are words more than is looked at? -/
import Derived.Test.YtjccpkekhjhafaaNecIn
namespace Go.Proofs.Ytjccpkekhjhafaa
set_option linter.unusedVariables false
set_option linter.unusedSimpArgs false
open Go.RowKit

def longB (zss : List (List Int)) : Bool := decide (150 < (zss.take 40).flatten.length) || decide (30 < zss.length)

/-- What is not too long may be asked. -/
theorem longB_words {zss : List (List Int)} (h : longB zss = false) (hb : ∀ zs ∈ zss, ∀ z ∈ zs, 0 ≤ z ∧ z ≤ 255) : Words8 zss ∧ zss.length ≤ 30 := by
  unfold longB at h
  simp only [Bool.or_eq_false_iff, decide_eq_false_iff_not, Nat.not_lt] at h
  have ht : zss.take 40 = zss := List.take_of_length_le (by omega)
  rw [ht] at h
  refine ⟨⟨by omega, fun k => ?_⟩, h.2⟩
  refine getD_all' (P := fun x => Bytes8 x ∧ x.length ≤ 1000000) (fun x hx => ⟨hb x hx, ?_⟩) ⟨(fun z hz => by cases hz), by simp⟩ k
  have : x.length ≤ zss.flatten.length := by
    obtain ⟨i, hi, e⟩ := List.mem_iff_getElem.1 hx
    have h1 := flatten_take_le zss (i + 1)
    rw [flatten_take (zs := x) hi (by rw [List.getD_eq_getElem?_getD, List.getElem?_eq_getElem hi, Option.getD_some, e]), List.length_append] at h1
    omega
  omega

set_option maxHeartbeats 1000000 in
theorem long_any (v : Value) (zss : List (List Int)) (w : World) (hs : Sls w v zss) (hl : ∀ zs ∈ zss, zs.length ≤ 140737488351232) :
    Calls Try.prog 7 #[v] w fun e w' => e = .returned (.bool (longB zss)) ∧ w' = w := by
  have HS := hide' hs
  have HL := hide' hl
  obtain ⟨a, c, rfl, hm, _⟩ := hs
  unfold maxLen at hm
  obtain ⟨N, HN⟩ : ∃ n, Hid (zss.length = n) := ⟨_, rfl⟩
  obtain ⟨D, HD⟩ : ∃ D, Hid (longB zss = D) := ⟨_, rfl⟩
  rw [HN.out] at HS hm ⊢
  rw [HD.out]
  clear hl
  go_enter Try.func7, Try.ntmps7
  go_wp2
  go_loop [3, 4] (fun vx vi => ∃ (i x : Nat), i ≤ N ∧ i ≤ 40 ∧ x ≤ i * 140737488351232 ∧ vx = .int .i64 (x : Int) ∧ vi = .int .i64 (i : Int) ∧ Hid (x = (zss.take i).flatten.length)) (fun _ vi => N - (intOf vi).toNat)
  case atStart => exact ⟨0, 0, by omega, by omega, by omega, rfl, rfl, rfl⟩
  case round =>
    obtain ⟨i, x, hi, hi40, hx, rfl, rfl, HX⟩ := hrel
    by_cases hin : i < N
    · have hin' : (i : Int) < N := by omega
      have hin2 : decide ((i : Int) < N) = true := decide_eq_true hin'
      by_cases h40 : i < 40
      · have h40' : (i : Int) < 40 := by omega
        have hkz : i < zss.length := by rw [HN.out]; exact hin
        obtain ⟨g, off, a2, c2, rfl, hc, h10, h9, h8⟩ := HS.out.row hkz
        have hrow : (zss.getD i []).length ≤ 140737488351232 := by
          refine HL.out _ ?_
          rw [List.getD_eq_getElem?_getD, List.getElem?_eq_getElem hkz, Option.getD_some]
          exact List.getElem_mem hkz
        obtain ⟨zs, HZ⟩ : ∃ zs, Hid (zss.getD i [] = zs) := ⟨_, rfl⟩
        rw [HZ.out] at hc h9 hrow
        have HF := hide' (flatten_take hkz HZ.out)
        obtain ⟨m, HM⟩ : ∃ m, Hid (zs.length = m) := ⟨_, rfl⟩
        have HX' : Hid (x + m = (zss.take (i + 1)).flatten.length) := by show _ = _; rw [HF.out, List.length_append, HX.out, HM.out]
        rw [HM.out] at hc h9 hrow
        clear h8 hkz
        unfold maxLen at h10
        go_wp2
        go_round
        case rel => exact ⟨i + 1, x + m, by omega, by omega, by omega, by go_num, by go_num, HX'⟩
        case measure => simp [intOf]; omega
      · have h40' : decide ((i : Int) < 40) = false := by simp; omega
        have HT : Hid (x = (zss.take 40).flatten.length) := by
          show _ = _
          rw [HX.out, show i = 40 by omega]
        by_cases hx1 : 150 < x
        · have d1 : decide ((150 : Int) < (x : Int)) = true := by simp; omega
          have HD2 : Hid (D = true) := by show _ = _; rw [← HD.out]; unfold longB; rw [← HT.out]; simp [hx1]
          clear hx1
          go_wp2
          go_ret
          rw [HD2.out]
          exact ⟨rfl, rfl⟩
        · have d1 : decide ((150 : Int) < (x : Int)) = false := by simp; omega
          have d2 : (30 : Int) < (N : Int) := by omega
          have HD2 : Hid (D = true) := by show _ = _; rw [← HD.out]; unfold longB; rw [HN.out]; simp; right; omega
          clear hx1
          go_wp2
          go_ret
          rw [HD2.out]
          exact ⟨rfl, rfl⟩
    · have hin' : decide ((i : Int) < N) = false := by simp; omega
      have HT : Hid (x = (zss.take 40).flatten.length) := by
        show _ = _
        rw [HX.out, List.take_of_length_le (by rw [HN.out]; omega), List.take_of_length_le (by rw [HN.out]; omega)]
      by_cases hx1 : 150 < x
      · have d1 : decide ((150 : Int) < (x : Int)) = true := by simp; omega
        have HD2 : Hid (D = true) := by show _ = _; rw [← HD.out]; unfold longB; rw [← HT.out]; simp [hx1]
        clear hx1
        go_wp2
        go_ret
        rw [HD2.out]
        exact ⟨rfl, rfl⟩
      · have d1 : decide ((150 : Int) < (x : Int)) = false := by simp; omega
        by_cases hn1 : 30 < N
        · have d2 : (30 : Int) < (N : Int) := by omega
          have HD2 : Hid (D = true) := by show _ = _; rw [← HD.out]; unfold longB; rw [HN.out]; simp; right; omega
          clear hx1
          go_wp2
          go_ret
          rw [HD2.out]
          exact ⟨rfl, rfl⟩
        · have d2 : decide ((30 : Int) < (N : Int)) = false := by simp; omega
          have HD2 : Hid (D = false) := by show _ = _; rw [← HD.out]; unfold longB; rw [← HT.out, HN.out]; simp; omega
          clear hx1
          go_wp2
          go_ret
          rw [HD2.out]
          exact ⟨rfl, rfl⟩
end Go.Proofs.Ytjccpkekhjhafaa
