/- Contracts of bytes.Equal, slices.EqualFunc (at rows of bytes, with bytes.Equal) and necklace.Same. -/
import Derived.Test.YtjccpkekhjhafaaNecCanon
namespace Go.Proofs.Ytjccpkekhjhafaa
set_option linter.unusedVariables false
set_option linter.unusedSimpArgs false
open Go.RowKit

theorem bytesEq_any (u v : Value) (x y : List Int) (w : World) (hu : Sl .u8 w u x) (hv : Sl .u8 w v y) (hx : Bytes8 x) (hy : Bytes8 y) :
    Calls Try.prog 23 #[u, v] w fun e w' => e = .returned (.bool (decide (x = y))) ∧ w' = w := by
  have h1 := hu.str (P := Try.prog) 31 5 9 Try.underlying31 Try.underlying5 Try.underlying9
  have h2 := hv.str (P := Try.prog) 31 5 9 Try.underlying31 Try.underlying5 Try.underlying9
  have hq := strOfNums_inj hx hy
  obtain ⟨D, hD⟩ : ∃ D, D = decide (x = y) := ⟨_, rfl⟩
  rw [← hD] at hq ⊢
  generalize strOfNums x = X at *
  generalize strOfNums y = Y at *
  clear hu hv hD
  go_enter Try.func23, Try.ntmps23
  go_wp2
  go_ret
  exact ⟨rfl, rfl⟩

theorem take_ext_row {x y : List (List Int)} {k : Nat} (h1 : k < x.length) (h2 : k < y.length) (h : x.take k = y.take k) (he : x.getD k [] = y.getD k []) : x.take (k + 1) = y.take (k + 1) := by
  rw [List.take_add_one, List.take_add_one, h]
  simp only [List.getD_eq_getElem?_getD, List.getElem?_eq_getElem h1, List.getElem?_eq_getElem h2, Option.getD_some] at he
  rw [List.getElem?_eq_getElem h1, List.getElem?_eq_getElem h2, he]

set_option maxHeartbeats 1000000 in
theorem equalFunc_any (u v : Value) (x y : List (List Int)) (w : World) (hu : Sls w u x) (hv : Sls w v y) (hx : ∀ k, Bytes8 (x.getD k [])) (hy : ∀ k, Bytes8 (y.getD k [])) (lx : x.length ≤ 1000000) (ly : y.length ≤ 1000000) :
    Calls Try.prog 22 #[u, v, .func (.func 23) #[] #[]] w fun e w' => e = .returned (.bool (decide (x = y))) ∧ w' = w := by
  have HU := hide' hu
  have HV := hide' hv
  have HX := hide' hx
  have HY := hide' hy
  obtain ⟨a, c, rfl, _⟩ := hu
  obtain ⟨a', c', rfl, _⟩ := hv
  obtain ⟨n, HN⟩ : ∃ n, Hid (x.length = n) := ⟨_, rfl⟩
  obtain ⟨m, HM⟩ : ∃ m, Hid (y.length = m) := ⟨_, rfl⟩
  obtain ⟨D, HD⟩ : ∃ D, Hid (decide (x = y) = D) := ⟨_, rfl⟩
  rw [HN.out] at HU lx ⊢
  rw [HM.out] at HV ly ⊢
  rw [HD.out]
  clear hx hy
  by_cases hnm : n = m
  · subst hnm
    have d0 : ((n : Int) != (n : Int)) = false := by simp
    go_enter Try.func22, Try.ntmps22
    go_wp2
    go_loop [17] (fun vk => ∃ (k : Nat), k ≤ n ∧ vk = .int .i64 k ∧ Hid (x.take k = y.take k)) (fun vk => n - (intOf vk).toNat)
    case atStart => exact ⟨0, Nat.zero_le _, rfl, rfl⟩
    case round =>
      obtain ⟨k, hk, rfl, HT⟩ := hrel
      by_cases hlt : k < n
      · have hlt' : (k : Int) < n := by omega
        have k1 : k < x.length := by rw [HN.out]; exact hlt
        have k2 : k < y.length := by rw [HM.out]; exact hlt
        obtain ⟨g, off, a2, c2, rfl, hc, h10, h9, h8⟩ := HU.out.row k1
        obtain ⟨g', off', a2', c2', rfl, hc', h10', h9', h8'⟩ := HV.out.row k2
        have CE := hide' (bytesEq_any _ _ _ _ w h8 h8' (HX.out k) (HY.out k))
        by_cases he : x.getD k [] = y.getD k []
        · have HT2 : Hid (x.take (k + 1) = y.take (k + 1)) := take_ext_row k1 k2 HT.out he
          rw [decide_eq_true he] at CE
          clear h8 h8' he
          generalize (x.getD k []).length = p at *
          generalize (y.getD k []).length = p' at *
          go_wp2_with fail
          refine CE.out.mono ?_
          rintro e w1 ⟨rfl, rfl⟩
          go_wp2
          go_round
          case rel => exact ⟨k + 1, by omega, by go_num, HT2⟩
          case measure => simp [intOf]; omega
        · have HD2 : Hid (D = false) := by
            show _ = _
            rw [← HD.out]
            refine decide_eq_false fun e => he ?_
            rw [e]
          rw [decide_eq_false he] at CE
          clear h8 h8' he
          generalize (x.getD k []).length = p at *
          generalize (y.getD k []).length = p' at *
          go_wp2_with fail
          refine CE.out.mono ?_
          rintro e w1 ⟨rfl, rfl⟩
          go_wp2
          go_ret
          rw [HD2.out]
          exact ⟨rfl, rfl⟩
      · have hlt' : (n : Int) ≤ k := by omega
        have HD2 : Hid (D = true) := by
          show _ = _
          rw [← HD.out]
          refine decide_eq_true ?_
          have := HT.out
          rw [List.take_of_length_le (by rw [HN.out]; omega), List.take_of_length_le (by rw [HM.out]; omega)] at this
          exact this
        go_wp2
        go_ret
        rw [HD2.out]
        exact ⟨rfl, rfl⟩
  · have d0 : ((n : Int) != (m : Int)) = true := by simp; omega
    have HD2 : Hid (D = false) := by
      show _ = _
      rw [← HD.out]
      refine decide_eq_false fun e => hnm ?_
      rw [← HN.out, ← HM.out, e]
    rw [HD2.out]
    go_enter Try.func22, Try.ntmps22
    go_wp2
    go_ret
    exact ⟨rfl, rfl⟩

theorem same_any (u v : Value) (x y : List (List Int)) (w : World) (hu : Sls w u x) (hv : Sls w v y) (hx : Words8 x) (hy : Words8 y) :
    Calls Try.prog 16 #[u, v] w fun e w' => e = .returned (.bool (decide (canonL x = canonL y))) ∧ Ext w w' := by
  have HV := hide' hv
  have C1 := hide' (canon_any u x w hu hx)
  have C2 := hide' (fun W hW => canon_any v y W hW hy)
  have WX := hide' (canonL_words' hx)
  have WY := hide' (canonL_words' hy)
  clear hu hv hx hy
  generalize canonL x = X at *
  generalize canonL y = Y at *
  obtain ⟨D, HD⟩ : ∃ D, Hid (decide (X = Y) = D) := ⟨_, rfl⟩
  rw [HD.out]
  go_enter Try.func16, Try.ntmps16
  go_wp2_with fail
  refine C1.out.mono ?_
  rintro e w1 ⟨s, vs, rfl, ho, hr, he⟩
  have S1 := hide' (ho.sl.sls hr.read)
  have E1 := hide' he
  clear ho hr he
  go_wp2_with fail
  refine (C2.out _ (HV.out.ext E1.out)).mono ?_
  rintro e w2 ⟨t, us, rfl, ho, hr, he⟩
  have S2 := hide' (ho.sl.sls hr.read)
  have E2 := hide' he
  clear ho hr he
  go_wp2_with fail
  refine (equalFunc_any _ _ X Y w2 (S1.out.ext E2.out) S2.out (fun k => (WX.out.2 k).1) (fun k => (WY.out.2 k).1) (Nat.le_trans WX.out.1 (by omega)) (Nat.le_trans WY.out.1 (by omega))).mono ?_
  rintro e w3 ⟨rfl, rfl⟩
  go_wp2
  go_ret
  rw [HD.out]
  exact ⟨rfl, E1.out.trans E2.out⟩
end Go.Proofs.Ytjccpkekhjhafaa
