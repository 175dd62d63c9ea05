/- Contract of double.byWhatFollows. -/
import Derived.Test.YtimhkmnohkbniaaDbSmall
namespace Go.Proofs.Ytimhkmnohkbniaa
set_option linter.unusedVariables false
set_option linter.unusedSimpArgs false
open Go.RowKit

set_option maxHeartbeats 1000000 in
theorem byWhat_any (v : Value) (R : List Nat) (b : Nat) (w : World) (hv : Sl .i64 w v (natL R)) (hb : b ≤ R.length) (hlt : ∀ i, i < R.length → R.getD i 0 < R.length) (hlen : R.length ≤ 200000) :
    Calls Try.prog 32 #[v, .int .i64 (b : Int)] w fun e w' => ∃ x, e = .returned x ∧ Own .i64 3 w.heap.size w' x (natL (lastN R.length b b ++ folN R b)) ∧ Ext w w' := by
  have HFL := hide' (folN_le R b)
  have HTK : Hid (∀ i, (folN (R.take i) b).length ≤ R.length) := fun i => by
    have := folN_le (R.take i) b
    rw [List.length_take] at this
    omega
  have HY : Hid (∀ i, i < R.length → b ≤ R.getD i 0 → folN (R.take (i + 1)) b = folN (R.take i) b ++ [R.getD i 0 - b]) := fun i h1 h2 => folN_yes h1 h2
  have HNO : Hid (∀ i, i < R.length → ¬ b ≤ R.getD i 0 → folN (R.take (i + 1)) b = folN (R.take i) b) := fun i h1 h2 => folN_no h1 h2
  have HAL : Hid (folN (R.take R.length) b = folN R b) := by show _ = _; rw [List.take_of_length_le (Nat.le_refl _)]
  have HMM := hide' hlt
  obtain ⟨a, c, rfl, _⟩ := id hv
  rw [natL_len] at hv ⊢
  obtain ⟨_, _, _, hcv⟩ := hv.nat
  have CV := hide' hcv
  obtain ⟨n, HN⟩ : ∃ n, Hid (R.length = n) := ⟨_, rfl⟩
  rw [HN.out] at CV HMM HTK HY HNO HAL hlen hb ⊢
  have hsub : (n : Int) - (b : Int) = ((n - b : Nat) : Int) := by omega
  obtain ⟨m, HM⟩ : ∃ m, Hid (n - b = m) := ⟨_, rfl⟩
  have hmb : m + b = n := by rw [← HM.out]; omega
  rw [HM.out] at hsub
  obtain ⟨w1, hmk, ho, he⟩ := make_roomI w n (by omega)
  have O1 := hide' ho
  have X1 := hide' he
  clear ho he hv hcv hlt
  go_enter Try.func32, Try.ntmps32
  go_wp2
  go_loopw [5, 6] (fun ov vi wr => ∃ (i : Nat), i ≤ b ∧ vi = .int .i64 ((m + i : Nat) : Int) ∧ Hid (Own .i64 3 w.heap.size wr ov (natL (lastN n b i))) ∧ Hid (Ext w wr)) (fun _ vi _ => n - (intOf vi).toNat)
  case atStart => exact ⟨0, Nat.zero_le _, rfl, O1, X1⟩
  case round =>
    clear O1 X1 hmk
    obtain ⟨i, hi, rfl, HO, HE⟩ := hrel
    have hsz := HE.out.size
    obtain ⟨p, HP⟩ : ∃ p, Hid (m + i = p) := ⟨_, rfl⟩
    have hpp : p = m + i := HP.out.symm
    rw [HP.out]
    by_cases hlt : p < n
    · have hlt' : (p : Int) < n := by omega
      have HL : Hid ((natL (lastN n b i)).length ≤ 1000000) := by
        show _ ≤ _
        rw [natL_len, lastN_len]
        omega
      have HZ : Hid (natL (lastN n b (i + 1)) = natL (lastN n b i) ++ [(p : Int)]) := by
        show _ = _
        rw [lastN_next, ← natL_snoc, ← HP.out, ← HM.out]
      have HP1 : Hid (m + (i + 1) = p + 1) := by show _ = _; omega
      have hib : i + 1 ≤ b := by omega
      clear hpp
      go_wp2_with (at_builtin; refine wpList_snoc _ rfl _ _ 22 rfl 3 .i64 8 Try.underlying22 infoI64 w.heap.size _ (natL (lastN n b i)) (p : Int) ⟨wr.heap.size, 0, none⟩ rfl rfl ?c4 (HO.out.alloc _) ?c3 ?c5 ?_)
      case c3 => have := HL.out; unfold maxLen; omega
      case c5 => simp; omega
      case c4 => simp only [World.cell?, heap_alloc_top]; simp
      intro v1 w4 ho1 hb1
      have HO1 : Hid (Own .i64 3 w.heap.size w4 v1 (natL (lastN n b (i + 1)))) := by rw [HZ.out]; exact ho1
      have HE1 : Hid (Ext w w4) := Below.trans (HE.out.trans (ext_alloc _ _)) hb1
      clear ho1 hb1
      go_wp2
      go_roundw
      case rel => exact ⟨i + 1, hib, by rw [HP1.out]; go_num, HO1, HE1⟩
      case measure => simp [intOf] <;> omega
    · have d1 : decide ((p : Int) < n) = false := by simp; omega
      have hib : i = b := by omega
      have HO2 : Hid (Own .i64 3 w.heap.size wr u5 (natL (lastN n b b ++ folN (R.take 0) b))) := by
        have := HO.out
        rw [hib] at this
        rw [show lastN n b b ++ folN (R.take 0) b = lastN n b b by simp [folN]]
        exact this
      have HZ : Hid (∀ l : List Nat, (lastN n b b ++ l).length = b + l.length) := fun l => by rw [List.length_append, lastN_len]
      clear hib HO hpp
      go_wp2
      go_loopw [5, 28] (fun ov vi wq => ∃ (j : Nat), j ≤ n ∧ vi = .int .i64 j ∧ Hid (Own .i64 3 w.heap.size wq ov (natL (lastN n b b ++ folN (R.take j) b))) ∧ Hid (Ext w wq)) (fun _ vi _ => n - (intOf vi).toNat)
      case atStart => exact ⟨0, Nat.zero_le _, rfl, HO2, HE⟩
      case round =>
        clear HO2 HE d1 hsub
        obtain ⟨j, hj, rfl, HO, HE⟩ := hrel
        have hsz := HE.out.size
        by_cases hlt : j < n
        · have hlt' : (j : Int) < n := by omega
          obtain ⟨g1, o1, rfl, k1⟩ := CV.out (by omega)
          have c1 := HE.out.cellOf (k1 j hlt)
          have hpn := HMM.out j hlt
          have HYj := hide' (HY.out j hlt)
          have HNj := hide' (HNO.out j hlt)
          have HTj := hide' (HTK.out j)
          obtain ⟨q, HQ⟩ : ∃ q, Hid (R.getD j 0 = q) := ⟨_, rfl⟩
          rw [HQ.out] at c1 hpn HYj HNj
          clear k1
          by_cases hq : b ≤ q
          · have d2 : decide ((b : Int) ≤ (q : Int)) = true := by simp; omega
            have hs2 : (q : Int) - (b : Int) = ((q - b : Nat) : Int) := by omega
            have HZ2 := hide' (HYj.out hq)
            obtain ⟨y, HYY⟩ : ∃ y, Hid (q - b = y) := ⟨_, rfl⟩
            rw [HYY.out] at hs2 HZ2
            have HL : Hid ((natL (lastN n b b ++ folN (R.take j) b)).length ≤ 1000000) := by
              show _ ≤ _
              rw [natL_len, HZ.out]
              have := HTj.out
              omega
            clear hq HYj HNj
            go_wp2_with (at_builtin; refine wpList_snoc _ rfl _ _ 22 rfl 3 .i64 8 Try.underlying22 infoI64 w.heap.size _ (natL (lastN n b b ++ folN (R.take j) b)) (y : Int) ⟨wr.heap.size, 0, none⟩ rfl rfl ?c4 (HO.out.alloc _) ?c3 ?c5 ?_)
            case c3 => have := HL.out; unfold maxLen; omega
            case c5 => simp; omega
            case c4 => simp only [World.cell?, heap_alloc_top]; simp
            intro v1 w4 ho1 hb1
            have HO1 : Hid (Own .i64 3 w.heap.size w4 v1 (natL (lastN n b b ++ folN (R.take (j + 1)) b))) := by rw [HZ2.out, ← List.append_assoc, ← natL_snoc]; exact ho1
            have HE1 : Hid (Ext w w4) := Below.trans (HE.out.trans (ext_alloc _ _)) hb1
            clear ho1 hb1
            go_wp2
            go_roundw
            case rel => exact ⟨j + 1, by omega, by go_num, HO1, HE1⟩
            case measure => simp [intOf] <;> omega
          · have d2 : decide ((b : Int) ≤ (q : Int)) = false := by simp; omega
            have d3 : decide (b ≤ q) = false := by simp; omega
            have HZ2 := hide' (HNj.out hq)
            rw [← HZ2.out] at HO
            clear hq HYj HNj
            go_wp2
            go_roundw
            case rel => exact ⟨j + 1, by omega, by go_num, HO, HE⟩
            case measure => simp [intOf] <;> omega
        · have d1 : decide ((j : Int) < n) = false := by simp; omega
          have hjn : j = n := by omega
          have HO3 : Hid (Own .i64 3 w.heap.size wr u5 (natL (lastN n b b ++ folN R b))) := by
            have := HO.out
            rw [hjn, HAL.out] at this
            exact this
          clear HO
          go_wp2
          go_ret
          exact ⟨_, rfl, HO3.out, HE.out⟩
end Go.Proofs.Ytimhkmnohkbniaa
