/- Contracts of skew.twoThirds, sampleOf and Sample, and of the document's own Sample. -/
import Derived.Test.YtnacjmkconabdaaSkMath
import Derived.Test.YtnacjmkconabdaaNatRow
namespace Go.Proofs.Ytnacjmkconabdaa
set_option linter.unusedVariables false
set_option linter.unusedSimpArgs false
open Go.RowKit

/-- How many places stand ahead of a third. -/
def bas (n : Nat) : Nat → Nat
  | 0 => 0
  | 1 => (n + 1) / 3
  | _ => (n + 1) / 3 + n / 3
theorem bas_lt {n i q : Nat} (hi : i < 2) : 3 * q + (i + 1) < n ↔ bas n i + q < bas n (i + 1) := by
  match i, hi with
  | 0, _ => show 3 * q + (0 + 1) < n ↔ 0 + q < (n + 1) / 3; omega
  | 1, _ => show 3 * q + (1 + 1) < n ↔ (n + 1) / 3 + q < (n + 1) / 3 + n / 3; omega
theorem bas_at {n i q : Nat} (hi : i < 2) (h : bas n i + q < bas n (i + 1)) : sampAt ((n + 1) / 3) (bas n i + q) = 3 * q + (i + 1) := by
  match i, hi with
  | 0, _ =>
    have h' : 0 + q < (n + 1) / 3 := h
    show sampAt ((n + 1) / 3) (0 + q) = _
    unfold sampAt
    rw [if_pos h']
    omega
  | 1, _ =>
    show sampAt ((n + 1) / 3) ((n + 1) / 3 + q) = _
    unfold sampAt
    rw [if_neg (by omega)]
    omega
theorem bas_le {n i : Nat} (hi : i < 2) : bas n i ≤ bas n (i + 1) ∧ bas n (i + 1) ≤ n := by
  match i, hi with
  | 0, _ => show 0 ≤ (n + 1) / 3 ∧ (n + 1) / 3 ≤ n; omega
  | 1, _ => show (n + 1) / 3 ≤ (n + 1) / 3 + n / 3 ∧ (n + 1) / 3 + n / 3 ≤ n; omega
/-- The first t of the sample. -/
def firT (n t : Nat) : List Int := natL ((List.range t).map (sampAt ((n + 1) / 3)))
theorem firT_len (n t : Nat) : (firT n t).length = t := by simp [firT, natL_len]
theorem firT_succ {n i q p : Nat} (hi : i < 2) (h : bas n i + q < bas n (i + 1)) (hp : p = 3 * q + (i + 1)) : firT n (bas n i + q) ++ [(p : Int)] = firT n (bas n i + (q + 1)) := by
  rw [hp, ← bas_at hi h]
  unfold firT natL
  rw [← Nat.add_assoc, List.range_succ, List.map_append, List.map_append]
  rfl
theorem firT_all (n : Nat) : firT n (bas n 2) = natL (twoN n) := rfl

theorem pickF (i : Nat) (hi : i < 2) : ∀ W, (Instr.index 47 (.agg #[.int .i64 1, .int .i64 2]) (.int .i64 (i : Int))).run Try.prog W = .ok (.int .i64 ((i + 1 : Nat) : Int)) W := by
  match i, hi with
  | 0, _ => intro w; kernel_rfl
  | 1, _ => intro w; kernel_rfl

set_option maxHeartbeats 1000000 in
theorem twoThirds_any (n : Nat) (w : World) (hn : n ≤ 1000000) :
    Calls Try.prog 24 #[.int .i64 (n : Int)] w fun e w' => ∃ u, e = .returned u ∧ Own .i64 3 w.heap.size w' u (natL (twoN n)) ∧ Ext w w' := by
  have hd1 : ((n : Int) + 1).tdiv 3 = (((n + 1) / 3 : Nat) : Int) := by rw [Int.tdiv_eq_ediv_of_nonneg (by omega)]; omega
  have hd2 : (n : Int).tdiv 3 = ((n / 3 : Nat) : Int) := by rw [Int.tdiv_eq_ediv_of_nonneg (by omega)]; omega
  obtain ⟨A, HA⟩ : ∃ A, Hid ((n + 1) / 3 = A) := ⟨_, rfl⟩
  obtain ⟨B, HB⟩ : ∃ A, Hid (n / 3 = A) := ⟨_, rfl⟩
  have hA : A ≤ 1000000 := by rw [← HA.out]; omega
  have hB : B ≤ 1000000 := by rw [← HB.out]; omega
  have hAB : A + B ≤ 1000000 := by rw [← HA.out, ← HB.out]; omega
  rw [HA.out] at hd1
  rw [HB.out] at hd2
  have hs : (A : Int) + (B : Int) = ((A + B : Nat) : Int) := by omega
  obtain ⟨M, HM⟩ : ∃ M, Hid (A + B = M) := ⟨_, rfl⟩
  rw [HM.out] at hs hAB
  obtain ⟨w1, hmk, ho, he⟩ := make_roomI w M hAB
  have O1 := hide' ho
  have X1 := hide' he
  clear ho he
  go_enter Try.func24, Try.ntmps24
  go_wp2
  go_loopw [3, 15] (fun ov vi wr => ∃ (i : Nat), i ≤ 2 ∧ vi = .int .i64 i ∧ Hid (Own .i64 3 w.heap.size wr ov (firT n (bas n i))) ∧ Hid (Ext w wr)) (fun _ vi _ => 2 - (intOf vi).toNat)
  case atStart => exact ⟨0, Nat.zero_le _, rfl, O1, X1⟩
  case round =>
    clear O1 X1 hmk
    obtain ⟨i, hi, rfl, HO, HE⟩ := hrel
    by_cases hlt : i < 2
    · have hlt' : (i : Int) < 2 := by omega
      have hpk := pickF i hlt
      have HBL := hide' (bas_le (n := n) hlt)
      obtain ⟨b1, HB1⟩ : ∃ b, Hid (bas n (i + 1) = b) := ⟨_, rfl⟩
      have HP0 : Hid (i + 1 = 3 * 0 + (i + 1)) := by show _ = _; omega
      obtain ⟨r, HR⟩ : ∃ r, Hid (i + 1 = r) := ⟨_, rfl⟩
      have hr : r ≤ 2 := by rw [← HR.out]; omega
      rw [HR.out] at hpk
      go_wp2
      go_loopw [3, 6] (fun ov vp wr => ∃ (q p : Nat), p ≤ n + 3 ∧ Hid (p = 3 * q + (i + 1)) ∧ Hid (bas n i + q ≤ bas n (i + 1)) ∧ vp = .int .i64 p ∧ Hid (Own .i64 3 w.heap.size wr ov (firT n (bas n i + q))) ∧ Hid (Ext w wr)) (fun _ vp _ => n + 3 - (intOf vp).toNat)
      case atStart => exact ⟨0, r, by omega, (show _ = _ by rw [← HR.out]; omega), (show _ ≤ _ by have := HBL.out; omega), rfl, HO, HE⟩
      case round =>
        clear HO HE hpk
        obtain ⟨q, p, hp, HP, HQ, rfl, HO, HE⟩ := hrel
        have hsz := HE.out.size
        by_cases hpn : p < n
        · have hpn' : (p : Int) < n := by omega
          have HB2 : Hid (bas n i + q < bas n (i + 1)) := (bas_lt hlt).1 (by rw [← HP.out]; exact hpn)
          have HL : Hid ((firT n (bas n i + q)).length ≤ 1000000) := by
            show _ ≤ _
            rw [firT_len]
            have := HB2.out
            have := HBL.out
            omega
          have HZ := hide' (firT_succ hlt HB2.out HP.out)
          obtain ⟨Z, HZZ⟩ : ∃ Z, Hid (firT n (bas n i + q) = Z) := ⟨_, rfl⟩
          rw [HZZ.out] at HL HZ HO
          go_wp2_with (at_builtin; refine wpList_snoc _ rfl _ _ 22 rfl 3 .i64 8 Try.underlying22 infoI64 w.heap.size _ Z (p : Int) ⟨wr.heap.size, 0, none⟩ rfl rfl ?c4 (HO.out.alloc _) ?c3 ?c5 ?_)
          case c3 => have := HL.out; unfold maxLen; omega
          case c5 => simp; omega
          case c4 => simp only [World.cell?, heap_alloc_top]; simp
          intro v1 w4 ho1 hb1
          have HO1 : Hid (Own .i64 3 w.heap.size w4 v1 (firT n (bas n i + (q + 1)))) := by rw [← HZ.out]; exact ho1
          have HE1 : Hid (Ext w w4) := Below.trans (HE.out.trans (ext_alloc _ _)) hb1
          clear ho1 hb1
          go_wp2
          go_roundw
          case rel => exact ⟨q + 1, p + 3, by omega, (show _ = _ by rw [HP.out]; omega), (show _ ≤ _ by have := HB2.out; omega), by go_num, HO1, HE1⟩
          case measure => simp [intOf] <;> omega
        · have d1 : decide ((p : Int) < n) = false := by simp; omega
          have HB2 : Hid (bas n i + q = bas n (i + 1)) := by
            show _ = _
            have h1 := HQ.out
            have h2 : ¬ bas n i + q < bas n (i + 1) := fun g => by
              have := (bas_lt hlt).2 g
              rw [← HP.out] at this
              omega
            omega
          rw [HB2.out] at HO
          go_wp2
          go_roundw
          case rel => exact ⟨i + 1, by omega, by go_num, HO, HE⟩
          case measure => simp [intOf] <;> omega
    · have d1 : decide ((i : Int) < 2) = false := by simp; omega
      have hi2 : i = 2 := by omega
      subst hi2
      go_wp2
      go_ret
      exact ⟨_, rfl, by rw [← firT_all]; exact HO.out, HE.out⟩

theorem sampleOf_any (n : Nat) (w : World) (hn : n < 1000000) :
    Calls Try.prog 31 #[.int .i64 (n : Int)] w fun e w' => ∃ u, e = .returned u ∧ Own .i64 3 w.heap.size w' u (natL (samp n)) ∧ Ext w w' := by
  have hm : (n : Int).tmod 3 = ((n % 3 : Nat) : Int) := by rw [Int.tmod_eq_emod_of_nonneg (by omega)]; omega
  by_cases h : n % 3 = 1
  · have C := hide' (twoThirds_any (n + 1) w (by omega))
    have HS : Hid (samp n = twoN (n + 1)) := by show _ = _; rw [samp_two]; unfold sampK; rw [if_pos h]
    rw [HS.out]
    have hc : ((n + 1 : Nat) : Int) = (n : Int) + 1 := by omega
    rw [h] at hm
    rw [hc] at C
    go_enter Try.func31, Try.ntmps31
    go_wp2_with fail
    refine C.out.mono ?_
    rintro e w1 ⟨u, rfl, ho, he⟩
    have O1 := hide' ho
    have X1 := hide' he
    clear ho he C
    go_wp2
    go_ret
    exact ⟨_, rfl, O1.out, X1.out⟩
  · have C := hide' (twoThirds_any n w (by omega))
    have HS : Hid (samp n = twoN n) := by show _ = _; rw [samp_two]; unfold sampK; rw [if_neg h]
    rw [HS.out]
    obtain ⟨r, hr⟩ : ∃ r, n % 3 = r := ⟨_, rfl⟩
    rw [hr] at hm h
    have d1 : ((r : Int) == 1) = false := by simp; omega
    clear hr
    go_enter Try.func31, Try.ntmps31
    go_wp2_with fail
    refine C.out.mono ?_
    rintro e w1 ⟨u, rfl, ho, he⟩
    have O1 := hide' ho
    have X1 := hide' he
    clear ho he C
    go_wp2
    go_ret
    exact ⟨_, rfl, O1.out, X1.out⟩

/-- What Sample answers. -/
def smpI (z : Int) : List Int := if 0 ≤ z ∧ z ≤ 100000 then natL (twoN z.toNat) else []
theorem sample_any (z : Int) (w : World) :
    Calls Try.prog 15 #[.int .i64 z] w fun e w' => ∃ u, e = .returned u ∧ Own .i64 3 w.heap.size w' u (smpI z) ∧ Ext w w' := by
  by_cases h0 : z < 0
  · have HS : Hid (smpI z = []) := if_neg (by omega)
    rw [HS.out]
    go_enter Try.func15, Try.ntmps15
    go_wp2
    go_ret
    exact ⟨_, rfl, Own.nil _ _ _ _, Ext.refl _⟩
  · have d0 : decide (z < 0) = false := by simp; omega
    by_cases h1 : 100000 < z
    · have HS : Hid (smpI z = []) := if_neg (by omega)
      rw [HS.out]
      go_enter Try.func15, Try.ntmps15
      go_wp2
      go_ret
      exact ⟨_, rfl, Own.nil _ _ _ _, Ext.refl _⟩
    · have d1 : decide (100000 < z) = false := by simp; omega
      obtain ⟨n, rfl⟩ := Int.eq_ofNat_of_zero_le (show 0 ≤ z by omega)
      have HS : Hid (smpI (n : Int) = natL (twoN n)) := by
        show _ = _
        unfold smpI
        rw [if_pos (by omega), Int.toNat_natCast]
      rw [HS.out]
      have C := hide' (twoThirds_any n w (by omega))
      go_enter Try.func15, Try.ntmps15
      go_wp2_with fail
      refine C.out.mono ?_
      rintro e w1 ⟨u, rfl, ho, he⟩
      have O1 := hide' ho
      have X1 := hide' he
      clear ho he C
      go_wp2
      go_ret
      exact ⟨_, rfl, O1.out, X1.out⟩
end Go.Proofs.Ytnacjmkconabdaa
