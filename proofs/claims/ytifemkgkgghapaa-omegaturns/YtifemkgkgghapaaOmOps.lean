/- Contracts of omega.next and omega.Compare (and of cmp.Compare at two lengths). -/
import Derived.Test.YtifemkgkgghapaaOmMath
import Derived.Test.YtifemkgkgghapaaCmp
import Derived.Test.YtifemkgkgghapaaKripTail
namespace Go.Proofs.Ytifemkgkgghapaa
set_option linter.unusedVariables false
set_option linter.unusedSimpArgs false
open Go.RowKit

theorem next_any (i n : Nat) (w : World) (hn : n ≤ 1000000) (hi : i < n) :
    Calls Try.prog 19 #[.int .i64 (i : Int), .int .i64 (n : Int)] w fun e w' => e = .returned (.int .i64 (((i + 1) % n : Nat) : Int)) ∧ w' = w := by
  by_cases g : i + 1 = n
  · have e1 : (i + 1) % n = 0 := by rw [g]; exact Nat.mod_self _
    have d1 : ((i : Int) + 1 == (n : Int)) = true := by simp; omega
    rw [e1]
    go_enter Try.func19, Try.ntmps19
    go_wp2
    go_ret
    exact ⟨rfl, rfl⟩
  · have e1 : (i + 1) % n = i + 1 := Nat.mod_eq_of_lt (by omega)
    have d1 : ((i : Int) + 1 == (n : Int)) = false := by simp; omega
    rw [e1]
    go_enter Try.func19, Try.ntmps19
    go_wp2
    go_ret
    exact ⟨rfl, rfl⟩

theorem isNaNInt_any (x : Int) (w : World) : Calls Try.prog 24 #[.int .i64 x] w fun e w' => e = .returned (.bool false) ∧ w' = w := by
  go_enter Try.func24, Try.ntmps24
  go_wp2
  go_ret
  exact ⟨rfl, rfl⟩

/-- cmp.Compare of two numbers. -/
theorem cmpInt_any (x y : Int) (w : World) : Calls Try.prog 17 #[.int .i64 x, .int .i64 y] w fun e w' => e = .returned (.int .i64 (if x < y then -1 else if y < x then 1 else 0)) ∧ w' = w := by
  by_cases hlt : x < y
  · rw [if_pos hlt]
    go_enter Try.func17, Try.ntmps17
    go_wp2_with fail
    refine (isNaNInt_any x _).mono ?_
    rintro e w' ⟨rfl, rfl⟩
    go_wp2_with fail
    refine (isNaNInt_any y _).mono ?_
    rintro e w' ⟨rfl, rfl⟩
    go_wp2
    go_ret
    exact ⟨rfl, rfl⟩
  · rw [if_neg hlt]
    have d : decide (x < y) = false := by simpa using hlt
    by_cases hgt : y < x
    · rw [if_pos hgt]
      go_enter Try.func17, Try.ntmps17
      go_wp2_with fail
      refine (isNaNInt_any x _).mono ?_
      rintro e w' ⟨rfl, rfl⟩
      go_wp2_with fail
      refine (isNaNInt_any y _).mono ?_
      rintro e w' ⟨rfl, rfl⟩
      go_wp2
      go_ret
      exact ⟨rfl, rfl⟩
    · rw [if_neg hgt]
      have d2 : decide (y < x) = false := by simpa using hgt
      go_enter Try.func17, Try.ntmps17
      go_wp2_with fail
      refine (isNaNInt_any x _).mono ?_
      rintro e w' ⟨rfl, rfl⟩
      go_wp2_with fail
      refine (isNaNInt_any y _).mono ?_
      rintro e w' ⟨rfl, rfl⟩
      go_wp2
      go_ret
      exact ⟨rfl, rfl⟩

/-- Where one of two is empty. -/
theorem omI_len {u v : List Int} (h : u.length = 0 ∨ v.length = 0) : omI u v = if (u.length : Int) < v.length then -1 else if (v.length : Int) < u.length then 1 else 0 := by
  rcases h with h | h
  · have e := List.length_eq_zero_iff.1 h
    subst e
    by_cases hv : v.length = 0
    · have e := List.length_eq_zero_iff.1 hv
      subst e
      exact omI_nil
    · rw [omI_none_left (by omega), if_pos (by simp; omega)]
  · have e := List.length_eq_zero_iff.1 h
    subst e
    by_cases hu : u.length = 0
    · have e := List.length_eq_zero_iff.1 hu
      subst e
      exact omI_nil
    · rw [omI_none_right (by omega), if_neg (by simp), if_pos (by simp; omega)]

theorem atW_next {u : List Int} (k : Nat) : (k % u.length + 1) % u.length = (k + 1) % u.length := by rw [Nat.mod_add_mod]

set_option maxHeartbeats 400000 in
theorem omega_any (u v : Value) (x y : List Int) (w : World) (hu : Sl .u8 w u x) (hv : Sl .u8 w v y) (hx : x.length ≤ 100000) (hy : y.length ≤ 100000) :
    Calls Try.prog 8 #[u, v] w fun e w' => e = .returned (.int .i64 (omI x y)) ∧ ∃ m, w' = w.drewN m := by
  have HU := hide' hu
  have HV := hide' hv
  obtain ⟨a, c, rfl, _⟩ := hu
  obtain ⟨a', c', rfl, _⟩ := hv
  by_cases h0 : x.length = 0 ∨ y.length = 0
  · have CC := cmpInt_any (x.length : Int) (y.length : Int) w
    rw [← omI_len h0] at CC
    have HC := hide' CC
    generalize omI x y = r at *
    clear CC
    by_cases h1 : x.length = 0
    · have d1 : ((x.length : Int) == 0) = true := by simp; exact List.length_eq_zero_iff.1 h1
      obtain ⟨n, hn⟩ : ∃ n, x.length = n := ⟨_, rfl⟩
      obtain ⟨n', hn'⟩ : ∃ n, y.length = n := ⟨_, rfl⟩
      rw [hn] at d1 HC ⊢
      rw [hn'] at HC ⊢
      clear h1 h0 hn hn' HU HV
      go_enter Try.func8, Try.ntmps8
      go_wp2_with fail
      refine HC.out.mono ?_
      rintro e w1 ⟨rfl, rfl⟩
      go_wp2
      go_ret
      exact ⟨rfl, 0, rfl⟩
    · have h2 : y.length = 0 := by omega
      have d1 : ((x.length : Int) == 0) = false := by simp; exact fun h => h1 (by rw [h]; rfl)
      have d2 : ((y.length : Int) == 0) = true := by simp; exact List.length_eq_zero_iff.1 h2
      obtain ⟨n, hn⟩ : ∃ n, x.length = n := ⟨_, rfl⟩
      obtain ⟨n', hn'⟩ : ∃ n, y.length = n := ⟨_, rfl⟩
      rw [hn] at d1 HC ⊢
      rw [hn'] at d2 HC ⊢
      clear h0 h1 h2 hn hn' HU HV
      go_enter Try.func8, Try.ntmps8
      go_wp2_with fail
      refine HC.out.mono ?_
      rintro e w1 ⟨rfl, rfl⟩
      go_wp2
      go_ret
      exact ⟨rfl, 0, rfl⟩
  · have hx0 : 0 < x.length := by omega
    have hy0 : 0 < y.length := by omega
    have hne1 : x ≠ [] := fun h => by rw [h] at hx0; simp at hx0
    have hne2 : y ≠ [] := fun h => by rw [h] at hy0; simp at hy0
    obtain ⟨_, b1, o1, rfl, c1⟩ := HU.out.at hne1
    obtain ⟨_, b2, o2, rfl, c2⟩ := HV.out.at hne2
    have C1 := hide' c1
    have C2 := hide' c2
    obtain ⟨n1, HN1⟩ : ∃ n, Hid (x.length = n) := ⟨_, rfl⟩
    obtain ⟨n2, HN2⟩ : ∃ n, Hid (y.length = n) := ⟨_, rfl⟩
    have HX0 := hide' hx0
    have HY0 := hide' hy0
    rw [HN1.out] at hx hx0 C1 ⊢
    rw [HN2.out] at hy hy0 C2 ⊢
    clear c1 c2 hne1 hne2 h0 HU HV
    have d1 : ((n1 : Int) == 0) = false := by simp; omega
    have d2 : ((n2 : Int) == 0) = false := by simp; omega
    go_enter Try.func8, Try.ntmps8
    go_wp2
    go_loopw [5, 6, 25] (fun vi vj vk wr => ∃ (i j k : Nat), i < n1 ∧ j < n2 ∧ k ≤ n1 + n2 ∧ vi = .int .i64 i ∧ vj = .int .i64 j ∧ vk = .int .i64 k ∧ Hid (i = k % n1) ∧ Hid (j = k % n2) ∧ Hid (∀ l, l < k → atW x l = atW y l) ∧ ∃ m, wr = w.drewN m) (fun _ _ vk _ => n1 + n2 - (intOf vk).toNat)
    case atStart => exact ⟨0, 0, 0, hx0, hy0, Nat.zero_le _, rfl, rfl, rfl, (show _ = _ by simp), (show _ = _ by simp), (fun l hl => by omega), 0, rfl⟩
    case round =>
      obtain ⟨i, j, k, hi, hj, hk, rfl, rfl, rfl, HI, HJ, HK, m, rfl⟩ := hrel
      by_cases hlt : k < n1 + n2
      · have hlt' : (k : Int) < (n1 : Int) + n2 := by omega
        have ci := C1.out i hi
        have cj := C2.out j hj
        have HP : Hid (x.getD i 0 = atW x k) := by show _ = _; unfold atW; rw [HN1.out, ← HI.out]
        have HQ : Hid (y.getD j 0 = atW y k) := by show _ = _; unfold atW; rw [HN2.out, ← HJ.out]
        rw [HP.out] at ci
        rw [HQ.out] at cj
        obtain ⟨p, HPP⟩ : ∃ p, Hid (atW x k = p) := ⟨_, rfl⟩
        obtain ⟨q, HQQ⟩ : ∃ q, Hid (atW y k = q) := ⟨_, rfl⟩
        rw [HPP.out] at ci
        rw [HQQ.out] at cj
        have li : (i : Int) < n1 := by omega
        have lj : (j : Int) < n2 := by omega
        by_cases hpq : p = q
        · have HK' : Hid (∀ l, l < k + 1 → atW x l = atW y l) := fun l hl => by
            by_cases e : l = k
            · subst e; rw [HPP.out, HQQ.out, hpq]
            · exact HK.out l (by omega)
          subst hpq
          go_wp2_with fail
          go_quiet (fail)
          clear ci cj
          go_wp2_with fail
          refine (next_any i n1 _ (by omega) hi).mono ?_
          rintro e w1 ⟨rfl, rfl⟩
          go_wp2_with fail
          refine (next_any j n2 _ (by omega) hj).mono ?_
          rintro e w1 ⟨rfl, rfl⟩
          have HI2 : Hid ((i + 1) % n1 = (k + 1) % n1) := by show _ = _; rw [HI.out, Nat.mod_add_mod]
          have HJ2 : Hid ((j + 1) % n2 = (k + 1) % n2) := by show _ = _; rw [HJ.out, Nat.mod_add_mod]
          go_wp2
          go_roundw
          case rel => exact ⟨(i + 1) % n1, (j + 1) % n2, k + 1, Nat.mod_lt _ hx0, Nat.mod_lt _ hy0, by omega, rfl, rfl, by go_num, HI2, HJ2, HK', _, rfl⟩
          case measure => simp [intOf]; omega
        · have hpq' : (p == q) = false := by simpa using hpq
          have HR : Hid (omI x y = if p < q then -1 else 1) := by
            have := omI_other (u := x) (v := y) HX0.out HY0.out (m := k) (by rw [HN1.out, HN2.out]; exact hlt) HK.out (by rw [HPP.out, HQQ.out]; exact hpq)
            rw [HPP.out, HQQ.out] at this
            exact this
          have HN : Hid (∀ W, Calls Try.prog 18 #[.int .u8 p, .int .u8 q] W fun e w' => e = .returned (.int .i64 (omI x y)) ∧ w' = W) := fun W => by
            have := cmpByte_any p q W hpq
            rwa [← HR.out] at this
          clear hpq
          go_wp2_with fail
          go_quiet (fail)
          go_wp2_with fail
          have cpW : ((w.drewN m).drewN nq).cell? ⟨b1, o1 + i, none⟩ = some (.int .u8 p) := ci
          have cqW : ((w.drewN m).drewN nq).cell? ⟨b2, o2 + j, none⟩ = some (.int .u8 q) := cj
          generalize hW : (w.drewN m).drewN nq = W at *
          have HW := hide' hW
          clear ci cj hW
          go_quiet ((go_at_call 18; exact Calls.quiet_of_same (HN.out _)))
          go_wp2
          go_ret
          rw [← HW.out]
          exact ⟨rfl, _, by rw [World.drewN_drewN, World.drewN_drewN]⟩
      · have hlt' : decide ((k : Int) < (n1 : Int) + n2) = false := by simp; omega
        have HR : Hid (omI x y = 0) := omI_same HX0.out HY0.out (fun l hl => HK.out l (by rw [HN1.out, HN2.out] at hl; omega))
        go_wp2
        go_ret
        rw [HR.out]
        exact ⟨rfl, _, rfl⟩
end Go.Proofs.Ytifemkgkgghapaa
