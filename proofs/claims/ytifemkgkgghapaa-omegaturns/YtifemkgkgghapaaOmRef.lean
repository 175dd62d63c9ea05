/- Contract of the document's own comparison without end: whorlref8.Compare. -/
import Derived.Test.YtifemkgkgghapaaOmOps
import Derived.Test.YtifemkgkgghapaaRefWords
import Derived.Lib.MinMax
namespace Go.Proofs.Ytifemkgkgghapaa
set_option linter.unusedVariables false
set_option linter.unusedSimpArgs false
open Go.RowKit

theorem omI_first {x y : List Int} (h : x.length = 0 ∨ y.length = 0) : cmpI (x.take (min x.length 1)) (y.take (min y.length 1)) = omI x y := by
  rcases h with h | h
  · have e := List.length_eq_zero_iff.1 h
    subst e
    cases y with
    | nil => rw [omI_nil]; rfl
    | cons b y => rw [omI_none_left (by simp)]; simp [cmpI]
  · have e := List.length_eq_zero_iff.1 h
    subst e
    cases x with
    | nil => rw [omI_nil]; rfl
    | cons b y => rw [omI_none_right (by simp)]; simp [cmpI]

set_option maxHeartbeats 1000000 in
theorem rcompare_any (u v : Value) (x y : List Int) (w : World) (hu : Sl .u8 w u x) (hv : Sl .u8 w v y) (hx : x.length ≤ 100000) (hy : y.length ≤ 100000) :
    Calls Try.prog 9 #[u, v] w fun e w' => e = .returned (.int .i64 (omI x y)) ∧ Ext w w' := by
  have HU := hide' hu
  have HV := hide' hv
  obtain ⟨a, c, rfl, _⟩ := hu
  obtain ⟨a', c', rfl, _⟩ := hv
  by_cases h0 : x.length = 0 ∨ y.length = 0
  · have HF := hide' (omI_first h0)
    obtain ⟨t1, s1⟩ := HU.out.runTake (P := Try.prog) 22 5 Try.underlying22 size8 (min x.length 1) (by omega)
    obtain ⟨t2, s2⟩ := HV.out.runTake (P := Try.prog) 22 5 Try.underlying22 size8 (min y.length 1) (by omega)
    have S1 := hide' s1
    have S2 := hide' s2
    have X1 : Hid ((x.take (min x.length 1)).length ≤ 1000000) := by show _ ≤ _; simp; omega
    have X2 : Hid ((y.take (min y.length 1)).length ≤ 1000000) := by show _ ≤ _; simp; omega
    have m1 : min (x.length : Int) 1 = ((min x.length 1 : Nat) : Int) := by omega
    have m2 : min (y.length : Int) 1 = ((min y.length 1 : Nat) : Int) := by omega
    have HE : Hid (((x.length : Int) == 0) = true ∨ ((x.length : Int) == 0) = false ∧ ((y.length : Int) == 0) = true) := by
      by_cases h1 : x.length = 0
      · exact .inl (by rw [h1]; rfl)
      · exact .inr ⟨by simp; exact fun h => h1 (by rw [h]; rfl), by rw [show y.length = 0 by omega]; rfl⟩
    clear s1 s2
    generalize min x.length 1 = k1 at *
    generalize min y.length 1 = k2 at *
    obtain ⟨n, HN1⟩ : ∃ n, Hid (x.length = n) := ⟨_, rfl⟩
    obtain ⟨n', HN2⟩ : ∃ n, Hid (y.length = n) := ⟨_, rfl⟩
    rw [HN1.out] at t1 m1 HE hx ⊢
    rw [HN2.out] at t2 m2 HE hy ⊢
    clear h0 HU HV
    obtain ⟨r, HR⟩ : ∃ r, Hid (omI x y = r) := ⟨_, rfl⟩
    rw [HR.out] at HF ⊢
    rcases HE.out with d1 | ⟨d1, d2⟩
    all_goals
      go_enter Try.func9, Try.ntmps9
      go_wp2_with fail
      have hne := later_some w
      refine wp_region_k (fun f args v w' => v = .int .i64 r) (by kernel_rfl) (by kernel_rfl) (by kernel_rfl) ?_
      refine lexK_take 10 (by kernel_rfl) ?_
      simp only [List.take_succ_cons, List.take_zero, List.drop_succ_cons, List.drop_zero]
      repeat (go_big_quiet_step (fail))
      refine wpQuiet_nil ?_
      refine lexK_call1 16 #[.slice a k1 c, .slice a' k2 c'] (.int .i64 r) (fun _ _ => Iff.rfl) rfl (fun w' => ?_) (fun w' he' _ => toExt (by rw [← HF.out]; exact words_any _ _ _ _ w' (S1.out.ext he') (S2.out.ext he') X1.out X2.out)) ?_
      · go_simp
      simp only [Act.put, List.setIfInBounds_toArray, List.set_cons_succ, List.set_cons_zero]
      refine lexK_take 1 (by kernel_rfl) ?_
      simp only [List.take_succ_cons, List.take_zero, List.drop_succ_cons, List.drop_zero]
      repeat (go_big_quiet_step (fail))
      refine wpQuiet_nil ?_
      refine lexK_nil ?_
      intro w7 he7 _
      clear hne t1 t2
      go_wp2
      go_ret
      exact ⟨rfl, he7⟩
  · have hx0 : 0 < x.length := by omega
    have hy0 : 0 < y.length := by omega
    have hne1 : x ≠ [] := fun h => by rw [h] at hx0; simp at hx0
    have hne2 : y ≠ [] := fun h => by rw [h] at hy0; simp at hy0
    obtain ⟨_, b1, o1, rfl, c1⟩ := HU.out.at hne1
    obtain ⟨_, b2, o2, rfl, c2⟩ := HV.out.at hne2
    have C1 := hide' c1
    have C2 := hide' c2
    obtain ⟨n1, HN1⟩ : ∃ n, Hid (x.length = n) := ⟨_, rfl⟩
    obtain ⟨n2, HN2⟩ : ∃ n, Hid (y.length = n) := ⟨_, rfl⟩
    have HX0 := hide' hx0
    have HY0 := hide' hy0
    rw [HN1.out] at hx hx0 C1 ⊢
    rw [HN2.out] at hy hy0 C2 ⊢
    clear c1 c2 hne1 hne2 h0 HU HV
    have d1 : ((n1 : Int) == 0) = false := by simp; omega
    have d2 : ((n2 : Int) == 0) = false := by simp; omega
    have z1 : (n1 : Int) ≠ 0 := by omega
    have z2 : (n2 : Int) ≠ 0 := by omega
    go_enter Try.func9, Try.ntmps9
    go_wp2
    go_loopw [5] (fun vk wr => ∃ (k : Nat), k ≤ n1 + n2 ∧ vk = .int .i64 k ∧ Hid (∀ l, l < k → atW x l = atW y l) ∧ ∃ m, wr = w.drewN m) (fun vk _ => n1 + n2 - (intOf vk).toNat)
    case atStart => exact ⟨0, Nat.zero_le _, rfl, (fun l hl => by omega), 0, rfl⟩
    case round =>
      obtain ⟨k, hk, rfl, HK, m, rfl⟩ := hrel
      by_cases hlt : k < n1 + n2
      · have hlt' : (k : Int) < (n1 : Int) + n2 := by omega
        have hi := Nat.mod_lt k hx0
        have hj := Nat.mod_lt k hy0
        have ci := C1.out (k % n1) hi
        have cj := C2.out (k % n2) hj
        have HP : Hid (x.getD (k % n1) 0 = atW x k) := by show _ = _; unfold atW; rw [HN1.out]
        have HQ : Hid (y.getD (k % n2) 0 = atW y k) := by show _ = _; unfold atW; rw [HN2.out]
        rw [HP.out] at ci
        rw [HQ.out] at cj
        have r1 : (k : Int).tmod (n1 : Int) = ((k % n1 : Nat) : Int) := by rw [Int.tmod_eq_emod_of_nonneg (by omega)]; simp
        have r2 : (k : Int) % (n1 : Int) = ((k % n1 : Nat) : Int) := by simp
        have r3 : (k : Int).tmod (n2 : Int) = ((k % n2 : Nat) : Int) := by rw [Int.tmod_eq_emod_of_nonneg (by omega)]; simp
        have r4 : (k : Int) % (n2 : Int) = ((k % n2 : Nat) : Int) := by simp
        obtain ⟨p, HPP⟩ : ∃ p, Hid (atW x k = p) := ⟨_, rfl⟩
        obtain ⟨q, HQQ⟩ : ∃ q, Hid (atW y k = q) := ⟨_, rfl⟩
        rw [HPP.out] at ci
        rw [HQQ.out] at cj
        clear HP HQ
        obtain ⟨i, hI⟩ : ∃ i, k % n1 = i := ⟨_, rfl⟩
        obtain ⟨j, hJ⟩ : ∃ j, k % n2 = j := ⟨_, rfl⟩
        rw [hI] at ci hi r1 r2
        rw [hJ] at cj hj r3 r4
        clear hI hJ
        have li : (i : Int) < n1 := by omega
        have lj : (j : Int) < n2 := by omega
        by_cases hpq : p = q
        · have HK' : Hid (∀ l, l < k + 1 → atW x l = atW y l) := fun l hl => by
            by_cases e : l = k
            · subst e; rw [HPP.out, HQQ.out, hpq]
            · exact HK.out l (by omega)
          subst hpq
          have e1 : decide (p < p) = false := by simp
          go_wp2_with fail
          go_quiet (fail)
          clear ci cj r1 r2 r3 r4
          go_wp2
          go_roundw
          case rel => exact ⟨k + 1, by omega, by go_num, HK', _, rfl⟩
          case measure => simp [intOf]; omega
        · have HR : Hid (omI x y = if p < q then -1 else 1) := by
            have := omI_other (u := x) (v := y) HX0.out HY0.out (m := k) (by rw [HN1.out, HN2.out]; exact hlt) HK.out (by rw [HPP.out, HQQ.out]; exact hpq)
            rw [HPP.out, HQQ.out] at this
            exact this
          by_cases hl2 : p < q
          · rw [if_pos hl2] at HR
            clear hpq
            go_wp2_with fail
            go_quiet (fail)
            clear ci cj r1 r2 r3 r4
            go_wp2
            go_ret
            rw [HR.out]
            exact ⟨rfl, Ext.drewN _ _⟩
          · rw [if_neg hl2] at HR
            have hl3 : q < p := by omega
            have e1 : decide (p < q) = false := by simpa using hl2
            clear hpq hl2
            go_wp2_with fail
            go_quiet (fail)
            clear ci cj r1 r2 r3 r4
            go_wp2
            go_ret
            rw [HR.out]
            exact ⟨rfl, Ext.drewN _ _⟩
      · have hlt' : decide ((k : Int) < (n1 : Int) + n2) = false := by simp; omega
        have HR : Hid (omI x y = 0) := omI_same HX0.out HY0.out (fun l hl => HK.out l (by rw [HN1.out, HN2.out] at hl; omega))
        go_wp2
        go_ret
        rw [HR.out]
        exact ⟨rfl, Ext.drewN _ _⟩
end Go.Proofs.Ytifemkgkgghapaa
