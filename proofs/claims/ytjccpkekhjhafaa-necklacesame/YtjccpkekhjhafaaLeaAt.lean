/- Contracts of least.At and least.Is. -/
import Derived.Test.YtjccpkekhjhafaaLeaOps
namespace Go.Proofs.Ytjccpkekhjhafaa
set_option linter.unusedVariables false
set_option linter.unusedSimpArgs false
open Go.RowKit

theorem com_same {x y : List Int} (hl : x.length = y.length) (h : comI x y = x.length) : x = y := by
  have := cmpI_comI x y
  rw [if_pos h, if_pos (by rw [← hl]; exact h)] at this
  exact cmpI_zero this
theorem com_before {x y : List Int} : ∀ k, k < comI x y → x.getD k 0 = y.getD k 0 := by
  induction x generalizing y with
  | nil => intro k hk; rw [comI_nil_left] at hk; omega
  | cons a x ih =>
    intro k hk
    cases y with
    | nil => rw [comI_nil_right] at hk; omega
    | cons b y =>
      simp only [comI] at hk
      by_cases h : a = b
      · rw [if_pos h] at hk
        subst h
        cases k with
        | zero => simp
        | succ k => have := ih (y := y) k (by omega); simpa using this
      · rw [if_neg h] at hk; omega
theorem com_at {x y : List Int} (hx : comI x y < x.length) (hy : comI x y < y.length) : x.getD (comI x y) 0 ≠ y.getD (comI x y) 0 := by
  induction x generalizing y with
  | nil => simp at hx
  | cons a x ih =>
    cases y with
    | nil => simp at hy
    | cons b y =>
      by_cases h : a = b
      · subst h
        have hc : comI (a :: x) (a :: y) = comI x y + 1 := by simp [comI]
        rw [hc] at hx hy ⊢
        have := ih (y := y) (by simpa using hx) (by simpa using hy)
        simpa using this
      · have hc : comI (a :: x) (b :: y) = 0 := by simp [comI, h]
        rw [hc]
        simpa using h

theorem at_any (v : Value) (zs : List Int) (w : World) (hs : Sl .u8 w v zs) (hlen : zs.length ≤ 1000000) :
    Calls Try.prog 36 #[v] w fun e w' => e = .returned (.int .i64 (atI zs : Int)) ∧ w' = w := by
  have HS := hide' hs
  obtain ⟨a, c, rfl, h2, h3, _⟩ := hs
  unfold maxLen at h3
  obtain ⟨N, HN⟩ : ∃ n, Hid (zs.length = n) := ⟨_, rfl⟩
  rw [HN.out] at h2 hlen HS ⊢
  go_enter Try.func36, Try.ntmps36
  go_wp2
  go_loop [3, 4] (fun vp vq => ∃ (p q : Nat), p ≤ 1000000 ∧ q ≤ 3000000 ∧ vp = .int .i64 p ∧ vq = .int .i64 q ∧ Hid (Seek zs p q)) (fun _ vq => N - (intOf vq).toNat)
  case atStart => exact ⟨0, 1, by omega, by omega, rfl, rfl, Seek.start⟩
  case round =>
    obtain ⟨p, q, hp, hq, rfl, rfl, HK⟩ := hrel
    by_cases hlt : q < N
    · have hlt' : (q : Int) < N := by omega
      have hpq : p < q := HK.out.1
      have HXL := hide' (turnI_len (s := zs) (i := p) (by rw [HN.out]; omega))
      have HYL := hide' (turnI_len (s := zs) (i := q) (by rw [HN.out]; omega))
      have C0 := hide' (alike_any _ zs p q w HS.out (by rw [HN.out]; omega) (by rw [HN.out]; omega) (by rw [HN.out]; omega))
      have hmn : comI (turnI zs p) (turnI zs q) ≤ N := by
        have := (comI_le (turnI zs p) (turnI zs q)).1
        rw [HXL.out, HN.out] at this; exact this
      obtain ⟨m, HM⟩ : ∃ m, Hid (comI (turnI zs p) (turnI zs q) = m) := ⟨_, rfl⟩
      rw [HM.out] at C0 hmn
      by_cases hm : m = N
      · have HA : Hid (atI zs = p) := HK.out.same (by rw [HN.out]; omega) (com_same (by rw [HXL.out, HYL.out]) (by rw [HM.out, HXL.out, HN.out]; exact hm))
        have hm' : ((m : Int) == (N : Int)) = true := by simp; omega
        clear hm
        go_wp2_with fail
        refine C0.out.mono ?_
        rintro e w1 ⟨rfl, rfl⟩
        go_wp2
        go_ret
        rw [HA.out]
        exact ⟨rfl, rfl⟩
      · have hmN : m < N := by omega
        have hm' : ((m : Int) == (N : Int)) = false := by simp; omega
        have C1 := hide' (turned_any _ zs p m w HS.out (by rw [HN.out]; omega) (by rw [HN.out]; omega) (by rw [HN.out]; omega))
        have C2 := hide' (turned_any _ zs q m w HS.out (by rw [HN.out]; omega) (by rw [HN.out]; omega) (by rw [HN.out]; omega))
        have HB : Hid (∀ k, k < m → (turnI zs p).getD k 0 = (turnI zs q).getD k 0) := fun k hk => com_before k (by rw [HM.out]; exact hk)
        have hne : (turnI zs p).getD m 0 ≠ (turnI zs q).getD m 0 := by
          have := com_at (x := turnI zs p) (y := turnI zs q) (by rw [HM.out, HXL.out, HN.out]; exact hmN) (by rw [HM.out, HYL.out, HN.out]; exact hmN)
          rw [HM.out] at this; exact this
        obtain ⟨x, HX⟩ : ∃ x, Hid ((turnI zs p).getD m 0 = x) := ⟨_, rfl⟩
        obtain ⟨y, HY⟩ : ∃ y, Hid ((turnI zs q).getD m 0 = y) := ⟨_, rfl⟩
        rw [HX.out] at C1 hne
        rw [HY.out] at C2 hne
        clear hm
        by_cases hxy : x < y
        · have HK' : Hid (Seek zs p (q + (m + 1))) := HK.out.less (by rw [HN.out]; omega) (by rw [HN.out]; omega) HB.out (by rw [HX.out, HY.out]; exact hxy)
          clear hne
          go_wp2_with fail
          refine C0.out.mono ?_
          rintro e w1 ⟨rfl, rfl⟩
          go_wp2_with fail
          refine C1.out.mono ?_
          rintro e w2 ⟨rfl, rfl⟩
          go_wp2_with fail
          refine C2.out.mono ?_
          rintro e w3 ⟨rfl, rfl⟩
          go_wp2
          go_round
          case rel => exact ⟨p, q + (m + 1), by omega, by omega, rfl, by go_num, HK'⟩
          case measure => simp [intOf]; omega
        · have hxy' : decide (x < y) = false := by simpa using hxy
          obtain ⟨t, ht⟩ : ∃ t, t = max q (p + m + 1) := ⟨_, rfl⟩
          have HK' : Hid (Seek zs t (t + 1)) := by
            have := HK.out.greater (m := m) (by rw [HN.out]; omega) (by rw [HN.out]; omega) HB.out (by rw [HX.out, HY.out]; omega)
            rw [← ht] at this; exact this
          have htN : t < N := by have := HK'.out.lt (by rw [HN.out]; omega); rw [HN.out] at this; exact this
          have hmax : max (q : Int) ((p : Int) + (m : Int) + 1) = (t : Int) := by omega
          have hqt : q ≤ t := by omega
          clear hne ht hxy
          go_wp2_with fail
          refine C0.out.mono ?_
          rintro e w1 ⟨rfl, rfl⟩
          go_wp2_with fail
          refine C1.out.mono ?_
          rintro e w2 ⟨rfl, rfl⟩
          go_wp2_with fail
          refine C2.out.mono ?_
          rintro e w3 ⟨rfl, rfl⟩
          go_wp2
          go_round
          case rel => exact ⟨t, t + 1, by omega, by omega, rfl, by go_num, HK'⟩
          case measure => simp [intOf]; omega
    · have hlt' : decide ((q : Int) < N) = false := by simp; omega
      have HA : Hid (atI zs = p) := by
        by_cases h0 : 0 < zs.length
        · exact HK.out.done h0 (by rw [HN.out]; omega)
        · have hz : zs = [] := List.length_eq_zero_iff.1 (by omega)
          have h1 := HK.out
          show _ = _
          rw [hz] at h1 ⊢
          rw [atI_nil]
          obtain ⟨k1, k2⟩ := h1
          rw [atI_nil] at k2
          omega
      go_wp2
      go_ret
      rw [HA.out]
      exact ⟨rfl, rfl⟩
end Go.Proofs.Ytjccpkekhjhafaa
