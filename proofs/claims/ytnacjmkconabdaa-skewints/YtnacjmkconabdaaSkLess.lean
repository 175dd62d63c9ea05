/- Contract of skew.less: an ending of the sample against one of the rest. -/
import Derived.Test.YtnacjmkconabdaaSkMath
import Derived.Test.YtnacjmkconabdaaNatRow
namespace Go.Proofs.Ytnacjmkconabdaa
set_option linter.unusedVariables false
set_option linter.unusedSimpArgs false
open Go.RowKit

/-- Which places are compared. -/
def Comp (n a b : Nat) : Prop := a ≤ n ∧ b ≤ n ∧ a ≠ b ∧ ((b % 3 = 0 ∧ a % 3 ≠ 0) ∨ (b % 3 = 1 ∧ a % 3 = 0))
theorem Comp.other {s : List Int} (hs : NonNeg s) {a b : Nat} (h : Comp s.length a b) (hne : padI s a ≠ padI s b) : decide (padI s a < padI s b) = ltB s a b := by
  obtain ⟨h1, h2, h3, h4⟩ := h
  refine ltB_eq ?_
  rw [pad_iff hs (show a < s.length ∨ b < s.length by omega)]
  exact ⟨fun g => .inl g, fun g => by rcases g with g | g; exact g; exact absurd g.1 hne⟩
theorem Comp.same {s : List Int} (hs : NonNeg s) {a b : Nat} (h : Comp s.length a b) (he : padI s a = padI s b) : a < s.length ∧ b < s.length ∧ ltB s a b = ltB s (a + 1) (b + 1) := by
  obtain ⟨h1, h2, h3, h4⟩ := h
  have ha : a < s.length := by
    apply Nat.lt_of_not_le
    intro hle
    rw [padI_out hle] at he
    have h5 : ¬ 0 < padI s b := by omega
    rw [padI_pos hs] at h5
    omega
  obtain ⟨hb, he2⟩ := pad_same hs ha he
  exact ⟨ha, hb, ltB_same he2⟩
theorem Comp.stop {s : List Int} {G : List Nat} {L : Nat} {r : List Int} (hr : RankT G L G.length r) (hG : InSamp s G) {a b : Nat} (h : Comp s.length a b) (ha : a < s.length) (hb : b < s.length) (h3 : (a + 1) % 3 ≠ 0 ∧ (b + 1) % 3 ≠ 0) : decide (r.getD (a + 1) 0 < r.getD (b + 1) 0) = ltB s (a + 1) (b + 1) := by
  obtain ⟨h1, h2, h4, h5⟩ := h
  exact ltB_eq (rank_iff hr hG (by omega) (by omega) (by omega) h3.1 h3.2)
theorem Comp.next {n a b : Nat} (h : Comp n a b) (ha : a < n) (hb : b < n) (h3 : ¬ ((a + 1) % 3 ≠ 0 ∧ (b + 1) % 3 ≠ 0)) : Comp n (a + 1) (b + 1) ∧ b % 3 = 0 ∧ (a + 1) % 3 = 0 := by
  obtain ⟨h1, h2, h4, h5⟩ := h
  refine ⟨⟨by omega, by omega, by omega, by omega⟩, by omega, by omega⟩

set_option maxHeartbeats 1000000 in
theorem less_any (sv rv : Value) (s r : List Int) (G : List Nat) (a b : Nat) (w : World) (hs : Sl .i64 w sv (tailI s)) (hrv : Sl .i64 w rv r) (hnn : NonNeg s) (hr : RankT G (s.length + 3) G.length r) (hG : InSamp s G) (hc : Comp s.length a b) (hlen : s.length ≤ 200000) :
    Calls Try.prog 35 #[sv, rv, .int .i64 a, .int .i64 b] w fun e w' => e = .returned (.bool (ltB s a b)) ∧ ∃ m, w' = w.drewN m := by
  have HNN := hide' hnn
  have HR := hide' hr
  have HG := hide' hG
  have HC := hide' hc
  have HTL := hide' (tailI_len s)
  have HRL := hide' hr.len
  obtain ⟨va, vc, rfl, _⟩ := id hs
  obtain ⟨ra, rc, rfl, _⟩ := id hrv
  rw [HTL.out] at hs ⊢
  rw [HRL.out] at hrv ⊢
  obtain ⟨_, _, _, k1⟩ := hs.int
  obtain ⟨_, _, _, k2⟩ := hrv.int
  obtain ⟨n, HN⟩ : ∃ n, Hid (s.length = n) := ⟨_, rfl⟩
  rw [HN.out] at hlen HTL HRL HC k1 k2 ⊢
  obtain ⟨g1, o1, rfl, kk1⟩ := k1 (by omega)
  obtain ⟨g2, o2, rfl, kk2⟩ := k2 (by omega)
  have K1 : Hid (∀ i, i ≤ n → w.cell? ⟨g1, o1 + i, none⟩ = some (.int .i64 (padI s i))) := fun i hi => by
    have := kk1 i (by omega)
    rw [tailI_at] at this
    exact this
  have K2 : Hid (∀ i, i ≤ n → w.cell? ⟨g2, o2 + i, none⟩ = some (.int .i64 (r.getD i 0))) := fun i hi => kk2 i (by omega)
  obtain ⟨L, HL⟩ : ∃ L, Hid (n + 3 = L) := ⟨_, rfl⟩
  have hL : L ≤ 200003 := by rw [← HL.out]; omega
  have hnL : n + 3 ≤ L := by rw [← HL.out]; exact Nat.le_refl _
  rw [HL.out]
  obtain ⟨D, HD⟩ : ∃ D, Hid (ltB s a b = D) := ⟨_, rfl⟩
  rw [HD.out]
  have ha0 : a ≤ n := HC.out.1
  have hb0 : b ≤ n := HC.out.2.1
  clear hs hrv kk1 kk2 hnn hr hG hc
  go_enter Try.func35, Try.ntmps35
  go_wp2
  go_loopw [2, 3] (fun va vb wr => ∃ (a b : Nat), a ≤ n ∧ b ≤ n ∧ va = .int .i64 a ∧ vb = .int .i64 b ∧ Hid (Comp s.length a b) ∧ Hid (ltB s a b = D) ∧ ∃ m, wr = w.drewN m) (fun _ vb _ => 1 - (intOf vb).toNat % 3)
  case atStart => exact ⟨a, b, ha0, hb0, rfl, rfl, (show Comp _ _ _ by rw [HN.out]; exact HC.out), HD, 0, rfl⟩
  case round =>
    clear HC HD ha0 hb0
    obtain ⟨a, b, ha, hb, rfl, rfl, HC, HD, m, rfl⟩ := hrel
    have c1 := K1.out a ha
    have c2 := K1.out b hb
    have hne := HC.out.2.2.1
    have HOT := hide' (fun h => HC.out.other HNN.out h)
    have HSA := hide' (fun h => HC.out.same HNN.out h)
    obtain ⟨x, HX⟩ : ∃ x, Hid (padI s a = x) := ⟨_, rfl⟩
    obtain ⟨y, HY⟩ : ∃ x, Hid (padI s b = x) := ⟨_, rfl⟩
    rw [HX.out] at c1 HOT HSA
    rw [HY.out] at c2 HOT HSA
    have haL : (a : Int) < L := by omega
    have hbL : (b : Int) < L := by omega
    by_cases hxy : x = y
    · have d1 : (x != y) = false := by simp [hxy]
      obtain ⟨q1, q2, q3⟩ := HSA.out hxy
      rw [HN.out] at q1 q2
      have HD1 : Hid (ltB s (a + 1) (b + 1) = D) := by show _ = _; rw [← q3]; exact HD.out
      have m1 : ((a : Int) + 1).tmod 3 = (((a + 1) % 3 : Nat) : Int) := by rw [Int.tmod_eq_emod_of_nonneg (by omega)]; omega
      have m2 : ((b : Int) + 1).tmod 3 = (((b + 1) % 3 : Nat) : Int) := by rw [Int.tmod_eq_emod_of_nonneg (by omega)]; omega
      have c3 := K2.out (a + 1) (by omega)
      have c4 := K2.out (b + 1) (by omega)
      have HST := hide' (fun h => HC.out.stop HR.out HG.out (by rw [HN.out]; exact q1) (by rw [HN.out]; exact q2) h)
      have HNX := hide' (fun h => HC.out.next (by rw [HN.out]; exact q1) (by rw [HN.out]; exact q2) h)
      rw [HD1.out] at HST
      have e1 : ((a : Int) + 1) = ((a + 1 : Nat) : Int) := by omega
      have e2 : ((b : Int) + 1) = ((b + 1 : Nat) : Int) := by omega
      obtain ⟨A, hA⟩ : ∃ A, a + 1 = A := ⟨_, rfl⟩
      obtain ⟨B, hB⟩ : ∃ A, b + 1 = A := ⟨_, rfl⟩
      obtain ⟨ma, HMA⟩ : ∃ x, Hid (A % 3 = x) := ⟨_, rfl⟩
      obtain ⟨mb, HMB⟩ : ∃ x, Hid (B % 3 = x) := ⟨_, rfl⟩
      rw [hA] at e1 c3 m1 HST HD1 HNX
      rw [hB] at e2 c4 m2 HST HD1 HNX
      rw [e1] at m1
      rw [e2] at m2
      rw [HMA.out] at m1 HST HNX
      rw [HMB.out] at m2 HST HNX
      have hAn : A ≤ n := by omega
      have hBn : B ≤ n := by omega
      have HAA := hide' hA
      have HBB := hide' hB
      clear q1 q2 q3 hA hB HOT HSA
      subst hxy
      by_cases h3 : ma ≠ 0 ∧ mb ≠ 0
      · have t1 : ((ma : Int) != 0) = true := by simp; exact h3.1
        have t2 : ((mb : Int) != 0) = true := by simp; exact h3.2
        have HS := hide' (HST.out h3)
        obtain ⟨z1, HZ1⟩ : ∃ x, Hid (r.getD A 0 = x) := ⟨_, rfl⟩
        obtain ⟨z2, HZ2⟩ : ∃ x, Hid (r.getD B 0 = x) := ⟨_, rfl⟩
        rw [HZ1.out] at c3 HS
        rw [HZ2.out] at c4 HS
        have hAL : (A : Int) < L := by omega
        have hBL : (B : Int) < L := by omega
        clear h3 HST HNX
        go_wp2_with fail
        go_quiet (fail)
        go_wp2_with fail
        go_quiet (fail)
        go_wp2
        go_ret
        rw [HS.out]
        exact ⟨rfl, _, by first | exact World.drewN_drewN _ _ _ | rfl | (rw [World.drewN_drewN]; exact World.drewN_drewN _ _ _)⟩
      · obtain ⟨hc1, hc2, hc3⟩ := HNX.out h3
        have HC1 : Hid (Comp s.length A B) := hc1
        have hma : ma = 0 := hc3
        have hb3 : b % 3 = 0 := hc2
        have t1 : ((ma : Int) != 0) = false := by simp; exact hma
        have HMM : Hid (B % 3 = 1 ∧ b % 3 = 0) := by
          show _ ∧ _
          have := HBB.out
          omega
        clear h3 HST HNX hc1 hc2 hc3 hma hb3 HMA HMB
        go_wp2_with fail
        go_quiet (fail)
        go_wp2
        go_roundw
        case rel => exact ⟨A, B, hAn, hBn, by go_num, by go_num, HC1, HD1, _, by first | exact World.drewN_drewN _ _ _ | rfl | (rw [World.drewN_drewN]; exact World.drewN_drewN _ _ _)⟩
        case measure =>
          have := HMM.out
          simp [intOf] <;> omega
    · have d1 : (x != y) = true := by simpa using hxy
      have d2 : (x == y) = false := by simpa using hxy
      have HS := hide' (HOT.out hxy)
      rw [HD.out] at HS
      clear hxy HOT HSA
      go_wp2_with fail
      go_quiet (fail)
      go_wp2_with fail
      go_quiet (fail)
      go_wp2
      go_ret
      rw [HS.out]
      exact ⟨rfl, _, by first | exact World.drewN_drewN _ _ _ | rfl | (rw [World.drewN_drewN]; exact World.drewN_drewN _ _ _)⟩
end Go.Proofs.Ytnacjmkconabdaa
