/- Contracts of the document's own Least and Root. -/
import Derived.Test.YtjccpkekhjhafaaPerMath
import Derived.Test.YtjccpkekhjhafaaByt
import Derived.Test.YtjccpkekhjhafaaKripTail
namespace Go.Proofs.Ytjccpkekhjhafaa
set_option linter.unusedVariables false
set_option linter.unusedSimpArgs false
open Go.RowKit

theorem per_iff {s : List Int} {p : Nat} (hp : p ≤ s.length) : s.drop p = s.take (s.length - p) ↔ Per s s.length p := by
  have h := bord_iff (s := s) (n := s.length) (k := s.length - p) (by omega) (Nat.le_refl _)
  rw [List.take_length, show s.length - (s.length - p) = p by omega] at h
  exact ⟨fun e => h.1 e.symm, fun e => (h.2 e).symm⟩

set_option maxHeartbeats 800000 in
theorem rleast_any (v : Value) (zs : List Int) (w : World) (hs : Sl .u8 w v zs) (hb : Bytes8 zs) (hlen : zs.length ≤ 1000000) :
    Calls Try.prog 28 #[v] w fun e w' => e = .returned (.int .i64 (leastI zs : Int)) ∧ ∃ m, w' = w.drewN m := by
  have HS := hide' hs
  have HB := hide' hb
  obtain ⟨a, c, rfl, h2, h3, _⟩ := hs
  unfold maxLen at h3
  clear hb
  obtain ⟨L, hL⟩ : ∃ n, zs.length = n := ⟨_, rfl⟩
  have HL := hide' hL
  rw [hL] at HS h2 hlen ⊢
  clear hL
  go_enter Try.func28, Try.ntmps28
  go_wp2
  go_loopw [3] (fun vp wr => ∃ (p : Nat), 1 ≤ p ∧ p ≤ L + 1 ∧ vp = .int .i64 p ∧ Hid (∀ d, 1 ≤ d → d < p → ¬ Per zs L d) ∧ ∃ m, wr = w.drewN m) (fun vp _ => L + 1 - (intOf vp).toNat)
  case atStart => exact ⟨1, Nat.le_refl _, by omega, rfl, (show ∀ d, 1 ≤ d → d < 1 → ¬ Per zs L d from fun d h1 h2 => by omega), 0, rfl⟩
  case round =>
    obtain ⟨p, hp1, hp2, rfl, HD, m, rfl⟩ := hrel
    by_cases hlt : p ≤ L
    · have hlt' : (p : Int) ≤ L := by omega
      obtain ⟨a1, t1, s1, _⟩ := HS.out.runDrop (P := Try.prog) 31 5 Try.underlying31 size8 p (by rw [HL.out]; omega)
      obtain ⟨t2, s2⟩ := HS.out.runTake (P := Try.prog) 31 5 Try.underlying31 size8 (L - p) (by rw [HL.out]; omega)
      have hsub : (L : Int) - (p : Int) = ((L - p : Nat) : Int) := by omega
      have hq1 := s1.strN (P := Try.prog) 31 5 9 Try.underlying31 Try.underlying5 Try.underlying9
      have hq2 := s2.strN (P := Try.prog) 31 5 9 Try.underlying31 Try.underlying5 Try.underlying9
      have hE0 := strOfNums_inj (xs := zs.drop p) (ys := zs.take (L - p)) (HB.out.drop p) (HB.out.takeN _)
      have hI := per_iff (s := zs) (p := p) (by rw [HL.out]; omega)
      rw [HL.out] at hI
      clear s1 s2
      obtain ⟨J, hJ⟩ : ∃ j, L - p = j := ⟨_, rfl⟩
      rw [hJ] at hsub t2 hq2 hE0 hI t1 hq1
      obtain ⟨d3, hd3⟩ : ∃ j, c - p = j := ⟨_, rfl⟩
      rw [hd3] at t1 hq1
      obtain ⟨X, hX⟩ : ∃ x, zs.drop p = x := ⟨_, rfl⟩
      obtain ⟨Y, hY⟩ : ∃ x, zs.take J = x := ⟨_, rfl⟩
      rw [hX] at hq1 hE0 hI
      rw [hY] at hq2 hE0 hI
      by_cases hxy : X = Y
      · have hE : ((strOfNums X).toList == (strOfNums Y).toList) = true := by rw [hE0, decide_eq_true hxy]
        have HF : Hid (leastI zs = p) := leastI_eq (by rw [HL.out]; omega) hp1 (by rw [HL.out]; exact hI.1 hxy) (fun d h1 h2 => by rw [HL.out]; exact HD.out d h1 h2)
        clear hE0 hI hX hY hxy hd3 hJ
        go_wp2_with fail
        go_quiet (fail)
        clear t1 t2 hq1 hq2 hE
        go_wp2
        go_ret
        rw [HF.out]
        exact ⟨rfl, _, by first | rfl | rw [World.drewN_drewN]⟩
      · have hE : ((strOfNums X).toList == (strOfNums Y).toList) = false := by rw [hE0, decide_eq_false hxy]
        have HD2 : Hid (∀ d, 1 ≤ d → d < p + 1 → ¬ Per zs L d) := fun d h1 h2 hp => by
          by_cases hdp : d = p
          · subst hdp; exact hxy (hI.2 hp)
          · exact HD.out d h1 (by omega) hp
        clear hE0 hI hX hY hxy hd3 hJ
        go_wp2_with fail
        go_quiet (fail)
        clear t1 t2 hq1 hq2 hE
        go_wp2
        go_roundw
        case rel => exact ⟨p + 1, by omega, by omega, by go_num, HD2, _, rfl⟩
        case measure => simp [intOf]; omega
    · have hlt' : decide ((p : Int) ≤ L) = false := by simp; omega
      have HF : Hid (leastI zs = 0) := by
        show _ = _
        by_cases h0 : L = 0
        · unfold leastI; rw [HL.out]; omega
        · exact absurd (fun i hi => by omega) (HD.out L (by omega) (by omega))
      go_wp2
      go_ret
      rw [HF.out]
      exact ⟨rfl, _, rfl⟩

set_option maxHeartbeats 400000 in
theorem rroot_all (v : Value) (zs : List Int) (w : World) (hs : Sl .u8 w v zs) (hb : Bytes8 zs) (hlen : zs.length ≤ 1000000) :
    Calls Try.prog 19 #[v] w fun e w' => ∃ s, e = .returned (.tuple #[s, .int .i64 ((zs.length / rootN zs : Nat) : Int)]) ∧ (∀ W, Sl .u8 W v zs → Sl .u8 W s (zs.take (rootN zs))) ∧ ∃ m, w' = w.drewN m := by
  have HS := hide' hs
  have HB := hide' hb
  obtain ⟨a, c, rfl, h2, h3, _⟩ := hs
  unfold maxLen at h3
  clear hb
  by_cases h0 : zs.length = 0
  · have hz : zs = [] := List.length_eq_zero_iff.1 h0
    subst hz
    rw [rootN_nil]
    have HF : Hid (leastI [] = 0) := rfl
    go_enter Try.func19, Try.ntmps19
    go_wp2_with fail
    refine (rleast_any _ [] w HS.out HB.out (by simp)).mono ?_
    rw [HF.out]
    rintro e w1 ⟨rfl, m, rfl⟩
    go_wp2
    go_ret2
    exact ⟨_, rfl, fun W _ => (Own.nil .u8 5 0 _).sl, _, rfl⟩
  · obtain ⟨p1, p2, _, _⟩ := leastI_spec (s := zs) (by omega)
    obtain ⟨r1, r2, _, _⟩ := rootN_spec (s := zs) (by omega)
    have L1 := hide' hlen
    have HR : Hid (rootN zs = if zs.length % leastI zs = 0 then leastI zs else zs.length) := rfl
    obtain ⟨p, HP⟩ : ∃ p, Hid (leastI zs = p) := ⟨_, rfl⟩
    obtain ⟨r, HRR⟩ : ∃ r, Hid (rootN zs = r) := ⟨_, rfl⟩
    rw [HP.out] at p1 p2 HR
    rw [HRR.out] at r1 r2 HR ⊢
    obtain ⟨N, HN⟩ : ∃ n, Hid (zs.length = n) := ⟨_, rfl⟩
    rw [HN.out] at p2 HR r2 h2 hlen ⊢
    rw [HN.out] at HS
    clear h0
    have hm1 : (N : Int).tmod (p : Int) = ((N % p : Nat) : Int) := by rw [Int.tmod_eq_emod_of_nonneg (by omega)]; simp
    have hm2 : (N : Int) % (p : Int) = ((N % p : Nat) : Int) := by simp
    have hd1 : (N : Int).tdiv (r : Int) = ((N / r : Nat) : Int) := by rw [Int.tdiv_eq_ediv_of_nonneg (by omega)]; simp
    have hd2 : (N : Int) / (r : Int) = ((N / r : Nat) : Int) := by simp
    have hdl : N / r ≤ N := Nat.div_le_self _ _
    have hml : N % p < p := Nat.mod_lt _ (by omega)
    obtain ⟨q, HQ⟩ : ∃ q, Hid (N / r = q) := ⟨_, rfl⟩
    obtain ⟨x, HX⟩ : ∃ x, Hid (N % p = x) := ⟨_, rfl⟩
    rw [HQ.out] at hd1 hd2 hdl ⊢
    rw [HX.out] at hm1 hm2 HR hml
    obtain ⟨t1, _⟩ := HS.out.runTake (P := Try.prog) 31 5 Try.underlying31 size8 r (by rw [HN.out]; exact r2)
    have T2 : Hid (∀ W, Sl .u8 W (.slice a N c) zs → Sl .u8 W (.slice a r c) (zs.take r)) := fun W hW => (hW.runTake (P := Try.prog) 31 5 Try.underlying31 size8 r (by rw [HN.out]; exact r2)).2
    have pne : (p : Int) ≠ 0 := by omega
    have rne : (r : Int) ≠ 0 := by omega
    have pq : ((p : Int) == 0) = false := by simpa using pne
    go_enter Try.func19, Try.ntmps19
    go_wp2_with fail
    refine (rleast_any _ zs w HS.out HB.out L1.out).mono ?_
    rw [HP.out]
    rintro e w1 ⟨rfl, m, rfl⟩
    by_cases hx : x = 0
    · have hr : r = p := by rw [HR.out, if_pos hx]
      have dx : ((x : Int) == 0) = true := by simp; exact hx
      clear hx
      subst hr
      go_wp2_with fail
      go_quiet (fail)
      clear t1
      go_wp2
      go_ret2
      exact ⟨_, rfl, T2.out, _, by first | rfl | rw [World.drewN_drewN]⟩
    · have hr : r = N := by rw [HR.out, if_neg hx]
      have dx : ((x : Int) == 0) = false := by simp; exact hx
      clear hx
      subst hr
      go_wp2_with fail
      go_quiet (fail)
      clear t1
      go_wp2
      go_ret2
      exact ⟨_, rfl, T2.out, _, by first | rfl | rw [World.drewN_drewN]⟩
/-- What it hands back, read in the world behind it. -/
theorem rroot_any (v : Value) (zs : List Int) (w : World) (hs : Sl .u8 w v zs) (hb : Bytes8 zs) (hlen : zs.length ≤ 1000000) :
    Calls Try.prog 19 #[v] w fun e w' => ∃ s, e = .returned (.tuple #[s, .int .i64 ((zs.length / rootN zs : Nat) : Int)]) ∧ Sl .u8 w' s (zs.take (rootN zs)) ∧ ∃ m, w' = w.drewN m :=
  (rroot_all v zs w hs hb hlen).mono fun e w' ⟨s, h1, h2, m, h3⟩ => ⟨s, h1, h2 _ (by rw [h3]; exact hs.drewN m), m, h3⟩
end Go.Proofs.Ytjccpkekhjhafaa
