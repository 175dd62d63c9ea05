/- PeriodTimes: the walk. -/
import Derived.Test.YtbfcgfpdgadofaaPerKnown
namespace Go.Proofs.Ytbfcgfpdgadofaa
set_option linter.unusedVariables false
set_option linter.unusedSimpArgs false
open Go.RowKit

theorem times_rep {s : List Int} {n : Nat} (h : 0 < s.length) (hn : 0 < n) : (repI s n).length / rootN (repI s n) = s.length / rootN s * n := by
  obtain ⟨a1, a2, ⟨c, hc⟩, _⟩ := rootN_spec h
  rw [rootN_rep h hn, repI_len]
  have e1 : s.length / rootN s = c := by
    have h1 : rootN s * c / rootN s = c := Nat.mul_div_cancel_left c a1
    rwa [← hc] at h1
  have e2 : n * s.length / rootN s = c * n := by
    have h1 : rootN s * (c * n) / rootN s = c * n := Nat.mul_div_cancel_left _ a1
    rw [← Nat.mul_assoc, ← hc, Nat.mul_comm] at h1
    exact h1
  rw [e1, e2]
theorem root_whole {s : List Int} (h : 0 < s.length) : rootN s * (s.length / rootN s) = s.length := by
  obtain ⟨a1, a2, hd, _⟩ := rootN_spec h
  exact Nat.mul_div_cancel' hd

set_option maxHeartbeats 1000000 in
set_option maxRecDepth 100000 in
theorem lawTimes (v : Value) (zs : List Int) (n : Int) (w : World) (hs : Sl .u8 w v zs) :
    Calls Try.prog 4 #[v, .int .i64 n] w fun e w' => e = .returned (.bool true) ∧ Ext w w' := by
  have HS := hide' hs
  obtain ⟨a, cap, rfl, hm2, hm3, _⟩ := hs
  unfold maxLen at hm3
  by_cases h0 : (zs.length : Int) < 1
  · go_enter Try.func4, Try.ntmps4
    go_wp2
    go_ret
    exact ⟨rfl, Ext.refl _⟩
  have d0 : decide ((zs.length : Int) < 1) = false := by simpa using h0
  by_cases h1 : (30 : Int) < (zs.length : Int)
  · go_enter Try.func4, Try.ntmps4
    go_wp2
    go_ret
    exact ⟨rfl, Ext.refl _⟩
  have d1 : decide ((30 : Int) < (zs.length : Int)) = false := by simpa using h1
  by_cases h2 : n < 1
  · go_enter Try.func4, Try.ntmps4
    go_wp2
    go_ret
    exact ⟨rfl, Ext.refl _⟩
  have d2 : decide (n < 1) = false := by simpa using h2
  by_cases h3 : 8 < n
  · go_enter Try.func4, Try.ntmps4
    go_wp2
    go_ret
    exact ⟨rfl, Ext.refl _⟩
  have d3 : decide (8 < n) = false := by simpa using h3
  obtain ⟨n, rfl⟩ := Int.eq_ofNat_of_zero_le (show 0 ≤ n by omega)
  have l0 : 1 ≤ zs.length := by omega
  have l1 : zs.length ≤ 30 := by omega
  have l2 : 1 ≤ n := by omega
  have l3 : n ≤ 8 := by omega
  clear h0 h1 h2 h3
  have L1 : Hid (zs.length ≤ 1000000) := by show _ ≤ _; omega
  have L2 : Hid ((repI zs n).length ≤ 1000000) := by
    have : n * zs.length ≤ 8 * 30 := Nat.mul_le_mul l3 l1
    show _ ≤ _
    rw [repI_len]; omega
  have HR1 := hide' (root_rep (s := zs) (n := n) (by omega) (by omega))
  have HT1 := hide' (times_rep (s := zs) (n := n) (by omega) (by omega))
  have hW := root_whole (s := zs) (by omega)
  obtain ⟨r1, r2, _, _⟩ := rootN_spec (s := zs) (by omega)
  have HRL : Hid ((zs.take (rootN zs)).length = rootN zs) := by show _ = _; rw [List.length_take]; omega
  have hTl : zs.length / rootN zs ≤ 30 := Nat.le_trans (Nat.div_le_self _ _) l1
  have hTn : zs.length / rootN zs * n ≤ 240 := Nat.mul_le_mul hTl l3
  obtain ⟨T, HT⟩ : ∃ t, Hid (zs.length / rootN zs = t) := ⟨_, rfl⟩
  obtain ⟨R, HR⟩ : ∃ t, Hid (zs.take (rootN zs) = t) := ⟨_, rfl⟩
  rw [HR.out] at HRL HR1
  rw [HT.out] at HT1 hTl hTn hW
  obtain ⟨r, HRR⟩ : ∃ t, Hid (rootN zs = t) := ⟨_, rfl⟩
  rw [HRR.out] at HRL r1 r2 hW
  obtain ⟨K, hK⟩ : ∃ k, T * n = k := ⟨_, rfl⟩
  rw [hK] at HT1 hTn
  have m1 : (T : Int) * (n : Int) = (K : Int) := by rw [← hK, Int.natCast_mul]
  have m2 : (r : Int) * (T : Int) = (zs.length : Int) := by rw [← hW, Int.natCast_mul]
  have q1 : ((K : Int) == (K : Int)) = true := by simp
  have q2 : ((zs.length : Int) == (zs.length : Int)) = true := by simp
  clear hK hW
  go_enter Try.func4, Try.ntmps4
  go_wp2
  go_loopw [5, 6] (fun sv vk wr => ∃ (k : Nat), k ≤ n ∧ vk = .int .i64 k ∧ Hid (Own .u8 5 w.heap.size wr sv (repI zs k)) ∧ Hid (Ext w wr)) (fun _ vk _ => n - (intOf vk).toNat)
  case atStart => exact ⟨0, Nat.zero_le _, rfl, Own.nil _ _ _ _, Ext.refl _⟩
  case round =>
    obtain ⟨k, hk, rfl, HO, HE⟩ := hrel
    by_cases hlt : k < n
    · have hlt' : (k : Int) < n := by omega
      have HL : Hid ((repI zs k).length + zs.length ≤ 240) := by
        have h1 : (k + 1) * zs.length ≤ 8 * 30 := Nat.mul_le_mul (by omega) l1
        rw [Nat.succ_mul] at h1
        show _ ≤ _
        rw [repI_len]; omega
      go_wp2_with (at_builtin; refine wpList_join _ rfl _ _ 22 rfl 5 .u8 1 Try.underlying22 infoU8 w.heap.size _ _ (repI zs k) zs rfl rfl HO.out (HS.out.ext HE.out) ?c1 HE.out.size ?_)
      case c1 => have := HL.out; unfold maxLen; omega
      intro v1 w1 ho1 hb1
      rw [← repI_succ] at ho1
      have HO1 := hide' ho1
      have HE1 := hide' (Below.trans HE.out hb1)
      clear ho1 hb1
      go_wp2
      go_roundw
      case rel => exact ⟨k + 1, by omega, by go_num, HO1, HE1⟩
      case measure => simp [intOf]; omega
    · have hlt' : (n : Int) ≤ k := by omega
      have hkn : k = n := by omega
      subst hkn
      have HSl := hide' HO.out.sl
      go_wp2_with fail
      refine (root_any _ zs wr (HS.out.ext HE.out) L1.out).mono ?_
      rw [HT.out, HR.out]
      rintro e w1 ⟨s1, rfl, ho, he⟩
      obtain ⟨g, cap1, rfl, _, hc1, hc2⟩ := ho.shape (fun h => by have := HRL.out; rw [h] at this; simp at this; omega)
      have H1 := hide' ho.sl
      rw [HRL.out] at H1 hc1 ⊢
      have X1 := hide' he
      unfold maxLen at hc2
      clear ho he
      go_wp2_with fail
      refine (root_any _ (repI zs k) w1 (HSl.out.ext X1.out) L2.out).mono ?_
      rw [HT1.out, HR1.out]
      rintro e w2 ⟨s2, rfl, ho, he⟩
      have H2 := hide' ho.sl
      have Y2 := hide' ((HE.out.trans X1.out).trans he)
      have hq : ((strOfNums R).toList == (strOfNums R).toList) = true := by simp
      have st1 := (H1.out.ext he).str (P := Try.prog) 22 5 9 Try.underlying22 Try.underlying5 Try.underlying9
      have st2 := (H2.out).str (P := Try.prog) 22 5 9 Try.underlying22 Try.underlying5 Try.underlying9
      clear ho he
      go_wp2_with fail
      refine (known_any _).mono ?_
      rintro e w3 ⟨rfl, he⟩
      have Y3 := hide' (Y2.out.trans he)
      clear he st1 st2
      go_wp2
      go_ret
      exact ⟨rfl, Y3.out⟩
end Go.Proofs.Ytbfcgfpdgadofaa
