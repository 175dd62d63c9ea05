/- Contract of double.ranksBySize. -/
import Derived.Test.YtimhkmnohkbniaaDbSort
import Derived.Test.YtimhkmnohkbniaaDbSmall
namespace Go.Proofs.Ytimhkmnohkbniaa
set_option linter.unusedVariables false
set_option linter.unusedSimpArgs false
open Go.RowKit

theorem srt_count (s : List Int) (x : Int) : (srtI s).countP (fun z => decide (z < x)) = lsN s x s.length := by
  rw [(srtI_perm s).countP_eq, lsN_count]

set_option maxHeartbeats 1000000 in
theorem ranksSize_any (v : Value) (s : List Int) (w : World) (hv : Sl .i64 w v s) (hlen : s.length ≤ 200000) :
    Calls Try.prog 25 #[v] w fun e w' => ∃ u, e = .returned u ∧ Own .i64 3 w.heap.size w' u (natL (hrL s 1)) ∧ Ext w w' := by
  have HV := hide' hv
  have HC := hide' (cloneI_any v s w hv (by omega))
  obtain ⟨a, c, rfl, _⟩ := id hv
  obtain ⟨zs, HZS⟩ : ∃ zs, Hid (natL (hrL s 1) = zs) := ⟨_, rfl⟩
  have HZL : Hid (zs.length = s.length) := by show _ = _; rw [← HZS.out, natL_len, hrL_len]
  have HAT : Hid (∀ i, i < s.length → zs.getD i 0 = (lsN s (s.getD i 0) s.length : Int)) := fun i hi => by rw [← HZS.out, natL_at, hrL_at hi, hrI_one hi]
  rw [HZS.out]
  have HSR : Hid (∀ sv x W, Sl .i64 W sv (srtI s) → Calls Try.prog 37 #[sv, .int .i64 x] W fun e w' => ∃ b, e = .returned (.tuple #[.int .i64 (lsN s x s.length : Int), .bool b]) ∧ ∃ m, w' = W.drewN m) := fun sv x W h => by
    have := searchI_any sv (srtI s) x W h (by rw [srtI_len]; omega) (srtI_sorted s)
    rwa [srt_count] at this
  have HSO : Hid (∀ B sv W, Own .i64 3 B W sv s → B ≤ W.heap.size → Calls Try.prog 36 #[sv] W fun e w' => e = .returned (.tuple #[]) ∧ Sl .i64 w' sv (srtI s) ∧ Below B W w') := fun B sv W h1 h2 => sortI_any B sv s W h1 (by omega) h2
  obtain ⟨n, HN⟩ : ∃ n, Hid (s.length = n) := ⟨_, rfl⟩
  rw [HN.out] at HV HC HAT HZL HSR hlen ⊢
  clear hv
  go_enter Try.func25, Try.ntmps25
  go_wp2_with fail
  refine HC.out.mono ?_
  rintro e w1 ⟨sv, rfl, ho, he⟩
  have O1 := hide' ho
  have X1 := hide' he
  have hz1 := he.size
  clear ho he HC
  go_wp2_with fail
  refine (HSO.out _ sv w1 O1.out hz1).mono ?_
  rintro e w2 ⟨rfl, hs2, hb2⟩
  have S2 := hide' hs2
  have X2 : Hid (Ext w w2) := Below.trans X1.out hb2
  have hz2 := X2.out.size
  clear hs2 hb2 O1 X1
  obtain ⟨_, _, _, kv⟩ := HV.out.int
  have CV := hide' kv
  clear kv
  obtain ⟨w3, hmk, ho, he⟩ := make_ints w2 n (by omega)
  obtain ⟨g, HG⟩ : ∃ g, Hid (w2.heap.size = g) := ⟨_, rfl⟩
  have hgw : w2.heap.size ≤ g := by rw [HG.out]; exact Nat.le_refl _
  have hgw0 : w.heap.size ≤ g := by rw [← HG.out]; exact hz2
  rw [HG.out] at ho hmk
  have O1 := hide' ho
  have X1 := hide' he
  have H0 : Hid (HalfI zs 0 (List.replicate n 0)) := by show HalfI _ _ _; rw [← HZL.out]; exact HalfI.start zs
  clear ho he
  go_wp2
  go_loopw [16] (fun vi wr => ∃ (i : Nat) (r : List Int), i ≤ n ∧ vi = .int .i64 i ∧ Hid (HalfI zs i r) ∧ Hid (Own .i64 3 g wr (.slice (some ⟨g, 0, none⟩) n n) r) ∧ Hid (Ext w2 wr)) (fun vi _ => n - (intOf vi).toNat)
  case atStart => exact ⟨0, _, Nat.zero_le _, rfl, H0, O1, X1⟩
  case round =>
    clear O1 X1 H0 hmk
    obtain ⟨i, r, hi, rfl, HH, HO, HE⟩ := hrel
    have HRL : Hid (r.length = n) := by show _ = _; rw [HH.out.len, HZL.out]
    by_cases hlt : i < n
    · have hlt' : (i : Int) < n := by omega
      have H1 := hide' (HH.out.next (by rw [HZL.out]; exact hlt))
      have HI := hide' (HAT.out i hlt)
      rw [HI.out] at H1
      obtain ⟨g1, o1, rfl, k1⟩ := CV.out (by omega)
      have c1 := HE.out.cellOf (X2.out.cellOf (k1 i hlt))
      obtain ⟨z, HZ⟩ : ∃ z, Hid (s.getD i 0 = z) := ⟨_, rfl⟩
      rw [HZ.out] at c1 H1
      have HSi := hide' (HSR.out sv z wr (S2.out.ext HE.out))
      obtain ⟨x, HX⟩ : ∃ x, Hid (lsN s z n = x) := ⟨_, rfl⟩
      rw [HX.out] at H1 HSi
      clear k1 HH
      go_wp2_with fail
      refine HSi.out.mono ?_
      rintro e w4 ⟨b4, rfl, m4, hm4⟩
      have X4 : Hid (Ext wr w4) := by show Ext _ _; rw [hm4]; exact Ext.drewN _ _
      have HO4 := hide' (HO.out.ext X4.out)
      have HE4 := hide' (HE.out.trans X4.out)
      have c3 := HO4.out.cell HRL.out i hlt
      have z3 := HO4.out.frozen HRL.out i
      have O6 := hide' (HO4.out.store HRL.out i (x : Int))
      have X6 : Hid (Ext w2 (w4.setCell ⟨g, i, none⟩ (.int .i64 (x : Int)))) := Ext.but HE4.out hgw (but_set _ _ _ _)
      clear HO HE HSi hm4 X4 HO4 HE4 c1
      go_wp2_with fail
      go_roundw
      case rel => exact ⟨i + 1, _, by omega, by go_num, H1, O6, X6⟩
      case measure => simp [intOf] <;> omega
    · have d2 : decide ((i : Int) < n) = false := by simp; omega
      have hin : n = i := by omega
      have HD : Hid (r = zs) := by
        show _ = _
        have := HH.out
        rw [← hin, ← HZL.out] at this
        exact this.done
      go_wp2
      go_ret
      refine ⟨_, rfl, ?_, X2.out.trans HE.out⟩
      rw [← HD.out]
      exact HO.out.low hgw0
end Go.Proofs.Ytimhkmnohkbniaa
