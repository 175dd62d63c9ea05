/- BijRuns: the walk. -/
import Derived.Test.YtinnfcjkgddfeaaBjBothLaw
import Derived.Test.YtinnfcjkgddfeaaPart4
namespace Go.Proofs.Ytinnfcjkgddfeaa
set_option linter.unusedVariables false
set_option linter.unusedSimpArgs false
open Go.RowKit

set_option maxHeartbeats 2000000 in
theorem lawRuns (n c : Int) (w : World) (hc : 0 ≤ c ∧ c ≤ 255) :
    Calls Try.prog 7 #[.int .i64 n, .int .u8 c] w fun e w' => e = .returned (.bool true) ∧ Ext w w' := by
  by_cases h1 : n < 0
  · go_enter Try.func7, Try.ntmps7
    go_wp2
    go_ret
    exact ⟨rfl, Ext.refl _⟩
  have d1 : decide (n < 0) = false := by simpa using h1
  by_cases h2 : (60 : Int) < n
  · go_enter Try.func7, Try.ntmps7
    go_wp2
    go_ret
    exact ⟨rfl, Ext.refl _⟩
  obtain ⟨n, rfl⟩ := Int.eq_ofNat_of_zero_le (show 0 ≤ n by omega)
  have d2 : decide ((60 : Int) < (n : Int)) = false := by simpa using h2
  have hn : n ≤ 60 := by omega
  have HC := hide' hc
  clear h1 h2 hc
  obtain ⟨w1, hmk, ho, he⟩ := make_bytes w n (by omega)
  have HO : Hid (Own .u8 5 w.heap.size w1 (.slice (some ⟨w.heap.size, 0, none⟩) n n) (laidC n 0 c)) := by
    show Own _ _ _ _ _ _
    rw [show laidC n 0 c = List.replicate n 0 by simp [laidC]]
    exact ho
  have HE := hide' he
  clear ho he
  obtain ⟨g, HG⟩ : ∃ g, Hid (w.heap.size = g) := ⟨_, rfl⟩
  go_enter Try.func7, Try.ntmps7
  go_wp2
  clear hmk
  rw [HG.out] at HO ⊢
  go_loopw [6] (fun vi wr => ∃ (i : Nat), i ≤ n ∧ vi = .int .i64 i ∧ Hid (Own .u8 5 g wr (.slice (some ⟨g, 0, none⟩) n n) (laidC n i c)) ∧ Hid (Ext w wr)) (fun vi _ => n - (intOf vi).toNat)
  case atStart => exact ⟨0, Nat.zero_le _, rfl, HO, HE⟩
  case round =>
    clear HO HE
    obtain ⟨i, hi, rfl, HO, HE⟩ := hrel
    by_cases hlt : i < n
    · have hlt' : (i : Int) < n := by omega
      have hfz := HO.out.frozen (laidC_len c hi) i
      have hci := HO.out.cell (laidC_len c hi) i hlt
      have ho2 := HO.out.store (laidC_len c hi) i c
      rw [laidC_set hlt] at ho2
      have HO2 := hide' ho2
      have hwg : w.heap.size ≤ g := by rw [HG.out]; exact Nat.le_refl _
      have HE2 := hide' (Ext.but HE.out hwg (but_set wr g i (.int .u8 c)))
      clear ho2 hwg
      go_wp2
      go_roundw
      case rel => exact ⟨i + 1, by omega, by go_num, HO2, HE2⟩
      case measure => simp [intOf]; omega
    · have hlt' : decide ((i : Int) < n) = false := by simp; omega
      have hin : i = n := by omega
      have HS : Hid (Sl .u8 wr (.slice (some ⟨g, 0, none⟩) n n) (List.replicate n c)) := by
        show Sl _ _ _ _
        rw [← laidC_all, ← hin]
        have := HO.out.sl
        rw [hin] at this ⊢
        exact this
      obtain ⟨S, HSS⟩ : ∃ S, Hid (List.replicate n c = S) := ⟨_, rfl⟩
      have H8 : Hid (Bytes8 S) := by rw [← HSS.out]; exact bjRep_bytes HC.out
      have HL : Hid (S.length ≤ 100000) := by show _ ≤ _; rw [← HSS.out, List.length_replicate]; omega
      have HP : Hid (∀ l : List Int, l.Perm S → l = S) := fun l h => by rw [← HSS.out] at h ⊢; exact perm_rep h
      rw [HSS.out] at HS
      have q4 : ((strOfNums S).toList == (strOfNums S).toList) = true := by simp
      clear hin HO hi
      go_wp2_with fail
      refine (bjTurn_any _ S wr HS.out H8.out HL.out).mono ?_
      rintro e w2 ⟨l, u2, rfl, hl, ho, he⟩
      have hls := HP.out l (hl.perm H8.out)
      subst hls
      have O2 := hide' ho.sl
      have S2 := hide' (HS.out.ext he)
      have X2 := hide' (HE.out.trans he)
      clear ho he hl HS HE
      go_wp2_with fail
      refine (bjBack_any _ l w2 S2.out H8.out HL.out).mono ?_
      rintro e w3 ⟨x, u3, rfl, hx, ho, he⟩
      have hxs := HP.out x hx.perm
      subst hxs
      have P3 := hide' ho.sl
      have O3 := hide' (O2.out.ext he)
      have S3 := hide' (S2.out.ext he)
      have X3 := hide' (X2.out.trans he)
      clear ho he hx S2 O2 X2
      obtain ⟨w4, hmk, ho, he⟩ := make_bytes w3 100001 (by decide)
      have Z4 := hide' ho.sl
      have X4 := hide' he
      have e1 : ((100001 : Nat) : Int) = 100001 := rfl
      rw [e1] at hmk
      clear ho he
      obtain ⟨Z, HZ⟩ : ∃ Z, Hid (List.replicate 100001 (0 : Int) = Z) := ⟨_, rfl⟩
      have HZL : Hid (100000 < Z.length) := by show _ < _; rw [← HZ.out, List.length_replicate]; decide
      rw [HZ.out] at Z4
      go_wp2_with fail
      refine (bjTurn_long _ Z w4 Z4.out HZL.out).mono ?_
      rintro e w5 ⟨rfl, he⟩
      have X5 := hide' (X4.out.trans he)
      clear he hmk Z4
      obtain ⟨w6, hmk, ho, he⟩ := make_bytes w5 100001 (by decide)
      have Z6 := hide' ho.sl
      have X6 := hide' (X5.out.trans he)
      rw [e1] at hmk
      rw [HZ.out] at Z6
      clear ho he
      go_wp2_with fail
      refine (bjBack_long _ Z w6 Z6.out HZL.out).mono ?_
      rintro e w7 ⟨rfl, he⟩
      have X7 := hide' (X6.out.trans he)
      clear he hmk Z6
      have s1 := (O3.out.ext X7.out).str (P := Try.prog) 22 5 9 Try.underlying22 Try.underlying5 Try.underlying9
      have s2 := (S3.out.ext X7.out).str (P := Try.prog) 22 5 9 Try.underlying22 Try.underlying5 Try.underlying9
      have s3 := (P3.out.ext X7.out).str (P := Try.prog) 22 5 9 Try.underlying22 Try.underlying5 Try.underlying9
      go_wp2_with fail
      refine (known_any _).mono ?_
      rintro e w8 ⟨rfl, he⟩
      have X8 := hide' ((X3.out.trans X7.out).trans he)
      clear he
      go_wp2
      go_ret
      exact ⟨rfl, X8.out⟩
end Go.Proofs.Ytinnfcjkgddfeaa
