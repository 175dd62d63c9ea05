/- DoubleSpread: the walk. -/
import Derived.Test.YtimhkmnohkbniaaDbKnown
import Derived.Test.YtimhkmnohkbniaaOrdMore
namespace Go.Proofs.Ytimhkmnohkbniaa
set_option linter.unusedVariables false
set_option linter.unusedSimpArgs false
open Go.RowKit

set_option maxHeartbeats 1000000 in
theorem lawSpread (v : Value) (s : List Int) (b m : Int) (w : World) (hv : Sl .i64 w v s) :
    Calls Try.prog 9 #[v, .int .i64 b, .int .i64 m] w fun e w' => e = .returned (.bool true) ∧ Ext w w' := by
  have HV := hide' hv
  obtain ⟨a, c, rfl, _⟩ := hv
  by_cases h1 : (150 : Int) < (s.length : Int)
  · go_enter Try.func9, Try.ntmps9
    go_wp2
    go_ret
    exact ⟨rfl, Ext.refl _⟩
  have d1 : decide ((150 : Int) < (s.length : Int)) = false := by simpa using h1
  by_cases h2 : b < 1
  · go_enter Try.func9, Try.ntmps9
    go_wp2
    go_ret
    exact ⟨rfl, Ext.refl _⟩
  have d2 : decide (b < 1) = false := by simpa using h2
  by_cases h3 : 9 < b
  · go_enter Try.func9, Try.ntmps9
    go_wp2
    go_ret
    exact ⟨rfl, Ext.refl _⟩
  have d3 : decide (9 < b) = false := by simpa using h3
  by_cases h4 : m < 0
  · go_enter Try.func9, Try.ntmps9
    go_wp2
    go_ret
    exact ⟨rfl, Ext.refl _⟩
  have d4 : decide (m < 0) = false := by simpa using h4
  by_cases h5 : 9 < m
  · go_enter Try.func9, Try.ntmps9
    go_wp2
    go_ret
    exact ⟨rfl, Ext.refl _⟩
  have d5 : decide (9 < m) = false := by simpa using h5
  have hb0 : 1 ≤ b := by omega
  have hb1 : b ≤ 9 := by omega
  have hm0 : 0 ≤ m := by omega
  have hm1 : m ≤ 9 := by omega
  obtain ⟨_, _, _, hcv⟩ := HV.out.int
  have CV := hide' hcv
  have HLEN : Hid (s.length ≤ 100000) := by show _ ≤ _; omega
  obtain ⟨n, HN⟩ : ∃ n, Hid (s.length = n) := ⟨_, rfl⟩
  have hn : n ≤ 150 := by rw [← HN.out]; omega
  rw [HN.out] at CV HV d1 ⊢
  clear hcv h1 h2 h3 h4 h5
  go_enter Try.func9, Try.ntmps9
  go_wp2
  go_loopw [7, 8] (fun tv vi wr => ∃ (i : Nat), i ≤ n ∧ vi = .int .i64 i ∧ Hid (∀ j, j < i → 0 ≤ s.getD j 0 ∧ s.getD j 0 ≤ 200) ∧ Hid (Own .i64 3 w.heap.size wr tv (sprI b m (s.take i))) ∧ Hid (Ext w wr)) (fun _ vi _ => n - (intOf vi).toNat)
  case atStart => exact ⟨0, Nat.zero_le _, rfl, (fun j hj => by omega), Own.nil _ _ _ _, Ext.refl _⟩
  case round =>
    obtain ⟨i, hi, rfl, HG, HO, HE⟩ := hrel
    have hsz := HE.out.size
    by_cases hlt : i < n
    · have hlt' : (i : Int) < n := by omega
      obtain ⟨g1, o1, rfl, k1⟩ := CV.out (by omega)
      have c1 := HE.out.cellOf (k1 i hlt)
      have HSN := hide' (sprI_snoc b m (s := s) (i := i) (by rw [HN.out]; exact hlt))
      have HTL : Hid ((sprI b m (s.take i)).length ≤ 1000) := by show _ ≤ _; rw [sprI_len, List.length_take]; omega
      obtain ⟨z, HZ⟩ : ∃ z, Hid (s.getD i 0 = z) := ⟨_, rfl⟩
      rw [HZ.out] at c1 HSN
      obtain ⟨T, HT⟩ : ∃ T, Hid (sprI b m (s.take i) = T) := ⟨_, rfl⟩
      rw [HT.out] at HSN HTL HO
      clear k1
      by_cases z0 : z < 0
      · go_wp2
        go_ret
        exact ⟨rfl, HE.out⟩
      have e0 : decide (z < 0) = false := by simpa using z0
      by_cases z1 : 200 < z
      · go_wp2
        go_ret
        exact ⟨rfl, HE.out⟩
      have e1 : decide (200 < z) = false := by simpa using z1
      have HG1 : Hid (∀ j, j < i + 1 → 0 ≤ s.getD j 0 ∧ s.getD j 0 ≤ 200) := fun j hj => by
        by_cases e : j = i
        · rw [e, HZ.out]; omega
        · exact HG.out j (by omega)
      have hp := spread_in (z := z) (b := b) (by omega) (by omega) hb0 hb1
      obtain ⟨p, HP⟩ : ∃ p, Hid (z * b = p) := ⟨_, rfl⟩
      have hw : IntKind.i64.wrap (z * b) = p := by rw [IntKind.wrap_i64, HP.out]; rw [HP.out] at hp; omega
      rw [HP.out] at hp HSN
      have hw2 : IntKind.i64.wrap (p + m) = p + m := by rw [IntKind.wrap_i64]; omega
      clear z0 z1 HG
      go_wp2_with (at_builtin; refine wpList_snoc _ rfl _ _ 22 rfl 3 .i64 8 Try.underlying22 infoI64 w.heap.size _ T (p + m) ⟨wr.heap.size, 0, none⟩ rfl rfl ?c4 (HO.out.alloc _) ?c3 ?c5 ?_)
      case c3 => have := HTL.out; unfold maxLen; omega
      case c5 => simp; omega
      case c4 => simp only [World.cell?, heap_alloc_top]; simp
      intro v1 w4 ho1 hb1
      have HO1 : Hid (Own .i64 3 w.heap.size w4 v1 (sprI b m (s.take (i + 1)))) := by rw [HSN.out]; exact ho1
      have HE1 : Hid (Ext w w4) := Below.trans (HE.out.trans (ext_alloc _ _)) (Below.mono hb1 (Nat.le_refl _))
      clear ho1 hb1
      go_wp2
      go_roundw
      case rel => exact ⟨i + 1, by omega, by go_num, HG1, HO1, HE1⟩
      case measure => simp [intOf] <;> omega
    · have d6 : decide ((i : Int) < n) = false := by simp; omega
      have hin : i = n := by omega
      have HGA : Hid (∀ j, j < s.length → 0 ≤ s.getD j 0 ∧ s.getD j 0 ≤ 200) := fun j hj => HG.out j (by rw [hin, ← HN.out]; exact hj)
      have HT : Hid (sprI b m (s.take i) = sprI b m s) := by show _ = _; rw [List.take_of_length_le (by rw [HN.out]; omega)]
      rw [HT.out] at HO
      have F1 := hide' (plain_fit HGA.out)
      have F2 := hide' (sprI_fit HGA.out hb0 hb1 hm0 hm1)
      have ST := hide' HO.out.sl
      have X0 := HE
      obtain ⟨t, HTT⟩ : ∃ t, Hid (sprI b m s = t) := ⟨_, rfl⟩
      have HTL : Hid ((sprI b m s).length ≤ 100000) := by show _ ≤ _; rw [sprI_len]; exact HLEN.out
      rw [HTT.out] at ST F2 HTL
      have HL6 : Hid (s.length ≤ 1000000) := Nat.le_trans HLEN.out (by omega)
      clear HG HO HE hin
      go_wp2_with fail
      refine (dbInts_any _ s 201 wr (HV.out.ext X0.out) HL6.out).mono ?_
      rintro e w1 ⟨u1, L1, c1, rfl, hR1, ho, he⟩
      obtain ⟨rfl, R1, hO1, rfl⟩ := hR1.ok HLEN.out F1.out
      have O1 := hide' hO1
      have S1 := hide' ho.sl
      have X1 := hide' (X0.out.trans he)
      have ST1 := hide' (ST.out.ext he)
      clear ho he hR1 hO1 X0 ST
      have hk : IntKind.i64.wrap (200 * b) = 200 * b := by rw [IntKind.wrap_i64]; omega
      go_wp2_with fail
      refine (dbInts_any _ t (200 * b + m + 1) w1 ST1.out (Nat.le_trans HTL.out (by omega))).mono ?_
      rintro e w2 ⟨u2, L2, c2, rfl, hR2, ho, he⟩
      obtain ⟨rfl, R2, hO2, rfl⟩ := hR2.ok HTL.out F2.out
      have HRR : Hid (R1 = R2) := by
        show _ = _
        have h1 := O1.out.map (spread_lt (b := b) (m := m) hb0)
        rw [← HTT.out] at hO2
        exact h1.eq hO2
      have S2 := hide' ho.sl
      rw [← HRR.out] at S2
      have S12 := hide' (S1.out.ext he)
      have X2 := hide' (X1.out.trans he)
      have HL1 : Hid ((natL R1).length = n) := by show _ = _; rw [natL_len, O1.out.len, HN.out]
      clear ho he hR2 hO2 S1 X1 ST1
      obtain ⟨pa, pc, rfl, _⟩ := S12.out
      rw [HL1.out] at S12 ⊢
      have d7 : ((n : Int) == (n : Int)) = true := by simp
      go_wp2_with fail
      refine (ints_same _ _ (natL R1) w2 S12.out S2.out (by rw [HL1.out]; omega)).mono ?_
      rintro e w4 ⟨rfl, he⟩
      have X4 := hide' (X2.out.trans he)
      clear he
      go_wp2_with fail
      refine (known_any _).mono ?_
      rintro e w5 ⟨rfl, he⟩
      have X5 := hide' (X4.out.trans he)
      clear he
      go_wp2
      go_ret
      exact ⟨rfl, X5.out⟩
end Go.Proofs.Ytimhkmnohkbniaa
