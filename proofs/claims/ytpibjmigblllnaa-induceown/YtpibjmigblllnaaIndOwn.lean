/- InduceOwn: the walk. -/
import Derived.Test.YtpibjmigblllnaaIndKnown
import Derived.Test.YtpibjmigblllnaaIndMay
import Derived.Test.YtpibjmigblllnaaKinRFirst
namespace Go.Proofs.Ytpibjmigblllnaa
set_option linter.unusedVariables false
set_option linter.unusedSimpArgs false
open Go.RowKit

theorem sort_first {s : List Int} {k : Int} (h : mayB s k = true) : sortB s k (natL (firstN s)) = true := sortB_iff.2 ⟨mayB_fit h, firB_iff.2 (List.Perm.refl _)⟩
theorem sort_more {s : List Int} {k : Int} {x : Int} : sortB s k (natL (firstN s) ++ [x]) = false := by
  unfold sortB
  rw [firB_no (fun hp => by have := hp.length_eq; rw [List.length_append, List.length_singleton] at this; omega)]
  simp

set_option maxHeartbeats 1000000 in
theorem lawOwn (v : Value) (s : List Int) (k : Int) (w : World) (hv : Sl .i64 w v s) :
    Calls Try.prog 6 #[v, .int .i64 k] w fun e w' => e = .returned (.bool true) ∧ Ext w w' := by
  have HV := hide' hv
  obtain ⟨a, c, rfl, _⟩ := hv
  by_cases hm : mayB s k = true
  rotate_left
  · have HM : Hid (mayB s k = false) := Bool.eq_false_iff.2 hm
    clear hm
    go_enter Try.func6, Try.ntmps6
    go_wp2_with fail
    refine (may_any _ s k w HV.out).mono ?_
    rw [HM.out]
    rintro e _ ⟨rfl, hw⟩
    rw [hw]
    clear hw
    go_wp2
    go_ret
    exact ⟨rfl, Ext.refl _⟩
  · have HM := hide' hm
    have HSF := hide' (sort_first hm)
    have HSN : Hid (sortB s k (natL (firstN s) ++ [0]) = false) := sort_more
    have hl := (mayB_iff.1 hm).1
    have HL : Hid (s.length ≤ 1000000) := by show _ ≤ _; omega
    have hfl := firN_len s s.length
    obtain ⟨_, _, _, hcv⟩ := HV.out.int
    have CV := hide' hcv
    obtain ⟨F, HF⟩ : ∃ F, Hid (firstN s = F) := ⟨_, rfl⟩
    obtain ⟨n, HN⟩ : ∃ n, Hid (s.length = n) := ⟨_, rfl⟩
    obtain ⟨m, HFM⟩ : ∃ n, Hid (F.length = n) := ⟨_, rfl⟩
    have HFL : Hid ((natL F).length = m) := by show _ = _; rw [natL_len, HFM.out]
    have hmn : m ≤ n := by rw [← HFM.out, ← HF.out, ← HN.out]; exact hfl
    have hn : n ≤ 120 := by rw [← HN.out]; exact hl
    rw [HF.out] at HSF HSN
    rw [HN.out] at CV HV ⊢
    clear hm hl hcv hfl
    go_enter Try.func6, Try.ntmps6
    go_wp2_with fail
    refine (may_any _ s k w HV.out).mono ?_
    rw [HM.out]
    rintro e _ ⟨rfl, hw⟩
    rw [hw]
    clear hw
    go_wp2_with fail
    refine (rfirst_any _ s w HV.out HL.out).mono ?_
    rw [HF.out]
    rintro e w1 ⟨s1, rfl, ho, he⟩
    have S1 := hide' ho.sl
    have X1 := hide' he
    clear ho he
    obtain ⟨a1, c1, hs1, _⟩ := S1.out
    rw [HFL.out] at hs1
    subst hs1
    obtain ⟨_, _, _, hcv⟩ := S1.out.nat
    have CF := hide' hcv
    clear hcv
    have V1 := hide' (HV.out.ext X1.out)
    go_wp2_with (at_builtin; refine wpList_join _ rfl _ _ 22 rfl 3 .i64 8 Try.underlying22 infoI64 w1.heap.size _ _ [] s rfl rfl (Own.made #[] 0 (Nat.le_refl _) (by simp [maxLen]) rfl) (V1.out.ext (ext_alloc w1 _)) ?c1 (by simp) ?_)
    case c1 => rw [HN.out]; unfold maxLen; simp; omega
    intro v2 w2 ho hb
    have O2 := hide' ho
    have X2 : Hid (Ext w1 w2) := Below.trans (ext_alloc _ _) hb
    clear ho hb
    have S2 := hide' (S1.out.ext X2.out)
    go_wp2_with (at_builtin; refine wpList_join _ rfl _ _ 22 rfl 3 .i64 8 Try.underlying22 infoI64 w2.heap.size _ _ [] (natL F) rfl rfl (Own.made #[] 0 (Nat.le_refl _) (by simp [maxLen]) rfl) (S2.out.ext (ext_alloc w2 _)) ?c2 (by simp) ?_)
    case c2 => rw [HFL.out]; unfold maxLen; simp; omega
    intro v3 w3 ho hb
    have S3 := hide' ho.sl
    have E3 : Ext w2 w3 := Below.trans (ext_alloc _ _) hb
    have T3 := hide' (O2.out.sl.ext E3)
    have X3 := hide' (X1.out.trans (X2.out.trans E3))
    have X31 := hide' (X2.out.trans E3)
    clear ho hb E3 O2 S2 X2
    go_wp2_with fail
    refine (sort_any _ _ s (natL F) k w3 T3.out S3.out HL.out).mono ?_
    rw [HSF.out]
    rintro e w4 ⟨s4, rfl, _, he⟩
    have S4 := hide' (S3.out.ext he)
    have T4 := hide' (T3.out.ext he)
    have X4 := hide' (X3.out.trans he)
    have X41 := hide' (X31.out.trans he)
    clear he S3 T3 X3 X31
    obtain ⟨a2, c2, hs2, _⟩ := T4.out
    rw [HN.out] at hs2
    subst hs2
    obtain ⟨a3, c3, hs3, _⟩ := S4.out
    rw [HFL.out] at hs3
    subst hs3
    obtain ⟨_, _, _, hcv⟩ := T4.out.int
    have CT := hide' hcv
    clear hcv
    obtain ⟨_, _, _, hcv⟩ := S4.out.nat
    have CG := hide' hcv
    clear hcv
    go_wp2
    go_loopw [10] (fun vi wr => ∃ (i : Nat), i ≤ n ∧ vi = .int .i64 i ∧ ∃ m, wr = w4.drewN m) (fun vi _ => n - (intOf vi).toNat)
    case atStart => exact ⟨0, Nat.zero_le _, rfl, 0, rfl⟩
    case round =>
      obtain ⟨i, hi, rfl, d, rfl⟩ := hrel
      by_cases hlt : i < n
      · have hlt' : (i : Int) < n := by omega
        obtain ⟨g1, o1, rfl, k1⟩ := CV.out (by omega)
        obtain ⟨g2, o2, rfl, k2⟩ := CT.out (by omega)
        have q1 := X4.out.cellOf (k1 i hlt)
        have q2 := k2 i hlt
        clear k1 k2
        obtain ⟨p, HP⟩ : ∃ p, Hid (s.getD i 0 = p) := ⟨_, rfl⟩
        rw [HP.out] at q1 q2
        go_wp2_with fail
        go_quiet (fail)
        go_wp2
        go_roundw
        case rel => exact ⟨i + 1, by omega, by go_num, _, by first | rfl | exact World.drewN_drewN _ _ _⟩
        case measure => simp [intOf] <;> omega
      · have hlt' : decide ((i : Int) < n) = false := by simp; omega
        have hin : n = i := by omega
        go_wp2
        go_loopw [11] (fun vi wr => ∃ (j : Nat), j ≤ m ∧ vi = .int .i64 j ∧ ∃ m, wr = w4.drewN m) (fun vi _ => m - (intOf vi).toNat)
        case atStart => exact ⟨0, Nat.zero_le _, rfl, d, rfl⟩
        case round =>
          clear hlt hlt' hin hi
          obtain ⟨j, hj, rfl, d2, rfl⟩ := hrel
          by_cases hlt : j < m
          · have hlt' : (j : Int) < m := by omega
            obtain ⟨g1, o1, rfl, k1⟩ := CF.out (by omega)
            obtain ⟨g2, o2, rfl, k2⟩ := CG.out (by omega)
            have q1 := X41.out.cellOf (k1 j hlt)
            have q2 := k2 j hlt
            clear k1 k2
            obtain ⟨p, HP⟩ : ∃ p : Int, Hid (((F.getD j 0 : Nat) : Int) = p) := ⟨_, rfl⟩
            rw [HP.out] at q1 q2
            go_wp2_with fail
            go_quiet (fail)
            go_wp2
            go_roundw
            case rel => exact ⟨j + 1, by omega, by go_num, _, by first | rfl | exact World.drewN_drewN _ _ _⟩
            case measure => simp [intOf] <;> omega
          · have hlt' : decide ((j : Int) < m) = false := by simp; omega
            have hjm : m = j := by omega
            have X5 : Hid (Ext w (w4.drewN d2)) := X4.out.trans (Ext.drewN _ _)
            have X51 : Hid (Ext w1 (w4.drewN d2)) := X41.out.trans (Ext.drewN _ _)
            generalize w4.drewN d2 = W at *
            have SW := hide' (S1.out.ext X51.out)
            have HL9 : Hid ((natL F).length + 1 ≤ 1000) := by show _ ≤ _; rw [HFL.out]; omega
            go_wp2_with (at_builtin; refine wpList_join _ rfl _ _ 22 rfl 3 .i64 8 Try.underlying22 infoI64 W.heap.size _ _ [] (natL F) rfl rfl (Own.made #[] 0 (Nat.le_refl _) (by simp [maxLen]) rfl) (SW.out.ext (ext_alloc W _)) ?c3 (by simp) ?_)
            case c3 => have := HL9.out; unfold maxLen; simp; omega
            intro v6 w6 ho hb
            have O6 := hide' ho
            have X6 : Hid (Ext W w6) := Below.trans (ext_alloc _ _) hb
            have hz6 : W.heap.size ≤ w6.heap.size := X6.out.size
            clear ho hb
            go_wp2_with (at_builtin; refine wpList_snoc _ rfl _ _ 22 rfl 3 .i64 8 Try.underlying22 infoI64 W.heap.size _ (natL F) 0 ⟨w6.heap.size, 0, none⟩ rfl rfl ?c4 (O6.out.alloc _) ?c5 ?c6 ?_)
            case c5 => have := HL9.out; unfold maxLen; omega
            case c6 => simp; omega
            case c4 => simp only [World.cell?, heap_alloc_top]; simp
            intro v7 w7 ho hb
            have S7 := hide' ho.sl
            have X7 : Hid (Ext W w7) := Below.trans (X6.out.trans (ext_alloc _ _)) hb
            have XX := hide' (X5.out.trans X7.out)
            clear ho hb
            go_wp2_with fail
            refine (sort_any _ _ s (natL F ++ [0]) k w7 (HV.out.ext XX.out) S7.out HL.out).mono ?_
            rw [HSN.out]
            rintro e w8 ⟨s8, rfl, _, he⟩
            have X8 := hide' (XX.out.trans he)
            clear he
            go_wp2_with fail
            refine (known_any w8).mono ?_
            rintro e w9 ⟨rfl, he⟩
            have X9 := hide' (X8.out.trans he)
            clear he
            go_wp2
            go_ret
            exact ⟨rfl, X9.out⟩
end Go.Proofs.Ytpibjmigblllnaa
