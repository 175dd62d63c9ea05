/- Contracts of the document's own Is and Factors. -/
import Derived.Test.YtlnpgdjmcdhpbaaLynOps
import Derived.Test.YtlnpgdjmcdhpbaaRefEnd
namespace Go.Proofs.Ytlnpgdjmcdhpbaa
set_option linter.unusedVariables false
set_option linter.unusedSimpArgs false
open Go.RowKit

set_option maxHeartbeats 400000 in
theorem ris_any (v : Value) (zs : List Int) (w : World) (hs : Sl .u8 w v zs) (hlen : zs.length ≤ 1000000) :
    Calls Try.prog 8 #[v] w fun e w' => e = .returned (.bool (lynB zs)) ∧ ∃ m, w' = w.drewN m := by
  have HS := hide' hs
  obtain ⟨a, c, rfl, _⟩ := hs
  obtain ⟨n, hn⟩ : ∃ n, zs.length = n := ⟨_, rfl⟩
  have HN := hide' hn
  have HLN := hide' hlen
  rw [hn] at HS hlen ⊢
  clear hn
  go_enter Try.func8, Try.ntmps8
  go_wp2
  go_loopw [3] (fun vi wr => ∃ (i : Nat), 1 ≤ i ∧ i ≤ n + 1 ∧ vi = .int .i64 i ∧ Hid (∀ d, 1 ≤ d → d < i → d < n → cmpI zs (zs.drop d) < 0) ∧ ∃ m, wr = w.drewN m) (fun vi _ => n + 1 - (intOf vi).toNat)
  case atStart => exact ⟨1, Nat.le_refl _, by omega, rfl, (show ∀ d, 1 ≤ d → d < 1 → d < n → cmpI zs (zs.drop d) < 0 from fun d h1 h2 => by omega), 0, rfl⟩
  case round =>
    obtain ⟨i, hi1, hi2, rfl, HD, m, rfl⟩ := hrel
    by_cases hlt : i < n
    · have hlt' : (i : Int) < n := by omega
      have HEq : Hid (endL zs 0 (i : Int) = cmpI zs (zs.drop i)) := by
        show _ = _
        have := endL_in (s := zs) (i := 0) (j := i) (Nat.zero_le _) (by rw [HN.out]; omega)
        simpa using this
      obtain ⟨E, HE⟩ : ∃ E, Hid (cmpI zs (zs.drop i) = E) := ⟨_, rfl⟩
      rw [HE.out] at HEq
      go_wp2_with fail
      refine (rendings_any _ zs 0 (i : Int) _ (HS.out.drewN m) HLN.out).mono ?_
      rw [HEq.out]
      rintro e w1 ⟨rfl, m1, rfl⟩
      by_cases h0 : 0 ≤ E
      · have HR : Hid (lynB zs = false) := lynB_false fun h => by
          have := h.2 i (by rw [HN.out]; exact hlt) hi1
          rw [HE.out] at this
          omega
        go_wp2
        go_ret
        rw [HR.out]
        exact ⟨rfl, _, by first | rfl | rw [World.drewN_drewN]⟩
      · have d0 : decide (0 ≤ E) = false := by simpa using h0
        have HD2 : Hid (∀ d, 1 ≤ d → d < i + 1 → d < n → cmpI zs (zs.drop d) < 0) := fun d h1 h2 h3 => by
          by_cases hdi : d = i
          · subst hdi; rw [HE.out]; omega
          · exact HD.out d h1 (by omega) h3
        go_wp2
        go_roundw
        case rel => exact ⟨i + 1, by omega, by omega, by go_num, HD2, _, by first | rfl | rw [World.drewN_drewN]⟩
        case measure => simp [intOf]; omega
    · have hlt' : decide ((i : Int) < n) = false := by simp; omega
      by_cases h0 : n = 0
      · have HR : Hid (lynB zs = false) := lynB_false fun h => h.1 (by rw [HN.out]; exact h0)
        have d0 : decide ((0 : Int) < n) = false := by simp; omega
        go_wp2
        go_ret
        rw [HR.out]
        exact ⟨rfl, _, rfl⟩
      · have HR : Hid (lynB zs = true) := lynB_true ⟨by rw [HN.out]; exact h0, fun d h1 h2 => HD.out d h2 (by rw [HN.out] at h1; omega) (by rw [HN.out] at h1; exact h1)⟩
        have d0 : (0 : Int) < n := by omega
        have d1 : 0 < n := by omega
        go_wp2
        go_ret
        rw [HR.out]
        exact ⟨rfl, _, rfl⟩

theorem facL_at {zs : List Int} {k : Nat} (h : (zs.drop k).length ≠ 0) : facL (zs.drop k) = [(longI (zs.drop k) : Int)] ++ facL (zs.drop (k + longI (zs.drop k))) := by
  rw [facL_cons h, List.drop_drop]; rfl

set_option maxHeartbeats 800000 in
theorem rfactors_any (v : Value) (zs : List Int) (w : World) (hs : Sl .u8 w v zs) (hlen : zs.length ≤ 1000000) :
    Calls Try.prog 11 #[v] w fun e w' => ∃ s, e = .returned s ∧ Own .i64 3 w.heap.size w' s (facL zs) ∧ Ext w w' := by
  have HS := hide' hs
  have HLN : Hid ((facL zs).length ≤ 1000000) := Nat.le_trans (facL_len _ zs (Nat.le_refl _)) hlen
  obtain ⟨N, HN⟩ : ∃ n, Hid (zs.length = n) := ⟨_, rfl⟩
  rw [HN.out] at hlen
  clear hs
  go_enter Try.func11, Try.ntmps11
  go_wp2
  go_loopw [0, 3] (fun vs vo wr => ∃ (k : Nat) (out : List Int), k ≤ N ∧ Hid (Sl .u8 w vs (zs.drop k)) ∧ Hid (Own .i64 3 w.heap.size wr vo out) ∧ Hid (out ++ facL (zs.drop k) = facL zs) ∧ Hid (Ext w wr)) (fun vs _ _ => match vs with | .slice _ n _ => n | _ => 0)
  case atStart => exact ⟨0, [], Nat.zero_le _, HS, Own.nil _ _ _ _, (show _ = _ by simp), Ext.refl _⟩
  case round =>
    obtain ⟨k, out, hk, HV, HO, HF, HE⟩ := hrel
    have hv := HV.out
    obtain ⟨a, c, rfl, _⟩ := hv
    have hdl : (zs.drop k).length + k ≤ N := by rw [List.length_drop, HN.out]; omega
    obtain ⟨n, hn⟩ : ∃ n, (zs.drop k).length = n := ⟨_, rfl⟩
    have HnL := hide' hn
    rw [hn] at HV hdl ⊢
    clear hn
    by_cases h0 : n = 0
    · subst h0
      have HR : Hid (out = facL zs) := by
        show _ = _
        rw [← HF.out, facL_nil HnL.out, List.append_nil]
      go_wp2
      go_ret
      exact ⟨_, rfl, by rw [← HR.out]; exact HO.out, HE.out⟩
    · have hn0 : (0 : Int) < n := by omega
      have hn0' : 0 < n := by omega
      have hls := longI_spec (s := zs.drop k) (by rw [HnL.out]; exact h0)
      have HF2 := hide' HF.out
      rw [facL_at (by rw [HnL.out]; exact h0)] at HF2
      obtain ⟨L, HL⟩ : ∃ L, Hid (longI (zs.drop k) = L) := ⟨_, rfl⟩
      rw [HL.out] at HF2 hls
      have hL1 := hls.pos
      have hL2 := hls.le
      rw [HnL.out] at hL2
      have HLs := hide' hls
      clear hls
      have HVr := hide' (HV.out.ext HE.out)
      go_wp2
      go_loopw [4] (fun vn wk => ∃ (j : Nat), L ≤ j ∧ j ≤ n ∧ vn = .int .i64 j ∧ ∃ m, wk = wr.drewN m) (fun vn _ => (intOf vn).toNat)
      case atStart => exact ⟨n, hL2, Nat.le_refl _, rfl, 0, rfl⟩
      case round =>
        obtain ⟨j, hj1, hj2, rfl, m, rfl⟩ := hrel
        obtain ⟨t1, s1⟩ := HVr.out.runTake (P := Try.prog) 22 5 Try.underlying22 size8 j (by rw [HnL.out]; exact hj2)
        have S1 := hide' s1
        clear s1
        have HTL : Hid (((zs.drop k).take j).length ≤ 1000000) := by
          show _ ≤ _
          rw [List.length_take, HnL.out]; omega
        by_cases hjL : j = L
        · have HD : Hid (lynB ((zs.drop k).take j) = true) := lynB_true (by rw [hjL]; exact HLs.out.lyn)
          subst hjL
          obtain ⟨a1, t2, s2, _⟩ := HV.out.runDrop (P := Try.prog) 22 5 Try.underlying22 size8 j (by rw [HnL.out]; exact hj2)
          rw [List.drop_drop] at s2
          have S2 := hide' s2
          clear s2
          obtain ⟨n2, hn2⟩ : ∃ n2, n - j = n2 := ⟨_, rfl⟩
          rw [hn2] at t2 S2
          obtain ⟨c2, hc2⟩ : ∃ c2, c - j = c2 := ⟨_, rfl⟩
          rw [hc2] at t2 S2
          have hn2' : n2 < n := by omega
          clear hn2 hc2
          have hol : Hid (out.length + 1 ≤ 1000000) := by
            have h1 := congrArg List.length HF2.out
            have h2 := HLN.out
            simp only [List.length_append, List.length_cons, List.length_nil] at h1
            show _ ≤ _
            omega
          go_wp2_with fail
          refine (toExt (ris_any _ _ _ (S1.out.drewN m) HTL.out)).mono ?_
          rw [HD.out]
          rintro e w2 ⟨rfl, he⟩
          have HE2 : Hid (Ext w w2) := (HE.out.trans (Ext.drewN _ _)).trans he
          have HO2 : Hid (Own .i64 3 w.heap.size w2 u3 out) := (HO.out.ext (Ext.drewN _ _)).ext he
          clear he
          have hsz := HE2.out.size
          go_wp2_with (at_builtin; refine wpList_snoc _ rfl _ _ 25 rfl 3 .i64 8 Try.underlying25 infoI64 w.heap.size _ out (j : Int) ⟨w2.heap.size, 0, none⟩ rfl rfl ?c4 (HO2.out.alloc _) ?c3 ?c5 ?_)
          case c4 => simp only [World.cell?, heap_alloc_top]; simp
          case c3 => have := hol.out; unfold maxLen; omega
          case c5 => simp; omega
          intro v1 w1 ho1 hb1
          have HO1 := hide' ho1
          have HE1 : Hid (Ext w w1) := Below.trans (HE2.out.trans (ext_alloc _ _)) hb1
          have HF3 : Hid (out ++ [(j : Int)] ++ facL (zs.drop (k + j)) = facL zs) := by
            show _ = _
            rw [List.append_assoc]; exact HF2.out
          clear ho1 hb1 t1
          go_wp2
          go_roundw
          case rel => exact ⟨k + j, _, by omega, S2, HO1, HF3, HE1⟩
          case measure => exact hn2'
        · have HD : Hid (lynB ((zs.drop k).take j) = false) := lynB_false (HLs.out.none j (by omega) (by rw [HnL.out]; exact hj2))
          go_wp2_with fail
          refine (ris_any _ _ _ (S1.out.drewN m) HTL.out).mono ?_
          rw [HD.out]
          rintro e w1 ⟨rfl, m1, rfl⟩
          have hj0 : (j : Int) - 1 = ((j - 1 : Nat) : Int) := by omega
          go_wp2
          go_roundw
          case rel => exact ⟨j - 1, by omega, by omega, by go_num, _, by first | rfl | rw [World.drewN_drewN]⟩
          case measure => simp [intOf]; omega
end Go.Proofs.Ytlnpgdjmcdhpbaa
