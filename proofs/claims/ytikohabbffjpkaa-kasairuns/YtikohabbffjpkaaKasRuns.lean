/- KasaiRuns: the walk. -/
import Derived.Test.YtikohabbffjpkaaKasKnown
import Derived.Test.YtikohabbffjpkaaRefBytes
namespace Go.Proofs.Ytikohabbffjpkaa
set_option linter.unusedVariables false
set_option linter.unusedSimpArgs false
open Go.RowKit

/-- A row filled with one number, so far. -/
structure FillI (n : Nat) (z : Int) (i : Nat) (r : List Int) : Prop where
  len : r.length = n
  at' : ∀ t, t < i → r.getD t 0 = z
theorem FillI.start (n : Nat) (z : Int) : FillI n z 0 (List.replicate n 0) := ⟨List.length_replicate, fun t h => by omega⟩
theorem FillI.next {n i : Nat} {z : Int} {r : List Int} (h : FillI n z i r) (hi : i < n) : FillI n z (i + 1) (r.set i z) := by
  refine ⟨by rw [List.length_set]; exact h.len, fun t ht => ?_⟩
  by_cases e : t = i
  · subst e; rw [setI_same (by rw [h.len]; exact hi)]
  · rw [setI_other (by omega)]; exact h.at' t (by omega)
theorem FillI.done {n : Nat} {z : Int} {r : List Int} (h : FillI n z n r) : r = List.replicate n z := by
  refine rowI_ext (by rw [h.len, List.length_replicate]) fun t ht => ?_
  rw [h.len] at ht
  rw [h.at' t ht]
  simp [List.getD, ht]
theorem rep_bytes (n : Nat) {c : Int} (h : 0 ≤ c ∧ c ≤ 255) : Bytes8 (List.replicate n c) := fun z hz => by
  rw [(List.mem_replicate.1 hz).2]
  exact h
theorem comI_rep (z : Int) : ∀ a b : Nat, comI (List.replicate a z) (List.replicate b z) = min a b
  | 0, b => by rw [List.replicate_zero, comI_nil_left, Nat.zero_min]
  | a + 1, 0 => by rw [List.replicate_zero, comI_nil_right, Nat.min_zero]
  | a + 1, b + 1 => by
    rw [List.replicate_succ, List.replicate_succ, comI, if_pos rfl, comI_rep z a b]
    omega
theorem lcp_rep (n : Nat) (z : Int) : lcpN (List.replicate n z) (List.range n).reverse = List.range n := by
  refine natL_ext (by rw [lcpN_len, List.length_reverse]) fun i hi => ?_
  rw [lcpN_len, List.length_reverse, List.length_range] at hi
  rw [rangeN_at hi]
  by_cases h0 : i = 0
  · subst h0; exact lcpN_zero
  · rw [lcpN_at (by omega) (by rw [List.length_reverse, List.length_range]; exact hi), revN_at (by omega), revN_at hi]
    unfold comN
    rw [List.drop_replicate, List.drop_replicate, comI_rep]
    omega

set_option maxHeartbeats 1000000 in
theorem lawRuns (n c : Int) (w : World) (hc : 0 ≤ c ∧ c ≤ 255) :
    Calls Try.prog 9 #[.int .i64 n, .int .u8 c] w fun e w' => e = .returned (.bool true) ∧ Ext w w' := by
  by_cases h1 : n < 0
  · go_enter Try.func9, Try.ntmps9
    go_wp2
    go_ret
    exact ⟨rfl, Ext.refl _⟩
  have d1 : decide (n < 0) = false := by simpa using h1
  by_cases h2 : 100 < n
  · go_enter Try.func9, Try.ntmps9
    go_wp2
    go_ret
    exact ⟨rfl, Ext.refl _⟩
  have d2 : decide (100 < n) = false := by simpa using h2
  obtain ⟨n, rfl⟩ := Int.eq_ofNat_of_zero_le (show 0 ≤ n by omega)
  have hn : n ≤ 100 := by omega
  obtain ⟨w1, hmk, ho, he⟩ := make_bytes w n (by omega)
  have HO := hide' ho
  have X1 := hide' he
  have H8 := hide' (rep_bytes n hc)
  have HZL : Hid ((List.replicate n c).length = n) := List.length_replicate
  clear h1 h2 ho he
  go_enter Try.func9, Try.ntmps9
  go_wp2
  clear hmk
  go_loopw [6] (fun vi wr => ∃ (i : Nat) (r : List Int), i ≤ n ∧ vi = .int .i64 i ∧ Hid (FillI n c i r) ∧
    Hid (Own .u8 5 w.heap.size wr (.slice (some ⟨w.heap.size, 0, none⟩) n n) r) ∧ Hid (Ext w wr)) (fun vi _ => n - (intOf vi).toNat)
  case atStart => exact ⟨0, _, Nat.zero_le _, rfl, FillI.start n c, HO, X1⟩
  case round =>
    clear HO X1
    obtain ⟨i, r, hi, rfl, HF, HO, HE⟩ := hrel
    by_cases hlt : i < n
    · have hlt' : (i : Int) < n := by omega
      have hfz := HO.out.frozen HF.out.len i
      have hci := HO.out.cell HF.out.len i hlt
      have HO2 := hide' (HO.out.store HF.out.len i c)
      go_wp2
      go_roundw
      case rel => exact ⟨i + 1, r.set i c, by omega, by go_num, HF.out.next hlt, HO2, Ext.but HE.out (Nat.le_refl _) (but_set _ _ _ _)⟩
      case measure => simp [intOf]; omega
    · have hlt' : decide ((i : Int) < n) = false := by simp; omega
      have hin : n = i := by omega
      have HR := hide' ((show FillI n c n r by rw [hin] at HF ⊢; exact HF.out).done)
      have HS := hide' HO.out.sl
      rw [HR.out] at HS
      have HOK := hide' (same_ord n c)
      have HLC := hide' (lcp_rep n c)
      obtain ⟨Z, HZ⟩ : ∃ Z, Hid (List.replicate n c = Z) := ⟨_, rfl⟩
      rw [HZ.out] at HS H8 HZL HOK HLC
      have HSE : Hid (∀ W, Ext wr W → Sl .u8 W (.slice (some ⟨w.heap.size, 0, none⟩) n n) Z) := fun W he => HS.out.ext he
      clear hin HF HO hi
      go_wp2_with fail
      refine (srBytes_any _ Z wr HS.out H8.out (by rw [HZL.out]; omega)).mono ?_
      rintro e w2 ⟨u2, L2, rfl, hR, ho, he⟩
      obtain ⟨_, R, hR2, rfl⟩ := hR.ok (by rw [HZL.out]; omega) (fit256 H8.out)
      obtain rfl := hR2.eq HOK.out
      have O2 := hide' ho.sl
      have X2 := hide' (HE.out.trans he)
      have S2 := hide' (HSE.out w2 he)
      clear hR hR2 ho he
      have HLN : Hid ((natL (List.range n).reverse).length = n) := by show _ = _; rw [natL_len, List.length_reverse, List.length_range]
      have HYES : Hid (lcpOk Z (natL (List.range n).reverse) = true) := lcpOk_yes (by rw [HLN.out, HZL.out]) (ordB_nat (by have := HOK.out.1; rw [HZL.out] at this; exact this))
      have HLCP : Hid (lcpL Z (natL (List.range n).reverse) = natL (List.range n)) := by show _ = _; rw [lcpL_yes HYES.out, toN_nat, HLC.out]
      have HGL : Hid ((natL (List.range n)).length = n) := by show _ = _; rw [natL_len, List.length_range]
      have HGA : Hid (∀ i, i < n → (List.range n).getD i 0 = i) := fun i h => rangeN_at h
      obtain ⟨G, HG⟩ : ∃ G, Hid (List.range n = G) := ⟨_, rfl⟩
      obtain ⟨A, HA⟩ : ∃ A, Hid (natL (List.range n).reverse = A) := ⟨_, rfl⟩
      rw [HA.out] at HLN HYES HLCP O2
      rw [HG.out] at HLCP HGL HGA
      go_wp2_with fail
      refine (klcp_any _ _ Z A w2 S2.out O2.out (by rw [HZL.out]; omega) (by rw [HLN.out]; omega)).mono ?_
      rw [HYES.out, HLCP.out]
      rintro e w3 ⟨u3, rfl, ho, he⟩
      have S3 := hide' ho.sl
      have X3 := hide' (X2.out.trans he)
      clear ho he
      obtain ⟨ua, uc, rfl, _⟩ := S3.out
      rw [HGL.out] at S3 ⊢
      obtain ⟨_, _, _, hcv⟩ := S3.out.nat
      have CV := hide' hcv
      have d6 : ((n : Int) != (n : Int)) = false := by simp
      clear hcv S3
      go_wp2
      go_loopw [9] (fun vi wq => ∃ (i : Nat), i ≤ n ∧ vi = .int .i64 i ∧ Hid (Ext w3 wq)) (fun vi _ => n - (intOf vi).toNat)
      case atStart => exact ⟨0, Nat.zero_le _, rfl, Ext.refl _⟩
      case round =>
        obtain ⟨i, hi, rfl, HE⟩ := hrel
        by_cases hlt : i < n
        · have hlt' : (i : Int) < n := by omega
          obtain ⟨g, off, rfl, k1⟩ := CV.out (by omega)
          have c1 := HE.out.cellOf (k1 i hlt)
          rw [HGA.out i hlt] at c1
          have d7 : ((i : Int) != (i : Int)) = false := by simp
          clear k1
          go_wp2
          go_roundw
          case rel => exact ⟨i + 1, by omega, by go_num, HE⟩
          case measure => simp [intOf] <;> omega
        · have d7 : decide ((i : Int) < n) = false := by simp; omega
          have X4 := hide' (X3.out.trans HE.out)
          go_wp2_with fail
          refine (known_any _).mono ?_
          rintro e w5 ⟨rfl, he⟩
          have X5 := hide' (X4.out.trans he)
          clear he
          go_wp2
          go_ret
          exact ⟨rfl, X5.out⟩
end Go.Proofs.Ytikohabbffjpkaa
