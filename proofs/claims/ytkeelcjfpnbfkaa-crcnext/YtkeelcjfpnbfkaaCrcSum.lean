/- Contracts of (*Crc).Sum, Runs, and of whorlref2.Sum. -/
import Derived.Test.YtkeelcjfpnbfkaaCrcDo
import Derived.Test.YtkeelcjfpnbfkaaArgs
namespace Go.Proofs.Ytkeelcjfpnbfkaa
set_option linter.unusedVariables false
set_option linter.unusedSimpArgs false
open Go.RowKit

theorem objL_kind {d m r : Int} {t : List Int} {j : Nat} {v : Value} (h : (objL d m r t)[j]? = some v) : ∃ k x, v = .int k x ∧ k ≠ .u8 := by
  have hm := List.mem_of_getElem? h
  simp only [objL, List.mem_cons, List.mem_map] at hm
  rcases hm with rfl | rfl | rfl | rfl | ⟨x, _, rfl⟩ <;> exact ⟨_, _, rfl, by decide⟩

theorem Crc.kind {w : World} {b j : Nat} {v : Value} (h : Crc w b) (hc : w.cell? ⟨b, j, none⟩ = some v) : ∃ k x, v = .int k x ∧ k ≠ .u8 := by
  rcases h with h | h
  · rw [h.cellAt] at hc; exact objL_kind hc
  · rw [h.cellAt] at hc; exact objL_kind hc

theorem Sl.but {w w' : World} {b : Nat} {v : Value} {zs : List Int} (h : Sl .u8 w v zs) (hC : Crc w b) (hB : But b w w') : Sl .u8 w' v zs := by
  obtain ⟨a, c, h1, h2, h3, h0, h4⟩ := h
  refine ⟨a, c, h1, h2, h3, h0, ?_⟩
  rcases h4 with h4 | ⟨g, off, h4, h5⟩
  · exact .inl h4
  · refine .inr ⟨g, off, h4, fun i hi => hB.cell (h5 i hi) ?_⟩
    intro e
    simp only [Option.some.injEq] at e
    subst e
    obtain ⟨k, x, h6, h7⟩ := hC.kind (h5 i hi)
    simp only [Value.int.injEq] at h6
    exact h7 h6.1.symm

theorem Sls.but {w w' : World} {b : Nat} {v : Value} {zss : List (List Int)} (h : Sls w v zss) (hC : Crc w b) (hB : But b w w') : Sls w' v zss := by
  obtain ⟨a, c, h1, h2, h4⟩ := h
  refine ⟨a, c, h1, h2, ?_⟩
  rcases h4 with h4 | ⟨g, off, h4, h5⟩
  · exact .inl h4
  · refine .inr ⟨g, off, h4, fun i hi => ?_⟩
    obtain ⟨s, h6, h7⟩ := h5 i hi
    refine ⟨s, hB.cell h6 ?_, h7.but hC hB⟩
    intro e
    simp only [Option.some.injEq] at e
    subst e
    obtain ⟨k, x, h8, _⟩ := hC.kind h6
    obtain ⟨_, _, h9, _⟩ := h7
    rw [h9] at h8
    cases h8

theorem Sls.ext {w w' : World} {v : Value} {zss : List (List Int)} (h : Sls w v zss) (he : Ext w w') : Sls w' v zss := by
  obtain ⟨a, c, h1, h2, h4⟩ := h
  refine ⟨a, c, h1, h2, ?_⟩
  rcases h4 with h4 | ⟨g, off, h4, h5⟩
  · exact .inl h4
  · refine .inr ⟨g, off, h4, fun i hi => ?_⟩
    obtain ⟨s, h6, h7⟩ := h5 i hi
    exact ⟨s, he.cellOf h6, h7.ext he⟩

theorem drop_cons' {α : Type} (zs : List α) (k : Nat) (d x : α) (h : k < zs.length) (hx : zs.getD k d = x) : zs.drop k = x :: zs.drop (k + 1) := by
  rw [List.getD_eq_getElem?_getD, List.getElem?_eq_getElem h, Option.getD_some] at hx
  rw [← hx, ← List.getElem_cons_drop h]

theorem getD_range {zs : List Int} (hr : ∀ z ∈ zs, 0 ≤ z ∧ z ≤ 255) (i : Nat) : 0 ≤ zs.getD i 0 ∧ zs.getD i 0 ≤ 255 := by
  by_cases hi : i < zs.length
  · have := hr zs[i] (List.getElem_mem hi)
    simpa [List.getD, List.getElem?_eq_getElem hi] using this
  · simp [List.getD, List.getElem?_eq_none (Nat.le_of_not_lt hi)]

/-- What one more byte makes of the sum, as the program reckons it. -/
theorem step_bits (y : Nat) (z : Int) (hy : y < 4294967296) (hz : 0 ≤ z ∧ z ≤ 255) : ∃ ix : Nat, ix < 256 ∧ bits .xor .u8 ((y : Int) % 256) z = (ix : Int) ∧
    bits .xor .u32 ((y : Int) / 256) (tab ix : Int) = (crcStep y z.toNat : Int) := by
  obtain ⟨n, rfl⟩ := Int.eq_ofNat_of_zero_le hz.1
  refine ⟨(y % 256) ^^^ n, xor_lt8 (by omega) (by omega), ?_, ?_⟩
  · have := u8_xor_nat (y % 256) n (by omega) (by omega)
    rw [← this]; rfl
  · have := u32_xor_nat (y / 256) (tab ((y % 256) ^^^ n)) (by omega) (tab_lt (Nat.lt_of_lt_of_le (xor_lt8 (by omega) (by omega)) (by omega)))
    rw [show ((n : Int)).toNat = n by omega, crcStep, ← this]; rfl

theorem end_bits (y : Nat) (hy : y < 4294967296) : bits .xor .u32 (y : Int) 4294967295 = ((4294967295 - y : Nat) : Int) := by
  have := u32_xor_nat y 4294967295 hy (by omega)
  rw [Nat.xor_comm, ones_xor hy] at this
  exact this

set_option maxHeartbeats 1600000 in
theorem sum_any (b : Nat) (w : World) (v : Value) (zss : List (List Int)) (hC : Crc w b) (hs : Sls w v zss) (hr : ∀ zs ∈ zss, ∀ z ∈ zs, 0 ≤ z ∧ z ≤ 255) :
    Calls Try.prog 9 #[.pointer (some ⟨b, 0, none⟩), v] w fun e w' => e = .returned (.int .u32 (sumN zss.flatten : Int)) ∧ At w' b 1 0 1 tabL ∧ But b w w' := by
  have HS := hide' hs
  have HC := hide' hC
  have HR := hide' hr
  clear hr
  obtain ⟨a, c, rfl, hm, _⟩ := hs
  unfold maxLen at hm
  clear hC
  have hmf : ∀ (fn : Fn) (first cap : Array Value) (w : World), (Instr.makeFunc fn first cap).run Try.prog w = .ok (.func fn first cap) w := fun _ _ _ _ => rfl
  go_enter Try.func9, Try.ntmps9
  go_wp2_with fail
  refine (do_any b _ HC.out).mono ?_
  rintro e w1 ⟨rfl, hA, hB⟩
  have HA := hide' hA
  have HB := hide' hB
  have HS1 := hide' (HS.out.but HC.out hB)
  clear hA hB
  go_wp2
  go_loop [5, 20] (fun x i => ∃ (k y : Nat), k ≤ zss.length ∧ i = .int .i64 k ∧ x = .int .u32 (y : Int) ∧ y < 4294967296 ∧ Hid (crcFold y (zss.drop k).flatten = crcFold 4294967295 zss.flatten)) (fun _ i => zss.length - (intOf i).toNat)
  case atStart => exact ⟨0, 4294967295, by omega, rfl, rfl, by omega, rfl⟩
  case round =>
    obtain ⟨k, y, hk, rfl, rfl, hy, hg⟩ := hrel
    by_cases hlt : k < zss.length
    · obtain ⟨a', c', hv, _, h4⟩ := HS1.out
      simp only [Value.slice.injEq] at hv
      obtain ⟨rfl, _, rfl⟩ := hv
      rcases h4 with h4 | ⟨g, off, rfl, h5⟩
      · rw [h4] at hlt; exact absurd hlt (by simp)
      obtain ⟨s, h6, h7⟩ := h5 k hlt
      clear h5
      obtain ⟨zs, HZ⟩ : ∃ zs, Hid (zss.getD k [] = zs) := ⟨_, rfl⟩
      rw [HZ.out] at h7
      have HD := hide' (drop_cons' zss k [] zs hlt HZ.out)
      have HRz := hide' (fun z hz => HR.out zs (by
        have := HZ.out
        rw [List.getD_eq_getElem?_getD, List.getElem?_eq_getElem hlt, Option.getD_some] at this
        rw [← this]; exact List.getElem_mem hlt) z hz)
      have HF := hide' h7
      obtain ⟨a2, c2, rfl, hm2, hm3, _⟩ := h7
      unfold maxLen at hm3
      go_wp2
      go_loop [5, 26] (fun x i => ∃ (j u : Nat), j ≤ zs.length ∧ i = .int .i64 j ∧ x = .int .u32 (u : Int) ∧ u < 4294967296 ∧ Hid (crcFold u (zs.drop j) = crcFold y zs)) (fun _ i => zs.length - (intOf i).toNat)
      case atStart => exact ⟨0, y, by omega, rfl, rfl, hy, rfl⟩
      case round =>
        obtain ⟨j, u, hj, rfl, rfl, hu, hgu⟩ := hrel
        by_cases hltj : j < zs.length
        · obtain ⟨a', c', hv, _, _, _, h4⟩ := HF.out
          simp only [Value.slice.injEq] at hv
          obtain ⟨rfl, _, rfl⟩ := hv
          rcases h4 with h4 | ⟨g2, off2, rfl, h5⟩
          · rw [h4] at hltj; exact absurd hltj (by simp)
          have hcb := h5 j hltj
          clear h5
          have hz := getD_range HRz.out j
          obtain ⟨z, HZZ⟩ : ∃ z, Hid (zs.getD j 0 = z) := ⟨_, rfl⟩
          rw [HZZ.out] at hcb hz
          have HDZ := hide' (drop_cons' zs j 0 z hltj HZZ.out)
          obtain ⟨ix, hix, hx1, hx2⟩ := step_bits u z hu hz
          have hct := HA.out.cT ix hix
          rw [tabL_getD ix hix] at hct
          have HY := hide' (crcStep_lt hu (show z.toNat < 256 by omega))
          have hix' : (ix : Int) < 256 := by omega
          go_wp2
          go_round
          case rel =>
            refine ⟨j + 1, crcStep u z.toNat, by omega, by go_num, rfl, HY.out, ?_⟩
            show _ = _
            rw [← hgu.out, HDZ.out]; rfl
          case measure => simp [intOf]; omega
        · have HE : Hid (zs.drop j = []) := List.drop_of_length_le (by omega)
          go_wp2
          go_round
          case rel =>
            refine ⟨k + 1, u, by omega, by go_num, rfl, hu, ?_⟩
            show _ = _
            have e := hgu.out
            rw [HE.out] at e
            rw [← hg.out, HD.out, List.flatten_cons, crcFold_append, ← e]; rfl
          case measure => simp [intOf]; omega
    · have he := end_bits y hy
      have HE : Hid (zss.drop k = []) := List.drop_of_length_le (by omega)
      go_wp2
      go_ret
      refine ⟨?_, HA.out, HB.out⟩
      have e := hg.out
      rw [HE.out] at e
      rw [sumN, ← e]; rfl

theorem runs_any (b : Nat) (w : World) (d m r : Int) (t : List Int) (h : At w b d m r t) (h0 : 0 ≤ r) (h1 : r ≤ 1) :
    Calls Try.prog 14 #[.pointer (some ⟨b, 0, none⟩)] w fun e w' => e = .returned (.int .i64 r) ∧ w' = w := by
  have hl := run_call_load (P := Try.prog) Try.func22 (by kernel_rfl) (by kernel_rfl) (by kernel_rfl) .i32 (by kernel_rfl) h.c3
  clear h
  go_enter Try.func14, Try.ntmps14
  go_wp2_with (go_at_call 17; go_in)
  go_ret
  exact ⟨rfl, rfl⟩

theorem sum_none (v : Value) (w : World) : Calls Try.prog 9 #[.pointer none, v] w fun e w' => e = .returned (.int .u32 0) ∧ w' = w := by
  go_enter Try.func9, Try.ntmps9
  go_wp2
  go_ret
  exact ⟨rfl, rfl⟩
theorem runs_none (w : World) : Calls Try.prog 14 #[.pointer none] w fun e w' => e = .returned (.int .i64 0) ∧ w' = w := by
  go_enter Try.func14, Try.ntmps14
  go_wp2
  go_ret
  exact ⟨rfl, rfl⟩

theorem not_bits (y : Nat) (hy : y < 4294967296) : bits .xor .u32 IntKind.u32.max (y : Int) = ((4294967295 - y : Nat) : Int) := by
  have := u32_xor_nat 4294967295 y (by omega) hy
  rw [ones_xor hy] at this
  exact this

set_option maxHeartbeats 800000 in
theorem rsum_any (v : Value) (zs : List Int) (w : World) (hs : Sl .u8 w v zs) (hr : ∀ z ∈ zs, 0 ≤ z ∧ z ≤ 255) :
    Calls Try.prog 10 #[v] w fun e w' => e = .returned (.int .u32 (sumN zs : Int)) ∧ w' = w := by
  have HF := hide' hs
  have HR := hide' hr
  clear hr
  obtain ⟨a, c, rfl, hm2, hm3, _⟩ := hs
  unfold maxLen at hm3
  go_enter Try.func10, Try.ntmps10
  go_wp2
  go_loop [3, 4] (fun x i => ∃ (j u : Nat), j ≤ zs.length ∧ i = .int .i64 j ∧ x = .int .u32 (u : Int) ∧ u < 4294967296 ∧ Hid (crcFold u (zs.drop j) = crcFold 4294967295 zs)) (fun _ i => zs.length - (intOf i).toNat)
  case atStart => exact ⟨0, 4294967295, by omega, rfl, rfl, by omega, rfl⟩
  case round =>
    obtain ⟨j, u, hj, rfl, rfl, hu, hgu⟩ := hrel
    by_cases hltj : j < zs.length
    · obtain ⟨a', c', hv, _, _, _, h4⟩ := HF.out
      simp only [Value.slice.injEq] at hv
      obtain ⟨rfl, _, rfl⟩ := hv
      rcases h4 with h4 | ⟨g2, off2, rfl, h5⟩
      · rw [h4] at hltj; exact absurd hltj (by simp)
      have hcb := h5 j hltj
      clear h5
      have hz := getD_range HR.out j
      obtain ⟨z, HZZ⟩ : ∃ z, Hid (zs.getD j 0 = z) := ⟨_, rfl⟩
      rw [HZZ.out] at hcb hz
      have HDZ := hide' (drop_cons' zs j 0 z hltj HZZ.out)
      obtain ⟨ix, hix, hx1, hx2⟩ := step_bits u z hu hz
      have HY := hide' (crcStep_lt hu (show z.toNat < 256 by omega))
      go_wp2_with fail
      refine (rnumber_any ix _ (by omega)).mono ?_
      rintro e w' ⟨rfl, rfl⟩
      go_wp2
      go_round
      case rel =>
        refine ⟨j + 1, crcStep u z.toNat, by omega, by go_num, rfl, HY.out, ?_⟩
        show _ = _
        rw [← hgu.out, HDZ.out]; rfl
      case measure => simp [intOf]; omega
    · have HE : Hid (zs.drop j = []) := List.drop_of_length_le (by omega)
      have hnb := not_bits u hu
      go_wp2
      go_ret
      refine ⟨?_, rfl⟩
      have e := hgu.out
      rw [HE.out] at e
      rw [sumN, ← e]; rfl
end Go.Proofs.Ytkeelcjfpnbfkaa
