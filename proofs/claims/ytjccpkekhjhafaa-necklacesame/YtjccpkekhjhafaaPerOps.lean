/- Contracts of period.longer and period.Borders. -/
import Derived.Test.YtjccpkekhjhafaaPerMath
import Derived.Test.YtjccpkekhjhafaaByt
import Derived.Test.YtjccpkekhjhafaaInts
namespace Go.Proofs.Ytjccpkekhjhafaa
set_option linter.unusedVariables false
set_option linter.unusedSimpArgs false
open Go.RowKit

set_option maxHeartbeats 400000 in
theorem longer_any (v u : Value) (zs bs : List Int) (i : Nat) (w : World) (hs : Sl .u8 w v zs) (hb : Sl .i64 w u bs) (hl : bs.length = zs.length) (h0 : 1 ≤ i) (hi : i < zs.length)
    (hbs : ∀ j, j < i → bs.getD j 0 = (borI zs (j + 1) : Int)) (hlen : zs.length ≤ 1000000) :
    Calls Try.prog 61 #[v, u, .int .i64 (i : Int)] w fun e w' => e = .returned (.int .i64 (borI zs (i + 1) : Int)) ∧ ∃ m, w' = w.drewN m := by
  have hne1 : zs ≠ [] := fun h => by rw [h] at hi; simp at hi
  have hne2 : bs ≠ [] := fun h => by rw [h] at hl; simp at hl; omega
  have HV := hide' hs
  have HU := hide' hb
  obtain ⟨a, c, rfl, _⟩ := hs
  obtain ⟨a', c', rfl, _⟩ := hb
  obtain ⟨n1, hn1⟩ : ∃ n, zs.length = n := ⟨_, rfl⟩
  rw [hl] at HU ⊢
  rw [hn1] at HV HU hi hlen ⊢
  have HL := hide' hn1
  have HB := hide' hbs
  obtain ⟨_, b1, o1, rfl, c1⟩ := HV.out.at hne1
  obtain ⟨_, b2, o2, rfl, c2⟩ := HU.out.at hne2
  have C1 := hide' c1
  have C2 := hide' c2
  clear c1 c2 hne1 hne2 hn1 hl hbs HV HU
  obtain ⟨i, rfl⟩ : ∃ j, i = j + 1 := ⟨i - 1, by omega⟩
  have ci := C1.out (i + 1) hi
  have cb := C2.out i (by omega)
  rw [HB.out i (by omega)] at cb
  have hlt := borI_lt (s := zs) (n := i + 1) (by omega) (by rw [HL.out]; omega)
  obtain ⟨q, HQ⟩ : ∃ q, Hid (zs.getD (i + 1) 0 = q) := ⟨_, rfl⟩
  rw [HQ.out] at ci
  obtain ⟨bi, HBI⟩ : ∃ b, Hid (borI zs (i + 1) = b) := ⟨_, rfl⟩
  rw [HBI.out] at cb hlt
  go_enter Try.func61, Try.ntmps61
  go_wp2
  clear cb
  go_loopw [7] (fun vn wr => ∃ (n : Nat), n < i + 1 ∧ vn = .int .i64 n ∧ Hid (Srch zs (i + 1) n) ∧ ∃ m, wr = w.drewN m) (fun vn _ => (intOf vn).toNat)
  case atStart => exact ⟨bi, hlt, rfl, (show Srch _ _ _ by rw [← HBI.out]; exact Srch.start (by omega) (by rw [HL.out]; omega)), 0, rfl⟩
  case round =>
    obtain ⟨n, hn, rfl, HS, m, rfl⟩ := hrel
    have ln : (n : Int) < n1 := by omega
    have li : (i : Int) + 1 < n1 := by omega
    have cn := C1.out n (by omega)
    obtain ⟨p, HP⟩ : ∃ p, Hid (zs.getD n 0 = p) := ⟨_, rfl⟩
    rw [HP.out] at cn
    by_cases hpq : p = q
    · have HF : Hid (borI zs (i + 1 + 1) = n + 1) := HS.out.found (by rw [HL.out]; exact hi) (by rw [HP.out, HQ.out, hpq])
      subst hpq
      by_cases hn0 : n = 0
      · subst hn0
        rw [Nat.add_zero] at cn
        have l0 : 0 < n1 := by omega
        go_wp2_with fail
        go_quiet (fail)
        go_wp2_with fail
        go_quiet (fail)
        go_wp2
        go_ret
        rw [HF.out]
        exact ⟨rfl, _, by first | rfl | rw [World.drewN_drewN, World.drewN_drewN]⟩
      · have hn1 : (0 : Int) < n := by omega
        have hn2 : 0 < n := by omega
        go_wp2_with fail
        go_quiet (fail)
        go_wp2_with fail
        go_quiet (fail)
        go_wp2
        go_ret
        rw [HF.out]
        exact ⟨rfl, _, by first | rfl | rw [World.drewN_drewN, World.drewN_drewN]⟩
    · have hpq' : (p == q) = false := by simpa using hpq
      by_cases hn0 : n = 0
      · subst hn0
        have HF : Hid (borI zs (i + 1 + 1) = 0) := HS.out.none (by rw [HL.out]; exact hi) (by rw [HP.out, HQ.out]; exact hpq)
        clear hpq
        rw [Nat.add_zero] at cn
        have l0 : 0 < n1 := by omega
        go_wp2_with fail
        go_quiet (fail)
        go_wp2_with fail
        go_quiet (fail)
        go_wp2
        go_ret
        rw [HF.out]
        exact ⟨rfl, _, by first | rfl | rw [World.drewN_drewN, World.drewN_drewN]⟩
      · obtain ⟨n, rfl⟩ : ∃ j, n = j + 1 := ⟨n - 1, by omega⟩
        have HD : Hid (Srch zs (i + 1) (borI zs (n + 1))) := HS.out.down (by rw [HL.out]; omega) (by omega) (by rw [HP.out, HQ.out]; exact hpq)
        have cb := C2.out n (by omega)
        rw [HB.out n (by omega)] at cb
        have hl2 := borI_lt (s := zs) (n := n + 1) (by omega) (by rw [HL.out]; omega)
        obtain ⟨d, HDD⟩ : ∃ b, Hid (borI zs (n + 1) = b) := ⟨_, rfl⟩
        rw [HDD.out] at cb hl2 HD
        clear hpq
        have hn1 : (0 : Int) < ((n + 1 : Nat) : Int) := by omega
        go_wp2_with fail
        go_quiet (fail)
        go_wp2
        go_roundw
        case rel => exact ⟨d, by omega, rfl, HD, _, rfl⟩
        case measure => simp [intOf]; omega

set_option maxHeartbeats 400000 in
theorem borders_any (v : Value) (zs : List Int) (w : World) (hs : Sl .u8 w v zs) (hlen : zs.length ≤ 1000000) :
    Calls Try.prog 55 #[v] w fun e w' => ∃ s, e = .returned s ∧ Own .i64 3 w.heap.size w' s (borsL zs) ∧ Ext w w' := by
  have HS := hide' hs
  obtain ⟨a, c, rfl, h2, h3, _⟩ := hs
  unfold maxLen at h3
  obtain ⟨w1, hmk, ho, he⟩ := make_ints w zs.length hlen
  have HO := hide' ho
  have HE := hide' he
  clear ho he
  go_enter Try.func55, Try.ntmps55
  go_wp2
  clear hmk
  go_loopw [4] (fun vi wr => ∃ (i : Nat) (bs : List Int), 1 ≤ i ∧ (i ≤ zs.length ∨ i = 1) ∧ vi = .int .i64 i ∧ Hid (bs.length = zs.length) ∧ Hid (∀ j, j < i → j < zs.length → bs.getD j 0 = (borI zs (j + 1) : Int)) ∧
    Hid (Own .i64 3 w.heap.size wr (.slice (some ⟨w.heap.size, 0, none⟩) zs.length zs.length) bs) ∧ Hid (Ext w wr)) (fun vi _ => zs.length - (intOf vi).toNat)
  case atStart =>
    refine ⟨1, List.replicate zs.length 0, Nat.le_refl _, .inr rfl, rfl, List.length_replicate, fun j hj hj2 => ?_, HO, HE⟩
    have hj0 : j = 0 := by omega
    subst hj0
    have hb := borI_lt (s := zs) (n := 0 + 1) (by omega) (by omega)
    have : borI zs (0 + 1) = 0 := by omega
    rw [this]
    simp [List.getD, hj2]
  case round =>
    obtain ⟨i, bs, h1, hi, rfl, HL, HB, HO, HE⟩ := hrel
    by_cases hlt : i < zs.length
    · have hlt' : (i : Int) < zs.length := by omega
      go_wp2_with fail
      refine (longer_any _ _ zs bs i _ (HS.out.ext HE.out) HO.out.sl HL.out h1 hlt (fun j hj => HB.out j hj (by omega)) hlen).mono ?_
      rintro e w2 ⟨rfl, m, rfl⟩
      have hfz := HO.out.frozen HL.out i
      have hci := HO.out.cell HL.out i hlt
      have HO2 := hide' ((HO.out.ext (Ext.drewN _ m)).store HL.out i (borI zs (i + 1) : Int))
      go_wp2
      go_roundw
      case rel =>
        refine ⟨i + 1, bs.set i (borI zs (i + 1) : Int), by omega, .inl hlt, by go_num, (show _ = _ by rw [List.length_set]; exact HL.out), fun j hj hj2 => ?_, HO2, ?_⟩
        · by_cases hji : j = i
          · subst hji
            simp [List.getD, HL.out, hj2]
          · have := HB.out j (by omega) hj2
            rw [← this]
            simp only [List.getD_eq_getElem?_getD]
            rw [List.getElem?_set_ne (by omega)]
        · exact Ext.but (HE.out.trans (Ext.drewN _ m)) (Nat.le_refl _) ((But.refl _ _).setCell _ _)
      case measure => simp [intOf]; omega
    · have hlt' : decide ((i : Int) < zs.length) = false := by simp; omega
      have he : bs = borsL zs := by
        refine getD_ext (by rw [HL.out, borsL_len]) fun k hk => ?_
        rw [HL.out] at hk
        rw [borsL_at hk, HB.out k (by omega) hk]
      have HQ := hide' he
      clear he
      go_wp2
      go_ret
      exact ⟨_, rfl, by rw [← HQ.out]; exact HO.out, HE.out⟩
end Go.Proofs.Ytjccpkekhjhafaa
