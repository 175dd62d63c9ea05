/- Contracts of the document's own cursor. -/
import Derived.Test.YthdndcoannigmaaCurFour
import Derived.Test.YthdndcoannigmaaVarRGet
namespace Go.Proofs.Ythdndcoannigmaa
set_option linter.unusedVariables false
set_option linter.unusedSimpArgs false
open Go.RowKit

theorem rtake_any (b : Nat) (zs : List Int) (n : Int) (w : World) (hC : Cur 28 w b zs) :
    Calls Try.prog 11 #[.pointer (some ⟨b, 0, none⟩), .int .i64 n] w fun e w' => ∃ s, e = .returned (.tuple #[s, .bool (takeL n zs).2.1]) ∧ Sl .u8 w' s (takeL n zs).1 ∧ Cur 28 w' b (takeL n zs).2.2 ∧ But b w w' := by
  have HC := hide' hC
  obtain ⟨v, h1, hs⟩ := hC.sl
  obtain ⟨a, c, rfl, h2, h3, _⟩ := id hs
  have hc : w.cell? ⟨b, 0, none⟩ = some (.slice a zs.length c) := by simp [World.cell?, h1]
  have hf : w.frozen? ⟨b, 0, none⟩ = false := by simp [World.frozen?, h1]
  unfold maxLen at h3
  clear h1 hC
  have fin : Sl .u8 w (.slice none 0 0) [] := ⟨none, 0, rfl, by simp, by simp [maxLen], fun _ => rfl, .inl rfl⟩
  have FIN := hide' fin
  clear fin
  by_cases g1 : n < 0
  · rw [takeL_out (by omega)]
    clear hs
    go_enter Try.func11, Try.ntmps11
    go_wp2
    go_ret2
    exact ⟨_, rfl, FIN.out, HC.out, But.refl _ _⟩
  have g1' : 0 ≤ n := by omega
  have d1 : decide (n < 0) = false := by simpa using g1
  by_cases g2 : (zs.length : Int) < n
  · rw [takeL_out (by omega)]
    have d2 : decide ((zs.length : Int) < n) = true := by simpa using g2
    clear hs
    go_enter Try.func11, Try.ntmps11
    go_wp2
    go_ret2
    exact ⟨_, rfl, FIN.out, HC.out, But.refl _ _⟩
  have g2' : n ≤ (zs.length : Int) := by omega
  have d2 : decide ((zs.length : Int) < n) = false := by simpa using g2
  rw [takeL_in g1' g2']
  obtain ⟨n, rfl⟩ := Int.eq_ofNat_of_zero_le g1'
  clear hs hc hf
  obtain ⟨a, c, a', hc, hf, h2, h3, r1, r2, hB, hS, hC'⟩ := HC.out.cut (P := Try.prog) 22 5 Try.underlying22 size8 n (by omega)
  have HB := hide' hB
  have HS := hide' hS
  have HC' := hide' hC'
  unfold maxLen at h3
  clear hB hS hC' HC
  go_enter Try.func11, Try.ntmps11
  go_wp2
  go_ret2
  exact ⟨_, rfl, HS.out, HC'.out, HB.out⟩

theorem rbyte_any (b : Nat) (zs : List Int) (w : World) (hC : Cur 28 w b zs) :
    Calls Try.prog 9 #[.pointer (some ⟨b, 0, none⟩)] w fun e w' => e = .returned (.tuple #[.int .u8 (byteL zs).1, .bool (byteL zs).2.1]) ∧ Cur 28 w' b (byteL zs).2.2 ∧ But b w w' := by
  go_enter Try.func9, Try.ntmps9
  go_wp2_with fail
  refine (rtake_any b zs 1 w hC).mono ?_
  clear hC
  rintro e w1 ⟨s, rfl, hs, hC, hB⟩
  have HB := hide' hB
  have HC := hide' hC
  clear hB hC
  cases zs with
  | nil =>
    rw [takeL_out (by simp)] at HC hs ⊢
    clear hs
    go_wp2
    go_ret2
    exact ⟨rfl, HC.out, HB.out⟩
  | cons z r =>
    rw [takeL_in (by omega) (by simp only [List.length_cons]; omega)] at HC hs ⊢
    obtain ⟨a, c, hv, _⟩ := id hs
    subst hv
    obtain ⟨_, g, off, hg, hc⟩ := hs.at (by simp)
    subst hg
    have hc0 : w1.cell? ⟨g, off, none⟩ = some (.int .u8 z) := hc 0 (by simp)
    clear hc hs
    go_wp2
    go_ret2
    exact ⟨rfl, HC.out, HB.out⟩

theorem rfour_any (b : Nat) (zs : List Int) (w : World) (hC : Cur 28 w b zs) (hr : Bytes8 zs) :
    Calls Try.prog 15 #[.pointer (some ⟨b, 0, none⟩)] w fun e w' => e = .returned (.tuple #[.int .u32 (fourL zs).1, .bool (fourL zs).2.1]) ∧ Cur 28 w' b (fourL zs).2.2 ∧ But b w w' := by
  go_enter Try.func15, Try.ntmps15
  go_wp2_with fail
  refine (rtake_any b zs 4 w hC).mono ?_
  clear hC
  rintro e w2 ⟨s, rfl, hS, hC2, hB⟩
  have HB := hide' hB
  clear hB
  by_cases h4 : zs.length < 4
  · rw [takeL_out (by omega)] at hC2 hS ⊢
    have HC2 := hide' hC2
    clear hS hC2
    have HV := hide' (fourL_short h4)
    go_wp2
    go_ret2
    rw [HV.out]
    exact ⟨rfl, HC2.out, HB.out⟩
  rw [takeL_in (by omega) (by omega)] at hC2 hS ⊢
  obtain ⟨z0, z1, z2, z3, r, HZ⟩ : ∃ z0 z1 z2 z3 r, Hid (zs = z0 :: z1 :: z2 :: z3 :: r) := by
    match zs, h4 with
    | [], h4 => simp at h4
    | [_], h4 => simp at h4
    | [_, _], h4 => simp at h4
    | [_, _, _], h4 => simp at h4
    | z0 :: z1 :: z2 :: z3 :: r, _ => exact ⟨_, _, _, _, _, rfl⟩
  have r0 := hr z0 (by rw [HZ.out]; simp)
  have r1 := hr z1 (by rw [HZ.out]; simp)
  have r2 := hr z2 (by rw [HZ.out]; simp)
  have r3 := hr z3 (by rw [HZ.out]; simp)
  rw [HZ.out] at hS hC2
  have hS' : Sl .u8 w2 s [z0, z1, z2, z3] := hS
  obtain ⟨a, c, hv, _⟩ := id hS'
  subst hv
  obtain ⟨_, g, off, hg, hc⟩ := hS'.at (by simp)
  subst hg
  have hc0 : w2.cell? ⟨g, off, none⟩ = some (.int .u8 z0) := hc 0 (by simp)
  have hc1 : w2.cell? ⟨g, off + 1, none⟩ = some (.int .u8 z1) := hc 1 (by simp)
  have hc2 : w2.cell? ⟨g, off + 2, none⟩ = some (.int .u8 z2) := hc 2 (by simp)
  have hc3 : w2.cell? ⟨g, off + 3, none⟩ = some (.int .u8 z3) := hc 3 (by simp)
  have HC2 := hide' hC2
  clear hS hS' hc hC2 hr
  have k0 : IntKind.u32.wrap z0 = z0 := by rw [IntKind.wrap_u32]; omega
  have k1 : IntKind.u32.wrap z1 = z1 := by rw [IntKind.wrap_u32]; omega
  have k2 : IntKind.u32.wrap z2 = z2 := by rw [IntKind.wrap_u32]; omega
  have k3 : IntKind.u32.wrap z3 = z3 := by rw [IntKind.wrap_u32]; omega
  go_wp2_with fail
  go_quiet (fail)
  go_wp2
  go_ret2
  rw [HZ.out]
  exact ⟨rfl, HC2.out.ext (Ext.drewN _ _), HB.out.trans (But.ofExt (Ext.drewN _ _))⟩

theorem rvarint_any (b : Nat) (zs : List Int) (n : Int) (w : World) (hC : Cur 28 w b zs) (hr : Bytes8 zs) (hn : n < 9223372036854775808) :
    Calls Try.prog 13 #[.pointer (some ⟨b, 0, none⟩), .int .i64 n] w fun e w' => e = .returned (.tuple #[.int .i64 (varL n zs).1, .bool (varL n zs).2.1]) ∧ Cur 28 w' b (varL n zs).2.2 ∧ But b w w' := by
  have HC := hide' hC
  have HR := hide' hr
  obtain ⟨x, m, ok, hg⟩ : ∃ x m ok, getL zs = (x, m, ok) := ⟨_, _, _, rfl⟩
  obtain ⟨v, h1, hs⟩ := hC.sl
  have hc : w.cell? ⟨b, 0, none⟩ = some v := by simp [World.cell?, h1]
  have HS := hide' hs
  obtain ⟨a, c, rfl, h2, h3, _⟩ := hs
  unfold maxLen at h3
  clear h1 hr hC
  go_enter Try.func13, Try.ntmps13
  go_wp2_with fail
  refine (rget_any _ zs w HS.out HR.out).mono ?_
  clear hc HS
  rintro e w1 ⟨rfl, hE⟩
  have HC1 := hide' (HC.out.ext hE)
  have HB1 := hide' (But.ofExt (b := b) hE)
  clear hE HC
  rw [hg]
  simp only [getV]
  cases ok with
  | false =>
    have HV := hide' (varL_no (most := n) hg)
    clear hg
    go_wp2
    go_ret2
    rw [HV.out]
    exact ⟨rfl, HC1.out, HB1.out⟩
  | true =>
    obtain ⟨g1, g2, g3⟩ := getL_ok HR.out hg
    by_cases h0 : n < 0
    · have HV := hide' (varL_out (most := n) hg (by omega))
      have hd0 : decide (n < 0) = true := by simpa using h0
      clear hg
      go_wp2
      go_ret2
      rw [HV.out]
      exact ⟨rfl, HC1.out, HB1.out⟩
    have h0' : 0 ≤ n := by omega
    have hd0 : decide (n < 0) = false := by simpa using h0
    have hw : IntKind.u64.wrap n = n := by rw [IntKind.wrap_u64]; omega
    by_cases hx : x ≤ n
    · have HV := hide' (varL_in hg h0' hx)
      clear hg
      have hd : decide (n < x) = false := by simpa using hx
      obtain ⟨m, rfl⟩ := Int.eq_ofNat_of_zero_le (show 0 ≤ m by omega)
      have hw2 : IntKind.i64.wrap x = x := by unfold IntKind.wrap; simp [IntKind.bits, IntKind.signed]; omega
      obtain ⟨a, c, a', hc, hf, h2, h3, r1, r2, hB, hS, hC'⟩ := HC1.out.cut (P := Try.prog) 22 5 Try.underlying22 size8 m (by omega)
      have HB := hide' (HB1.out.trans hB)
      have HC' := hide' hC'
      unfold maxLen at h3
      clear hB hS hC' HC1 HB1
      go_wp2
      go_ret2
      rw [HV.out]
      exact ⟨rfl, HC'.out, HB.out⟩
    · have HV := hide' (varL_out hg (fun h => hx h.2))
      clear hg
      have hd : decide (n < x) = true := by simpa using hx
      go_wp2
      go_ret2
      rw [HV.out]
      exact ⟨rfl, HC1.out, HB1.out⟩
end Go.Proofs.Ythdndcoannigmaa
