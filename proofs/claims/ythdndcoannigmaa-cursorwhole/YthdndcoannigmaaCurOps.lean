/- Contracts of Byte, Take, Varint and Four. -/
import Derived.Test.YthdndcoannigmaaCurObj
import Derived.Test.YthdndcoannigmaaCurMath
import Derived.Test.YthdndcoannigmaaVarGet
namespace Go.Proofs.Ythdndcoannigmaa
set_option linter.unusedVariables false
set_option linter.unusedSimpArgs false
open Go.RowKit

/-- A slice that is not empty: where it lies. -/
theorem Sl.at {k : IntKind} {w : World} {a : Option Addr} {n c : Nat} {zs : List Int} (h : Sl k w (.slice a n c) zs) (hn : zs ≠ []) : zs.length = n ∧ ∃ g off, a = some ⟨g, off, none⟩ ∧ ∀ i, i < n → w.cell? ⟨g, off + i, none⟩ = some (.int k (zs.getD i 0)) := by
  obtain ⟨a', c', h1, h2, h3, h4, h5⟩ := h
  simp only [Value.slice.injEq] at h1
  obtain ⟨rfl, rfl, rfl⟩ := h1
  rcases h5 with h5 | ⟨g, off, h5, h6⟩
  · exact absurd h5 hn
  · exact ⟨rfl, g, off, h5, h6⟩

theorem Sl.cellAt {k : IntKind} {w : World} {g off n c : Nat} {zs : List Int} (h : Sl k w (.slice (some ⟨g, off, none⟩) n c) zs) (i : Nat) (hi : i < n) : w.cell? ⟨g, off + i, none⟩ = some (.int k (zs.getD i 0)) := by
  obtain ⟨a', c', h1, h2, h3, h4, h5⟩ := h
  simp only [Value.slice.injEq] at h1
  obtain ⟨rfl, rfl, rfl⟩ := h1
  rcases h5 with h5 | ⟨g', off', h5, h6⟩
  · rw [h5] at hi; simp at hi
  · simp only [Option.some.injEq, Addr.mk.injEq, and_true] at h5
    obtain ⟨rfl, rfl⟩ := h5
    exact h6 i hi

theorem byte_any (b : Nat) (zs : List Int) (w : World) (hC : Cur 51 w b zs) :
    Calls Try.prog 8 #[.pointer (some ⟨b, 0, none⟩)] w fun e w' => e = .returned (.tuple #[.int .u8 (byteL zs).1, .bool (byteL zs).2.1]) ∧ Cur 51 w' b (byteL zs).2.2 ∧ But b w w' := by
  go_enter Try.func8, Try.ntmps8
  go_wp2_with fail
  refine (has_any b zs 1 w hC).mono ?_
  rintro e w1 ⟨rfl, rfl⟩
  cases zs with
  | nil =>
    rw [show decide (0 ≤ (1 : Int) ∧ (1 : Int) ≤ (([] : List Int).length : Int)) = false from rfl]
    go_wp2
    go_ret2
    exact ⟨rfl, hC, But.refl _ _⟩
  | cons z r =>
    rw [show decide (0 ≤ (1 : Int) ∧ (1 : Int) ≤ ((z :: r).length : Int)) = true from by simp; omega]
    have HC := hide' hC
    clear hC
    go_wp2_with fail
    refine (skip_any b (z :: r) 1 _ HC.out (by simp)).mono ?_
    rintro e w2 ⟨a, c, rfl, hS, hC2, hB⟩
    obtain ⟨_, g, off, rfl, hc⟩ := hS.at (by simp)
    have hc0 : w2.cell? ⟨g, off, none⟩ = some (.int .u8 z) := hc 0 (by omega)
    have HC2 := hide' hC2
    have HB := hide' hB
    clear hS hc hC2 hB HC
    go_wp2
    go_ret2
    exact ⟨rfl, HC2.out, HB.out⟩

theorem byte_nil (w : World) : Calls Try.prog 8 #[.pointer none] w fun e w' => e = .returned (.tuple #[.int .u8 0, .bool false]) ∧ w' = w := by
  go_enter Try.func8, Try.ntmps8
  go_wp2_with fail
  refine (has_nil 1 w).mono ?_
  rintro e w1 ⟨rfl, rfl⟩
  go_wp2
  go_ret2
  exact ⟨rfl, rfl⟩

theorem take_any (b : Nat) (zs : List Int) (n : Int) (w : World) (hC : Cur 51 w b zs) (hm : zs.length ≤ 1000000) :
    Calls Try.prog 10 #[.pointer (some ⟨b, 0, none⟩), .int .i64 n] w fun e w' => ∃ s, e = .returned (.tuple #[s, .bool (takeL n zs).2.1]) ∧ Own .u8 5 w.heap.size w' s (takeL n zs).1 ∧ Cur 51 w' b (takeL n zs).2.2 ∧ But b w w' := by
  go_enter Try.func10, Try.ntmps10
  go_wp2_with fail
  refine (has_any b zs n w hC).mono ?_
  rintro e w1 ⟨rfl, rfl⟩
  have HC := hide' hC
  clear hC
  by_cases h : 0 ≤ n ∧ n ≤ (zs.length : Int)
  · obtain ⟨h0, h1⟩ := h
    have HT := hide' (takeL_in h0 h1)
    rw [decide_eq_true (And.intro h0 h1)]
    obtain ⟨n, rfl⟩ := Int.eq_ofNat_of_zero_le h0
    go_wp2_with fail
    refine (skip_any b zs n _ HC.out (by omega)).mono ?_
    rintro e w2 ⟨a, c, rfl, hS, hC2, hB⟩
    have HC2 := hide' hC2
    have HB := hide' hB
    have HS := hide' hS
    clear hS hC2 hB
    have hl : (zs.take n).length ≤ 1000000 := by simp; omega
    go_wp2_with fail
    refine (clone_any a n c _ _ HS.out hl).mono ?_
    rintro e w3 ⟨s, rfl, hO, hE⟩
    have HO := hide' hO
    have HE := hide' hE
    clear hO hE
    go_wp2
    go_ret2
    rw [HT.out]
    refine ⟨s, rfl, ?_, HC2.out.ext HE.out, HB.out.trans (But.ofExt HE.out)⟩
    exact HO.out.low (HB.out.size)
  · have HT := hide' (takeL_out h)
    rw [decide_eq_false h]
    go_wp2
    go_ret2
    rw [HT.out]
    exact ⟨_, rfl, Own.nil _ _ _ _, HC.out, But.refl _ _⟩

theorem take_nil (n : Int) (w : World) : Calls Try.prog 10 #[.pointer none, .int .i64 n] w fun e w' => e = .returned (.tuple #[.slice none 0 0, .bool false]) ∧ w' = w := by
  go_enter Try.func10, Try.ntmps10
  go_wp2_with fail
  refine (has_nil n w).mono ?_
  rintro e w1 ⟨rfl, rfl⟩
  go_wp2
  go_ret2
  exact ⟨rfl, rfl⟩

theorem varint_any (b : Nat) (zs : List Int) (n : Int) (w : World) (hC : Cur 51 w b zs) (hr : Bytes8 zs) (hn : n < 9223372036854775808) :
    Calls Try.prog 12 #[.pointer (some ⟨b, 0, none⟩), .int .i64 n] w fun e w' => e = .returned (.tuple #[.int .i64 (varL n zs).1, .bool (varL n zs).2.1]) ∧ Cur 51 w' b (varL n zs).2.2 ∧ But b w w' := by
  have HC := hide' hC
  have HR := hide' hr
  obtain ⟨x, m, ok, hg⟩ : ∃ x m ok, getL zs = (x, m, ok) := ⟨_, _, _, rfl⟩
  obtain ⟨v, h1, hs⟩ := hC.sl
  have hc : w.cell? ⟨b, 0, none⟩ = some v := by simp [World.cell?, h1]
  have HS := hide' hs
  obtain ⟨a, c, rfl, h2, h3, _⟩ := hs
  unfold maxLen at h3
  clear h1 hr hC
  by_cases h0 : n < 0
  · rw [varL_out hg (by omega)]
    go_enter Try.func12, Try.ntmps12
    go_wp2
    go_ret2
    exact ⟨rfl, HC.out, But.refl _ _⟩
  have h0' : 0 ≤ n := by omega
  have hd0 : decide (n < 0) = false := by simpa using h0
  go_enter Try.func12, Try.ntmps12
  go_wp2_with fail
  refine (get_any _ zs w HS.out HR.out).mono ?_
  rintro e w1 ⟨rfl, rfl⟩
  rw [hg]
  simp only [getV]
  cases ok with
  | false =>
    have HV := hide' (varL_no (most := n) hg)
    clear hg
    go_wp2
    go_ret2
    rw [HV.out]
    exact ⟨rfl, HC.out, But.refl _ _⟩
  | true =>
    obtain ⟨g1, g2, g3⟩ := getL_ok HR.out hg
    have hw : IntKind.u64.wrap n = n := by rw [IntKind.wrap_u64]; omega
    by_cases hx : x ≤ n
    · have HV := hide' (varL_in hg h0' hx)
      clear hg
      have hd : decide (n < x) = false := by simpa using hx
      obtain ⟨m, rfl⟩ := Int.eq_ofNat_of_zero_le (show 0 ≤ m by omega)
      go_wp2_with fail
      refine (skip_any b zs m _ HC.out (by omega)).mono ?_
      rintro e w2 ⟨a, c, rfl, hS, hC2, hB⟩
      have HC2 := hide' hC2
      have HB := hide' hB
      clear hS hC2 hB
      have hw2 : IntKind.i64.wrap x = x := by unfold IntKind.wrap; simp [IntKind.bits, IntKind.signed]; omega
      go_wp2
      go_ret2
      rw [HV.out]
      exact ⟨rfl, HC2.out, HB.out⟩
    · have HV := hide' (varL_out hg (fun h => hx h.2))
      clear hg
      have hd : decide (n < x) = true := by simpa using hx
      go_wp2
      go_ret2
      rw [HV.out]
      exact ⟨rfl, HC.out, But.refl _ _⟩

theorem varint_nil (n : Int) (w : World) : Calls Try.prog 12 #[.pointer none, .int .i64 n] w fun e w' => e = .returned (.tuple #[.int .i64 0, .bool false]) ∧ w' = w := by
  go_enter Try.func12, Try.ntmps12
  go_wp2
  go_ret2
  exact ⟨rfl, rfl⟩
end Go.Proofs.Ythdndcoannigmaa
