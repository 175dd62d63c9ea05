/- Contract of sais.alike. -/
import Derived.Test.YtabgbioocfdjiaaSaPart
import Derived.Test.YtabgbioocfdjiaaEqInt
import Derived.Test.YtabgbioocfdjiaaNatRow
namespace Go.Proofs.Ytabgbioocfdjiaa
set_option linter.unusedVariables false
set_option linter.unusedSimpArgs false
open Go.RowKit

set_option maxHeartbeats 1000000 in
theorem alike_any (sv fv : Value) (s : List Int) (i j : Nat) (w : World) (hs : Sl .i64 w sv s) (hf : Sl .i64 w fv (natL (firstN s))) (hi : i < (firstN s).length) (hj : j < (firstN s).length) (hlen : s.length ≤ 1000000) :
    Calls Try.prog 39 #[sv, fv, .int .i64 i, .int .i64 j] w fun e w' => e = .returned (.bool (alikeB s i j)) ∧ ∃ m, w' = w.drewN m := by
  have HV := hide' hs
  have HF := hide' hf
  have hfl : (firstN s).length ≤ s.length := by have := firstN_half s; omega
  obtain ⟨a, c, rfl, _⟩ := hs
  obtain ⟨a', c', rfl, _⟩ := hf
  obtain ⟨_, _, _, hcf⟩ := HF.out.nat
  have HLN := hide' (natL_len (firstN s))
  rw [HLN.out] at HF hcf ⊢
  obtain ⟨n, HN⟩ : ∃ n, Hid (s.length = n) := ⟨_, rfl⟩
  obtain ⟨f, HL⟩ : ∃ f, Hid ((firstN s).length = f) := ⟨_, rfl⟩
  have HVN := HV
  rw [HN.out] at HVN hlen hfl ⊢
  rw [HL.out] at HF hcf hfl hi hj ⊢
  obtain ⟨g, off, rfl, kc⟩ := hcf (by omega)
  have KC := hide' kc
  clear hcf kc
  have h1 : (f : Int) - 1 = ((f - 1 : Nat) : Int) := by omega
  by_cases hil : i + 1 = f
  · have d1 : ((i : Int) == ((f - 1 : Nat) : Int)) = true := by simp; omega
    have HA : Hid (alikeB s i j = false) := by
      show _ = _
      unfold alikeB
      refine decide_eq_false fun h => ?_
      have := h.1
      rw [HL.out] at this
      omega
    rw [HA.out]
    clear hil
    go_enter Try.func39, Try.ntmps39
    go_wp2
    go_ret
    exact ⟨rfl, 0, rfl⟩
  · have d1 : ((i : Int) == ((f - 1 : Nat) : Int)) = false := by simp; omega
    by_cases hjl : j + 1 = f
    · have d2 : ((j : Int) == ((f - 1 : Nat) : Int)) = true := by simp; omega
      have HA : Hid (alikeB s i j = false) := by
        show _ = _
        unfold alikeB
        refine decide_eq_false fun h => ?_
        have := h.2.1
        rw [HL.out] at this
        omega
      rw [HA.out]
      clear hil hjl
      go_enter Try.func39, Try.ntmps39
      go_wp2
      go_ret
      exact ⟨rfl, 0, rfl⟩
    · have d2 : ((j : Int) == ((f - 1 : Nat) : Int)) = false := by simp; omega
      have hi1 : i + 1 < f := by omega
      have hj1 : j + 1 < f := by omega
      have ci := KC.out i hi
      have ci1 := KC.out (i + 1) hi1
      have cj := KC.out j hj
      have cj1 := KC.out (j + 1) hj1
      have i1 := firstN_lt s (show i < i + 1 by omega) (by rw [HL.out]; exact hi1)
      have i2 := (firstN_at (s := s) (i := i + 1) (by rw [HL.out]; exact hi1)).1
      have j1 := firstN_lt s (show j < j + 1 by omega) (by rw [HL.out]; exact hj1)
      have j2 := (firstN_at (s := s) (i := j + 1) (by rw [HL.out]; exact hj1)).1
      rw [HN.out] at i2 j2
      obtain ⟨D, HD⟩ : ∃ D, Hid (alikeB s i j = D) := ⟨_, rfl⟩
      have HA : Hid (decide (secI s ((firstN s).getD i 0) ((firstN s).getD (i + 1) 0) = secI s ((firstN s).getD j 0) ((firstN s).getD (j + 1) 0)) = D) := by
        show _ = _
        rw [← HD.out]
        unfold alikeB
        exact decide_eq_decide.2 ⟨fun h => ⟨by rw [HL.out]; exact hi1, by rw [HL.out]; exact hj1, h⟩, fun h => h.2.2⟩
      rw [HD.out]
      obtain ⟨A, hA⟩ : ∃ A, (firstN s).getD i 0 = A := ⟨_, rfl⟩
      obtain ⟨B, hB⟩ : ∃ A, (firstN s).getD (i + 1) 0 = A := ⟨_, rfl⟩
      obtain ⟨C, hC⟩ : ∃ A, (firstN s).getD j 0 = A := ⟨_, rfl⟩
      obtain ⟨E, hE⟩ : ∃ A, (firstN s).getD (j + 1) 0 = A := ⟨_, rfl⟩
      rw [hA, hB, hC, hE] at HA
      rw [hA] at ci i1
      rw [hB] at ci1 i1 i2
      rw [hC] at cj j1
      rw [hE] at cj1 j1 j2
      clear hA hB hC hE
      obtain ⟨p1, r1, s1⟩ := HVN.out.runCut (P := Try.prog) 22 3 Try.underlying22 sizeI64 A (B + 1) (by omega) (by rw [HN.out]; omega)
      obtain ⟨p2, r2, s2⟩ := HVN.out.runCut (P := Try.prog) 22 3 Try.underlying22 sizeI64 C (E + 1) (by omega) (by rw [HN.out]; omega)
      have l1 : (secI s A B).length ≤ 1000000 := by rw [secI_len (by omega) (by rw [HN.out]; exact i2)]; omega
      have l2 : (secI s C E).length ≤ 1000000 := by rw [secI_len (by omega) (by rw [HN.out]; exact j2)]; omega
      have HW : Hid (∀ m, Calls Try.prog 41 #[.slice p1 (B + 1 - A) (c - A), .slice p2 (E + 1 - C) (c - C)] (w.drewN m) fun e w' => e = .returned (.bool D) ∧ ∃ k, w' = (w.drewN m).drewN k) := fun m => by
        have := equalI_any _ _ (secI s A B) (secI s C E) (w.drewN m) (s1.drewN m) (s2.drewN m) l1 l2
        rw [HA.out] at this
        exact this
      have e1 : ((B : Int) + 1) = ((B + 1 : Nat) : Int) := by omega
      have e2 : ((E : Int) + 1) = ((E + 1 : Nat) : Int) := by omega
      have e3 : ((i : Int) + 1) = ((i + 1 : Nat) : Int) := by omega
      have e4 : ((j : Int) + 1) = ((j + 1 : Nat) : Int) := by omega
      have b3 : ((i + 1 : Nat) : Int) < f := by omega
      have b4 : ((j + 1 : Nat) : Int) < f := by omega
      generalize B + 1 - A = q1 at *
      generalize c - A = q2 at *
      generalize E + 1 - C = q3 at *
      generalize c - C = q4 at *
      generalize hI : i + 1 = I at *
      generalize hJ : j + 1 = J at *
      generalize hBB : B + 1 = BB at *
      generalize hEE : E + 1 = EE at *
      clear s1 s2 l1 l2 hil hjl hI hJ hBB hEE
      go_enter Try.func39, Try.ntmps39
      go_wp2_with fail
      go_quiet ((go_at_call 41; exact Calls.quiet_of (HW.out _)))
      go_wp2
      go_ret
      exact ⟨rfl, _, by first | rfl | rw [World.drewN_drewN]⟩
end Go.Proofs.Ytabgbioocfdjiaa
