/- Contract of skew.alike: are two triples the same? -/
import Derived.Test.YtnacjmkconabdaaSkMath
import Derived.Test.YtnacjmkconabdaaEqInt
import Derived.Test.YtnacjmkconabdaaNatRow
namespace Go.Proofs.Ytnacjmkconabdaa
set_option linter.unusedVariables false
set_option linter.unusedSimpArgs false
open Go.RowKit

/-- Three numbers of a row. -/
def cut3 (z : List Int) (a : Nat) : List Int := (z.take (a + 3)).drop a
theorem cut3_eq {z : List Int} {a : Nat} (h : a + 3 ≤ z.length) : cut3 z a = [z.getD a 0, z.getD (a + 1) 0, z.getD (a + 2) 0] := by
  unfold cut3
  rw [List.drop_take, show a + 3 - a = 3 by omega, drop_getD (show a < z.length by omega), drop_getD (show a + 1 < z.length by omega), drop_getD (show a + 1 + 1 < z.length by omega)]
  rfl
theorem cut3_tri {s : List Int} {a b : Nat} (ha : a ≤ s.length) (hb : b ≤ s.length) : decide (cut3 (tailI s) a = cut3 (tailI s) b) = triB s a b := by
  rw [cut3_eq (by rw [tailI_len]; omega), cut3_eq (by rw [tailI_len]; omega)]
  unfold triB
  refine decide_eq_decide.2 ?_
  simp only [tailI_at, List.cons.injEq, and_true]

set_option maxHeartbeats 1000000 in
theorem alike3_any (sv : Value) (s : List Int) (i j : Nat) (w : World) (hs : Sl .i64 w sv (tailI s)) (hi : i ≤ s.length) (hj : j ≤ s.length) (hlen : s.length ≤ 200000) :
    Calls Try.prog 36 #[sv, .int .i64 i, .int .i64 j] w fun e w' => e = .returned (.bool (triB s i j)) ∧ ∃ m, w' = w.drewN m := by
  have HV := hide' hs
  obtain ⟨a, c, rfl, _⟩ := hs
  have HTL := hide' (tailI_len s)
  have HA := hide' (cut3_tri hi hj)
  rw [HTL.out] at HV ⊢
  obtain ⟨n, HN⟩ : ∃ n, Hid (s.length = n) := ⟨_, rfl⟩
  rw [HN.out] at HV hlen HTL hi hj ⊢
  obtain ⟨L, HL⟩ : ∃ L, Hid (n + 3 = L) := ⟨_, rfl⟩
  have hL : L ≤ 200003 := by rw [← HL.out]; omega
  have hiL : i + 3 ≤ L := by rw [← HL.out]; omega
  have hjL : j + 3 ≤ L := by rw [← HL.out]; omega
  rw [HL.out] at HV HTL ⊢
  obtain ⟨D, HD⟩ : ∃ D, Hid (triB s i j = D) := ⟨_, rfl⟩
  rw [HD.out] at HA ⊢
  obtain ⟨p1, r1, s1⟩ := HV.out.runCut (P := Try.prog) 22 3 Try.underlying22 sizeI64 i (i + 3) (by omega) (by rw [HTL.out]; omega)
  obtain ⟨p2, r2, s2⟩ := HV.out.runCut (P := Try.prog) 22 3 Try.underlying22 sizeI64 j (j + 3) (by omega) (by rw [HTL.out]; omega)
  rw [show i + 3 - i = 3 by omega] at r1 s1
  rw [show j + 3 - j = 3 by omega] at r2 s2
  have HW : Hid (∀ m, Calls Try.prog 39 #[.slice p1 3 (c - i), .slice p2 3 (c - j)] (w.drewN m) fun e w' => e = .returned (.bool D) ∧ ∃ k, w' = (w.drewN m).drewN k) := fun m => by
    have := equalI_any _ _ (cut3 (tailI s) i) (cut3 (tailI s) j) (w.drewN m) (s1.drewN m) (s2.drewN m) (by unfold cut3; rw [List.length_drop, List.length_take]; omega) (by unfold cut3; rw [List.length_drop, List.length_take]; omega)
    rw [HA.out] at this
    exact this
  have e1 : ((i : Int) + 3) = ((i + 3 : Nat) : Int) := by omega
  have e2 : ((j : Int) + 3) = ((j + 3 : Nat) : Int) := by omega
  generalize c - i = q2 at *
  generalize c - j = q4 at *
  generalize hI : i + 3 = I at *
  generalize hJ : j + 3 = J at *
  clear s1 s2 hI hJ
  go_enter Try.func36, Try.ntmps36
  go_wp2_with fail
  go_quiet ((go_at_call 39; exact Calls.quiet_of (HW.out _)))
  go_wp2
  go_ret
  exact ⟨rfl, _, by first | rfl | rw [World.drewN_drewN]⟩
end Go.Proofs.Ytnacjmkconabdaa
