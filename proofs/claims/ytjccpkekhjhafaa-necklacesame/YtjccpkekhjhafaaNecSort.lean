/- Contracts of necklace.compare and of slices.SortFunc at rings. -/
import Derived.Test.YtjccpkekhjhafaaNecRow
import Derived.Test.YtjccpkekhjhafaaBCmp
import Derived.Test.YtjccpkekhjhafaaCmpInt
import Derived.Shelf.SlSortCmp.WholeK
namespace Go.Proofs.Ytjccpkekhjhafaa
set_option linter.unusedVariables false
set_option linter.unusedSimpArgs false
open Go.RowKit

theorem cmpRing_any (a b : Rg) (w : World) (ha : Sl .u8 w a.rv (rtI a.x)) (hb : Sl .u8 w b.rv (rtI b.x)) (ba : Bytes8 (rtI a.x)) (bb : Bytes8 (rtI b.x)) :
    Calls Try.prog 27 #[.agg #[a.tv, a.rv, .int .i64 (tmI a.x : Int)], .agg #[b.tv, b.rv, .int .i64 (tmI b.x : Int)]] w fun e w' =>
      e = .returned (.int .i64 (rcI a.x b.x)) ∧ ∃ q os', w' = Go.Sort.grow (w.drewN q) os' := by
  have H1 := hide' ha
  have H2 := hide' hb
  have HK : Hid (rcI a.x b.x = keyC (rtI a.x) (rtI b.x) (tmI a.x) (tmI b.x)) := rfl
  rw [HK.out]
  obtain ⟨ra, ta⟩ : ∃ r, r = rtI a.x := ⟨_, rfl⟩
  obtain ⟨rb, tb⟩ : ∃ r, r = rtI b.x := ⟨_, rfl⟩
  obtain ⟨n, tn⟩ : ∃ r, r = tmI a.x := ⟨_, rfl⟩
  obtain ⟨m, tm⟩ : ∃ r, r = tmI b.x := ⟨_, rfl⟩
  rw [← ta] at H1 ba ⊢
  rw [← tb] at H2 bb ⊢
  rw [← tn, ← tm]
  clear ha hb HK ta tb tn tm
  obtain ⟨atv, arv, ax⟩ := a
  obtain ⟨btv, brv, bx⟩ := b
  show Calls Try.prog 27 #[.agg #[atv, arv, .int .i64 (n : Int)], .agg #[btv, brv, .int .i64 (m : Int)]] w _
  have G1 := H1.out
  have G2 := H2.out
  obtain ⟨aa, ac, hav, _⟩ := G1
  obtain ⟨ba', bc, hbv, _⟩ := G2
  dsimp only at hav hbv H1 H2
  subst hav hbv
  obtain ⟨C, HC⟩ : ∃ c, Hid (cmpI ra rb = c) := ⟨_, rfl⟩
  by_cases h0 : C = 0
  · have d0 : (C != (0 : Int)) = false := by simp [h0]
    have HR : Hid (keyC ra rb n m = if (n : Int) < m then -1 else if (m : Int) < n then 1 else 0) := by show _ = _; unfold keyC; rw [HC.out, if_pos h0]
    clear h0
    rw [HR.out]
    clear HR
    generalize hR : (if (n : Int) < m then (-1 : Int) else if (m : Int) < n then 1 else 0) = R
    have HCI : Hid (∀ W, Calls Try.prog 35 #[.int .i64 (n : Int), .int .i64 (m : Int)] W fun e w' => e = .returned (.int .i64 R) ∧ w' = W) := fun W => by rw [← hR]; exact cmpInt_any _ _ W
    clear hR
    go_enter Try.func27, Try.ntmps27
    go_wp2_with fail
    refine (compare_any _ _ ra rb _ ((H1.out.ext (ext_alloc _ _)).ext (ext_alloc _ _)) ((H2.out.ext (ext_alloc _ _)).ext (ext_alloc _ _)) ba bb).mono ?_
    rw [HC.out]
    rintro e w1 ⟨rfl, rfl⟩
    go_wp2_with fail
    refine (HCI.out _).mono ?_
    rintro e w1 ⟨rfl, rfl⟩
    go_wp2
    go_ret
    exact ⟨rfl, 0, _, by rw [Go.Sort.alloc_eq_grow, Go.Sort.alloc_eq_grow, Go.Sort.grow_grow]; rfl⟩
  · have d0 : (C != (0 : Int)) = true := by simp [h0]
    have HR : Hid (keyC ra rb n m = C) := by show _ = _; unfold keyC; rw [HC.out, if_neg h0]
    clear h0
    rw [HR.out]
    go_enter Try.func27, Try.ntmps27
    go_wp2_with fail
    refine (compare_any _ _ ra rb _ ((H1.out.ext (ext_alloc _ _)).ext (ext_alloc _ _)) ((H2.out.ext (ext_alloc _ _)).ext (ext_alloc _ _)) ba bb).mono ?_
    rw [HC.out]
    rintro e w1 ⟨rfl, rfl⟩
    go_wp2
    go_ret
    exact ⟨rfl, 0, _, by rw [Go.Sort.alloc_eq_grow, Go.Sort.alloc_eq_grow, Go.Sort.grow_grow]; rfl⟩
end Go.Proofs.Ytjccpkekhjhafaa
