/- The walk of the law NecklaceTwice. -/
import Derived.Test.YtjccpkekhjhafaaNecKnown
import Derived.Test.YtjccpkekhjhafaaNecLong
import Derived.Test.YtjccpkekhjhafaaLeaOf
namespace Go.Proofs.Ytjccpkekhjhafaa
set_option linter.unusedVariables false
set_option linter.unusedSimpArgs false
open Go.RowKit

theorem rings_at {l : List (List Int)} (h : ∀ x ∈ l, 0 < x.length ∧ atI x = 0) {k : Nat} (hk : k < l.length) : 0 < (l.getD k []).length ∧ atI (l.getD k []) = 0 := by
  rw [List.getD_eq_getElem?_getD, List.getElem?_eq_getElem hk, Option.getD_some]
  exact h _ (List.getElem_mem hk)

set_option maxHeartbeats 1000000 in
theorem lawTwice (v : Value) (zss : List (List Int)) (w : World) (hs : Sls w v zss) (hb : ∀ zs ∈ zss, ∀ z ∈ zs, 0 ≤ z ∧ z ≤ 255) (hl : ∀ zs ∈ zss, zs.length ≤ 140737488351232) :
    Calls Try.prog 5 #[v] w fun e w' => e = .returned (.bool true) ∧ Below w.heap.size w w' := by
  have HS := hide' hs
  have CL := hide' (long_any v zss w hs hl)
  have HLW := hide' (fun h => longB_words (zss := zss) h hb)
  clear hs hb hl
  obtain ⟨D, HD⟩ : ∃ D, Hid (longB zss = D) := ⟨_, rfl⟩
  rw [HD.out] at CL HLW
  cases D with
  | true =>
    go_enter Try.func5, Try.ntmps5
    go_wp2_with fail
    refine CL.out.mono ?_
    rintro e w1 ⟨rfl, rfl⟩
    go_wp2
    go_ret
    exact ⟨rfl, Below.refl _ _⟩
  | false =>
    have HW := hide' (HLW.out rfl).1
    have WC := hide' (canonL_words' HW.out)
    have C1 := hide' (fun W h => canon_any v zss W h HW.out)
    have C2 : Hid (∀ u W, Sls W u (canonL zss) → Calls Try.prog 11 #[u] W fun e w' => ∃ s vs, e = .returned s ∧ OwnV W.heap.size w' s vs ∧ Rows8 W.heap.size w' vs (canonL zss) ∧ Ext W w') := fun u W h => by
      have := canon_any u (canonL zss) W h WC.out
      rw [canonL_twice] at this
      exact this
    have RG : Hid (∀ x ∈ canonL zss, 0 < x.length ∧ atI x = 0) := fun x hx => by
      obtain ⟨h1, y, _, rfl⟩ := canonL_mem hx
      exact ⟨h1, atI_of y⟩
    generalize canonL zss = l at *
    go_enter Try.func5, Try.ntmps5
    go_wp2_with fail
    refine CL.out.mono ?_
    rintro e w1 ⟨rfl, rfl⟩
    go_wp2_with fail
    refine (C1.out _ HS.out).mono ?_
    rintro e w2 ⟨s, vs, rfl, h1, h2, he⟩
    have S1 := hide' (h1.sl.sls h2.read)
    have E1 := hide' he
    clear h1 h2 he
    obtain ⟨a, c, hsv, hm, _⟩ := S1.out
    subst hsv
    unfold maxLen at hm
    obtain ⟨n, HN⟩ : ∃ n, Hid (l.length = n) := ⟨_, rfl⟩
    rw [HN.out] at S1 hm ⊢
    go_wp2
    go_loopw [4] (fun vi wr => ∃ (i : Nat), i ≤ n ∧ vi = .int .i64 (i : Int) ∧ Hid (Ext w2 wr)) (fun vi _ => n - (intOf vi).toNat)
    case atStart => exact ⟨0, Nat.zero_le _, rfl, Ext.refl _⟩
    case round =>
      obtain ⟨i, hi, rfl, HE⟩ := hrel
      by_cases hlt : i < n
      · have hlt' : (i : Int) < n := by omega
        have HI : Hid (i < l.length) := by show _ < _; rw [HN.out]; exact hlt
        obtain ⟨g, off, a2, c2, rfl, hc, h10, h9, h8⟩ := (S1.out.ext HE.out).row HI.out
        have RI := hide' (rings_at RG.out HI.out)
        have CA := hide' (rat_any _ _ _ h8 (WC.out.2 i).2)
        rw [RI.out.2] at CA
        have d0 := RI.out.1
        unfold maxLen at h10
        clear h8 RI
        generalize (l.getD i []).length = m at *
        have d1 : ((m : Int) == (0 : Int)) = false := by simp; omega
        go_wp2_with fail
        refine CA.out.mono ?_
        rintro e w3 ⟨rfl, he⟩
        have E2 := hide' (HE.out.trans he)
        clear he hc
        go_wp2
        go_roundw
        case rel => exact ⟨i + 1, by omega, by go_num, E2⟩
        case measure => simp [intOf]; omega
      · have hlt' : decide ((i : Int) < n) = false := by simp; omega
        go_wp2_with fail
        refine (C2.out _ _ (S1.out.ext HE.out)).mono ?_
        rintro e w3 ⟨s', vs', rfl, h1, h2, he⟩
        have S2 := hide' (h1.sl.sls h2.read)
        have E2 := hide' (HE.out.trans he)
        clear h1 h2 he
        go_wp2_with fail
        refine (rrows_any _ _ l l _ S2.out (S1.out.ext E2.out) (fun k => (WC.out.2 k).1) (fun k => (WC.out.2 k).1) (Nat.le_trans WC.out.1 (by omega)) (Nat.le_trans WC.out.1 (by omega))).mono ?_
        rw [decide_eq_true rfl]
        rintro e w4 ⟨rfl, he⟩
        have E3 := hide' (E2.out.trans he)
        clear he
        go_wp2_with fail
        refine (known_any _).mono ?_
        rintro e w5 ⟨rfl, he⟩
        have E4 := hide' (E3.out.trans he)
        clear he
        go_wp2
        go_ret
        exact ⟨rfl, E1.out.trans E4.out⟩
end Go.Proofs.Ytjccpkekhjhafaa
