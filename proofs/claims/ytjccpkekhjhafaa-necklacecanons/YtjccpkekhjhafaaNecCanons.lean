/- The walk of the law NecklaceCanons. -/
import Derived.Test.YtjccpkekhjhafaaNecKnown
import Derived.Test.YtjccpkekhjhafaaNecLong
import Derived.Test.YtjccpkekhjhafaaNecRRoots
import Derived.Test.YtjccpkekhjhafaaRefInts
namespace Go.Proofs.Ytjccpkekhjhafaa
set_option linter.unusedVariables false
set_option linter.unusedSimpArgs false
open Go.RowKit

theorem rootsL_bytes {l : List (List Int)} (h : Words8 l) (k : Nat) : Bytes8 ((rootsL l).getD k []) := by
  refine getD_all' (P := fun x => Bytes8 x) (fun x hx => ?_) (fun z hz => by cases hz) k
  obtain ⟨y, hy, rfl⟩ := List.mem_map.1 hx
  obtain ⟨i, hi, e⟩ := List.mem_iff_getElem.1 hy
  have h2 := (h.2 i).1
  rw [List.getD_eq_getElem?_getD, List.getElem?_eq_getElem hi, Option.getD_some, e] at h2
  exact h2.takeN _

set_option maxHeartbeats 1000000 in
theorem lawCanons (v : Value) (zss : List (List Int)) (w : World) (hs : Sls w v zss) (hb : ∀ zs ∈ zss, ∀ z ∈ zs, 0 ≤ z ∧ z ≤ 255) (hl : ∀ zs ∈ zss, zs.length ≤ 140737488351232) :
    Calls Try.prog 3 #[v] w fun e w' => e = .returned (.bool true) ∧ Below w.heap.size w w' := by
  have HS := hide' hs
  have CL := hide' (long_any v zss w hs hl)
  have HLW := hide' (fun h => longB_words (zss := zss) h hb)
  clear hs hb hl
  obtain ⟨D, HD⟩ : ∃ D, Hid (longB zss = D) := ⟨_, rfl⟩
  rw [HD.out] at CL HLW
  cases D with
  | true =>
    go_enter Try.func3, Try.ntmps3
    go_wp2_with fail
    refine CL.out.mono ?_
    rintro e w1 ⟨rfl, rfl⟩
    go_wp2
    go_ret
    exact ⟨rfl, Below.refl _ _⟩
  | false =>
    have HW := hide' (HLW.out rfl).1
    have WC := hide' (canonL_words' HW.out)
    have C1 := hide' (fun W h => roots_any v zss W h HW.out)
    have C2 := hide' (fun W h => rroots_any v zss W h HW.out)
    have C3 := hide' (fun W h => canon_any v zss W h HW.out)
    have C4 := hide' (fun W h => rcanon_any v zss W h HW.out)
    generalize canonL zss = l at *
    have LR : Hid ((rootsL l).length ≤ 1000000) := by
      have := WC.out.1
      show _ ≤ _
      unfold rootsL
      rw [List.length_map]
      omega
    have LT : Hid ((timesL l).length ≤ 1000000) := by
      have := WC.out.1
      show _ ≤ _
      unfold timesL
      rw [List.length_map]
      omega
    go_enter Try.func3, Try.ntmps3
    go_wp2_with fail
    refine CL.out.mono ?_
    rintro e w1 ⟨rfl, rfl⟩
    go_wp2_with fail
    refine (C1.out _ HS.out).mono ?_
    rintro e w2 ⟨s, t, vs, rfl, h1, h2, h3, he⟩
    have S1 := hide' (h1.sls h2)
    have T1 := hide' h3
    have E1 := hide' he
    clear h1 h2 h3 he
    go_wp2_with fail
    refine (C2.out _ (HS.out.ext E1.out)).mono ?_
    rintro e w3 ⟨s', t', vs', rfl, h1, h2, h3, he⟩
    have S2 := hide' (h1.sls h2)
    have T2 := hide' h3
    have E2 := hide' (E1.out.trans he)
    have S1' := hide' (S1.out.ext he)
    have T1' := hide' (T1.out.ext he)
    clear h1 h2 h3 he S1 T1 E1
    go_wp2_with fail
    refine (C3.out _ (HS.out.ext E2.out)).mono ?_
    rintro e w4 ⟨c1, us, rfl, h1, h2, he⟩
    have S3 := hide' (h1.sl.sls h2.read)
    have E3 := hide' (E2.out.trans he)
    have X3 := hide' he
    clear h1 h2 he
    go_wp2_with fail
    refine (C4.out _ (HS.out.ext E3.out)).mono ?_
    rintro e w5 ⟨c2, us', rfl, h1, h2, he⟩
    have S4 := hide' (h1.sl.sls h2.read)
    have E4 := hide' (E3.out.trans he)
    have S3' := hide' (S3.out.ext he)
    have X4 := hide' (X3.out.trans he)
    clear h1 h2 he S3
    go_wp2_with fail
    refine (rrows_any _ _ l l _ S3'.out S4.out (fun k => (WC.out.2 k).1) (fun k => (WC.out.2 k).1) (Nat.le_trans WC.out.1 (by omega)) (Nat.le_trans WC.out.1 (by omega))).mono ?_
    rw [decide_eq_true rfl]
    rintro e w6 ⟨rfl, he⟩
    have E5 := hide' (E4.out.trans he)
    have X5 := hide' (X4.out.trans he)
    clear he
    go_wp2_with fail
    refine (rrows_any _ _ (rootsL l) (rootsL l) _ (S1'.out.ext X5.out) (S2.out.ext X5.out) (rootsL_bytes WC.out) (rootsL_bytes WC.out) LR.out LR.out).mono ?_
    rw [decide_eq_true rfl]
    rintro e w7 ⟨rfl, he⟩
    have E6 := hide' (E5.out.trans he)
    have X6 := hide' (X5.out.trans he)
    clear he
    go_wp2_with fail
    refine (ints_same _ _ (timesL l) _ (T1'.out.ext X6.out) (T2.out.ext X6.out) LT.out).mono ?_
    rintro e w8 ⟨rfl, he⟩
    have E7 := hide' (E6.out.trans he)
    clear he
    go_wp2_with fail
    refine (known_any _).mono ?_
    rintro e w9 ⟨rfl, he⟩
    have E8 := hide' (E7.out.trans he)
    clear he
    go_wp2
    go_ret
    exact ⟨rfl, E8.out⟩
end Go.Proofs.Ytjccpkekhjhafaa
