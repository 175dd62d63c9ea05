/- Contract of the document's own Roots of words: whorlref9.Roots. -/
import Derived.Test.YtjccpkekhjhafaaNecRCanon
import Derived.Test.YtjccpkekhjhafaaNecRoots
import Derived.Test.YtjccpkekhjhafaaTwo
namespace Go.Proofs.Ytjccpkekhjhafaa
set_option linter.unusedVariables false
set_option linter.unusedSimpArgs false
open Go.RowKit

theorem timesL_take {l : List (List Int)} {k : Nat} {x : List Int} (hk : k < l.length) (h : l.getD k [] = x) : timesL (l.take (k + 1)) = timesL (l.take k) ++ [(tmI x : Int)] := by
  rw [List.getD_eq_getElem?_getD, List.getElem?_eq_getElem hk, Option.getD_some] at h
  unfold timesL
  rw [List.take_add_one, List.getElem?_eq_getElem hk, Option.toList_some, List.map_append, h]
  rfl
theorem rootsL_take {l : List (List Int)} {k : Nat} {x : List Int} (hk : k < l.length) (h : l.getD k [] = x) : rootsL (l.take (k + 1)) = rootsL (l.take k) ++ [rtI x] := by
  rw [List.getD_eq_getElem?_getD, List.getElem?_eq_getElem hk, Option.getD_some] at h
  unfold rootsL
  rw [List.take_add_one, List.getElem?_eq_getElem hk, Option.toList_some, List.map_append, h]
  rfl

set_option maxHeartbeats 2000000 in
theorem rroots_any (v : Value) (zss : List (List Int)) (w : World) (hs : Sls w v zss) (hw : Words8 zss) :
    Calls Try.prog 9 #[v] w fun e w' => ∃ s t vs, e = .returned (.tuple #[s, t]) ∧ SlV w' s vs ∧ Read8 w' vs (rootsL (canonL zss)) ∧ Sl .i64 w' t (timesL (canonL zss)) ∧ Ext w w' := by
  have C := hide' (rcanon_any v zss w hs hw)
  have HW := hide' (canonL_words' hw)
  clear hs hw
  generalize canonL zss = l at *
  go_enter Try.func9, Try.ntmps9
  go_wp2_with fail
  refine C.out.mono ?_
  rintro e w1 ⟨s, vs, rfl, ho, hr, he⟩
  have E1 := hide' he
  have HS := hide' ho.sl
  have HR := hide' hr.read
  clear ho hr he C
  obtain ⟨sa, sc, hsv, hsc, hsm, _⟩ := HS.out
  subst hsv
  obtain ⟨n, HN⟩ : ∃ n, Hid (vs.length = n) := ⟨_, rfl⟩
  have HL : Hid (l.length = n) := by show _ = _; rw [← HR.out.1]; exact HN.out
  have hn : n ≤ 100000 := by have := HW.out.1; rw [HL.out] at this; exact this
  rw [HN.out] at HS hsc ⊢
  unfold maxLen at hsm
  have CO := hide' HS.out.at.2.2.2
  go_wp2
  go_loopw [5, 6, 7] (fun rv tv vi wr => ∃ (i : Nat) (us : List Value), i ≤ n ∧ vi = .int .i64 i ∧ Hid (OwnV w1.heap.size wr rv us) ∧ Hid (Read8 w1 us (rootsL (l.take i))) ∧ Hid (Own .i64 3 w1.heap.size wr tv (timesL (l.take i))) ∧ Hid (Ext w1 wr)) (fun _ _ vi _ => n - (intOf vi).toNat)
  case atStart => exact ⟨0, [], Nat.zero_le _, rfl, OwnV.nil _ _, Read8.nil _, Own.nil _ _ _ _, Ext.refl _⟩
  case round =>
    obtain ⟨i, us, hi, rfl, HO, HU, HT, HE⟩ := hrel
    by_cases hlt : i < n
    · have hlt' : (i : Int) < n := by omega
      obtain ⟨og, ooff, hoa, ocell⟩ := CO.out (by omega)
      subst hoa
      obtain ⟨o, hoi⟩ : ∃ o, vs[i]? = some o := ⟨_, List.getElem?_eq_getElem (by rw [HN.out]; exact hlt)⟩
      have oc := HE.out.cellOf (ocell i o hoi)
      have OI := hide' (HR.out.2 i o hoi)
      have RB := hide' (HW.out.2 i)
      have HIL : Hid (i < l.length) := by show _ < _; rw [HL.out]; exact hlt
      obtain ⟨x, HX⟩ : ∃ x, Hid (l.getD i [] = x) := ⟨_, rfl⟩
      rw [HX.out] at OI RB
      obtain ⟨ya, yn, yc, hyo⟩ := slice_of' OI.out
      subst hyo
      have TT := hide' (timesL_take HIL.out HX.out)
      have RT := hide' (rootsL_take HIL.out HX.out)
      have CL : Hid (Calls Try.prog 19 #[.slice ya yn yc] wr fun e w' => ∃ s, e = .returned (.tuple #[s, .int .i64 (tmI x : Int)]) ∧ Sl .u8 w1 s (rtI x) ∧ ∃ m, w' = wr.drewN m) :=
        (rroot_all _ x wr (OI.out.ext HE.out) RB.out.1 RB.out.2).mono fun e w' ⟨s, h1, h2, m, h3⟩ => ⟨s, h1, h2 _ OI.out, m, h3⟩
      have LU : Hid (us.length + 1 ≤ 1000000) := by
        have h1 := HU.out.1
        unfold rootsL at h1
        rw [List.length_map, List.length_take] at h1
        show _ ≤ _
        omega
      have LT : Hid ((timesL (l.take i)).length + 1 ≤ 1000000) := by
        show _ ≤ _
        unfold timesL
        rw [List.length_map, List.length_take]
        omega
      obtain ⟨tm, HTM⟩ : ∃ t, Hid (tmI x = t) := ⟨_, rfl⟩
      rw [HTM.out] at CL TT
      clear ocell hoi
      go_wp2_with fail
      refine CL.out.mono ?_
      rintro e w2 ⟨rv, rfl, hsl, m, hm⟩
      have E2 : Hid (Ext wr w2) := by show Ext _ _; rw [hm]; exact Ext.drewN _ _
      have SX := hide' hsl
      clear hm hsl oc
      obtain ⟨ra, rn, rc, hrv⟩ := slice_of' SX.out
      subst hrv
      have O2 := hide' (HO.out.ext (E2.out.trans (ext_alloc w2 (.cells #[.slice ra rn rc] 31))))
      have T2 := hide' (HT.out.ext (E2.out.trans (ext_alloc w2 (.cells #[.slice ra rn rc] 31))))
      have E3 := hide' (HE.out.trans (E2.out.trans (ext_alloc w2 (.cells #[.slice ra rn rc] 31))))
      go_wp2_with (at_builtin; refine wpList_snocV _ rfl _ _ rfl w1.heap.size _ us (.slice ra rn rc) w2.heap.size rfl rfl ?c1 rfl O2.out LU.out E3.out.size ?_)
      case c1 => simp only [World.cell?, heap_alloc_top]; simp
      intro v1 w3 ho1 hg1
      have O3 := hide' ho1
      have T3 : Hid (Own .i64 3 w1.heap.size w3 _ (timesL (l.take i))) := owns_other O2.out T2.out (by decide) hg1
      have E4 : Hid (Ext w1 w3) := Below.trans E3.out (owns_grown O2.out E3.out.size hg1)
      clear ho1 hg1 O2 T2 E3 HO HT HE E2
      have O4 := hide' (O3.out.ext (ext_alloc w3 (.cells #[.int .i64 (tm : Int)] 3)))
      have T4 := hide' (T3.out.ext (ext_alloc w3 (.cells #[.int .i64 (tm : Int)] 3)))
      have E5 := hide' (E4.out.trans (ext_alloc w3 (.cells #[.int .i64 (tm : Int)] 3)))
      go_wp2_with (at_builtin; refine wpList_snocG _ rfl _ _ 24 rfl 3 .i64 8 Try.underlying24 infoI64 w1.heap.size _ (timesL (l.take i)) (tm : Int) ⟨w3.heap.size, 0, none⟩ rfl rfl ?c1 T4.out ?c2 E5.out.size ?_)
      case c1 => simp only [World.cell?, heap_alloc_top]; simp
      case c2 => have := LT.out; unfold maxLen; omega
      intro v2 w4 ho2 hg2
      have T5 := hide' ho2
      rw [← TT.out] at T5
      have O5 := hide' (owns_other T4.out O4.out (by decide) hg2)
      have E6 : Hid (Ext w1 w4) := Below.trans E5.out (owns_grown T4.out E5.out.size hg2)
      have U5 : Hid (Read8 w1 (us ++ [.slice ra rn rc]) (rootsL (l.take (i + 1)))) := by show Read8 _ _ _; rw [RT.out]; exact HU.out.app (Read8.single SX.out)
      clear ho2 hg2 O3 O4 T3 T4 E4 E5
      go_wp2
      go_roundw
      case rel => exact ⟨i + 1, _, by omega, by go_num, O5, U5, T5, E6⟩
      case measure => simp [intOf]; omega
    · have hlt' : decide ((i : Int) < n) = false := by simp; omega
      have HTK : Hid (l.take i = l) := by show _ = _; rw [List.take_of_length_le (by rw [HL.out]; omega)]
      rw [HTK.out] at HU HT
      go_wp2
      go_ret2
      exact ⟨_, _, us, rfl, HO.out.sl, HU.out.ext HE.out, HT.out.sl, E1.out.trans HE.out⟩
end Go.Proofs.Ytjccpkekhjhafaa
