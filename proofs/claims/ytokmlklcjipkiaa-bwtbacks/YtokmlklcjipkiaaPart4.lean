/- Texts laid together: IndSort, SaBy, SaName, SaOrder, SaAns, BwOp, BwtKnown, CntMath. -/
import Derived.Test.YtokmlklcjipkiaaPart3
import Derived.Test.YtokmlklcjipkiaaPart1
import Derived.Test.YtokmlklcjipkiaaPart2
import Derived.OwnWalk
import Derived.Lib.SlBytesConst
/- Contract of induce.Sort. -/
namespace Go.Proofs.Ytokmlklcjipkiaa
set_option linter.unusedVariables false
set_option linter.unusedSimpArgs false
open Go.RowKit

/-- May they be sorted? What they become. -/
def sortB (s : List Int) (k : Int) (fs : List Int) : Bool := fitB s k && firB s fs
def sortI (s : List Int) (k : Int) (fs : List Int) : List Int := if sortB s k fs = true then indI s k.toNat (toN fs) else []
theorem sortB_iff {s : List Int} {k : Int} {fs : List Int} : sortB s k fs = true ↔ fitB s k = true ∧ firB s fs = true := by simp [sortB]
theorem sortI_yes {s : List Int} {k : Int} {fs : List Int} (h : sortB s k fs = true) : sortI s k fs = indI s k.toNat (toN fs) := if_pos h
theorem sortI_no {s : List Int} {k : Int} {fs : List Int} (h : sortB s k fs = false) : sortI s k fs = [] := by unfold sortI; rw [h]; rfl
theorem firB_nat {s fs : List Int} (h : firB s fs = true) : natL (toN fs) = fs ∧ Firsts s (toN fs) := by
  have hp := firB_iff.1 h
  have hg : goodI (s.length : Int) fs = true := by
    rw [goodI_iff]
    intro z hz
    obtain ⟨p, h1, h2⟩ := natL_mem.1 (hp.mem_iff.1 hz)
    have := (firN_mem.1 h1).1
    omega
  have h1 := natL_toN hg
  refine ⟨h1, ⟨?_⟩⟩
  have h2 : (toN fs).Perm (toN (natL (firstN s))) := hp.map _
  rw [toN_nat] at h2
  exact h2

set_option maxHeartbeats 1000000 in
theorem sort_any (sv fv : Value) (s fs : List Int) (k : Int) (w : World) (hs : Sl .i64 w sv s) (hf : Sl .i64 w fv fs) (hlen : s.length ≤ 1000000) :
    Calls Try.prog 32 #[sv, .int .i64 k, fv] w fun e w' => ∃ u, e = .returned (.tuple #[u, .bool (sortB s k fs)]) ∧ Own .i64 3 w.heap.size w' u (sortI s k fs) ∧ Ext w w' := by
  have HV := hide' hs
  have HFV := hide' hf
  have HLEN := hide' hlen
  obtain ⟨a, c, rfl, _⟩ := hs
  obtain ⟨a', c', rfl, _⟩ := hf
  by_cases hfit : fitB s k = true
  rotate_left
  · have HB : Hid (sortB s k fs = false) := by
      show _ = _
      unfold sortB
      rw [Bool.eq_false_iff.2 hfit]
      rfl
    have HI := hide' (sortI_no HB.out)
    have HF : Hid (fitB s k = false) := Bool.eq_false_iff.2 hfit
    rw [HI.out, HB.out]
    clear hfit
    go_enter Try.func32, Try.ntmps32
    go_wp2_with fail
    refine (counts_any _ s k w HV.out HLEN.out).mono ?_
    rw [HF.out]
    rintro e w1 ⟨s1, rfl, _, he⟩
    have X1 := hide' he
    clear he
    go_wp2
    go_ret2
    exact ⟨_, rfl, Own.nil _ _ _ _, X1.out⟩
  · have HF := hide' hfit
    by_cases hfir : firB s fs = true
    rotate_left
    · have HR : Hid (firB s fs = false) := Bool.eq_false_iff.2 hfir
      have HB : Hid (sortB s k fs = false) := by
        show _ = _
        unfold sortB
        rw [HR.out]
        simp
      have HI := hide' (sortI_no HB.out)
      rw [HI.out, HB.out]
      clear hfit hfir
      go_enter Try.func32, Try.ntmps32
      go_wp2_with fail
      refine (counts_any _ s k w HV.out HLEN.out).mono ?_
      rw [HF.out]
      rintro e w1 ⟨s1, rfl, _, he⟩
      have X1 := hide' he
      clear he
      go_wp2_with fail
      refine (isFirst_any _ _ fs s w1 (HFV.out.ext X1.out) (HV.out.ext X1.out) HLEN.out).mono ?_
      rw [HR.out]
      rintro e w2 ⟨rfl, he⟩
      have X2 := hide' (X1.out.trans he)
      clear he
      go_wp2
      go_ret2
      exact ⟨_, rfl, Own.nil _ _ _ _, X2.out⟩
    · have HR := hide' hfir
      have HB : Hid (sortB s k fs = true) := sortB_iff.2 ⟨hfit, hfir⟩
      obtain ⟨hnat, hfst⟩ := firB_nat hfir
      have HFF := hide' hfst
      have HNT := hide' hnat
      obtain ⟨h0, h1, _⟩ := fitB_iff.1 hfit
      obtain ⟨K, rfl⟩ := Int.eq_ofNat_of_zero_le h0
      have HCC : Hid (countsI s (K : Int) = natL (cntsI s K)) := countsI_yes hfit
      have HFT : Hid (Fits s K) := Fits.of hfit
      have HI : Hid (sortI s (K : Int) fs = indI s K (toN fs)) := by show _ = _; rw [sortI_yes HB.out, Int.toNat_natCast]
      have hK9 : K ≤ 1048576 := by omega
      have HK9 := hide' hK9
      have HBG := hide' (starts_beg HFT.out)
      have HSB := hide' (sum_bound HFT.out hlen)
      have HCL : Hid ((natL (cntsI s K)).length ≤ 4000000) := by show _ ≤ _; rw [natL_len, cntsI_len]; omega
      have HV2 := hide' (st2_vals HFT.out HFF.out)
      have e10 : Hid ((st1 s K (toN fs) 0).1 = List.replicate s.length (-1)) := rfl
      have e11 : Hid ((st1 s K (toN fs) 0).2 = endN s K) := rfl
      have e20 : Hid ((st2 s K (toN fs) 0).1 = (st1 s K (toN fs) (toN fs).length).1) := rfl
      have e21 : Hid ((st2 s K (toN fs) 0).2 = begN s K) := rfl
      have e30 : Hid ((st3 s K (toN fs) 0).1 = outI s (st2 s K (toN fs) (s.length + 1)).1) := rfl
      have e31 : Hid ((st3 s K (toN fs) 0).2 = endN s K) := rfl
      rw [HI.out, HB.out]
      clear hfit hfir hfst hnat h0 h1 hK9
      go_enter Try.func32, Try.ntmps32
      go_wp2_with fail
      refine (counts_any _ s (K : Int) w HV.out HLEN.out).mono ?_
      rw [HF.out, HCC.out]
      rintro e w1 ⟨s1, rfl, ho, he⟩
      have S1 := hide' ho.sl
      have X1 := hide' he
      clear ho he
      go_wp2_with fail
      refine (isFirst_any _ _ fs s w1 (HFV.out.ext X1.out) (HV.out.ext X1.out) HLEN.out).mono ?_
      rw [HR.out]
      rintro e w2 ⟨rfl, he⟩
      have S2 := hide' (S1.out.ext he)
      have X2 := hide' (X1.out.trans he)
      clear he S1 X1
      go_wp2_with fail
      refine (small_any _ s w2 (HV.out.ext X2.out) (by have := HLEN.out; omega)).mono ?_
      rintro e w0 ⟨s2, rfl, ho, he⟩
      have SB := hide' ho.sl
      have S3 := hide' (S2.out.ext he)
      have X3 := hide' (X2.out.trans he)
      have VS := hide' (HV.out.ext X3.out)
      have VF := hide' (HFV.out.ext X3.out)
      rw [← HNT.out] at VF
      have hsz : w.heap.size ≤ w0.heap.size := X3.out.size
      have hnl : Hid ((natL (toN fs)).length = fs.length) := by show _ = _; rw [HNT.out]
      rw [hnl.out] at VF
      clear ho he S2 X2
      go_wp2_with fail
      refine (emptyRow_any s.length w0 HLEN.out).mono ?_
      rintro e w4 ⟨rfl, ho, he⟩
      have OR := hide' ho
      have X4 := hide' he
      have hg4 : w0.heap.size < w4.heap.size := (World.ownsRow.lt ho w0.heap.size rfl).2
      clear ho he
      obtain ⟨g, HG⟩ : ∃ g, Hid (w0.heap.size = g) := ⟨_, rfl⟩
      have hg0 : w0.heap.size ≤ g := by rw [HG.out]; exact Nat.le_refl _
      rw [HG.out] at OR hg4
      have hgw : w.heap.size ≤ g := by rw [HG.out] at hsz; exact hsz
      rw [HG.out]
      go_wp2_with fail
      refine (ends_any _ s K w4 HFT.out (S3.out.ext X4.out) HK9.out HLEN.out).mono ?_
      rintro e w5 ⟨s3, rfl, ho, he⟩
      have OE := hide' ho
      have OR5 := hide' (OR.out.ext he)
      have X5 := hide' (X4.out.trans he)
      have hz5 : w4.heap.size ≤ w5.heap.size := he.size
      rw [← e10.out] at OR5
      rw [← e11.out] at OE
      clear ho he OR X4
      go_wp2_with fail
      refine (layFirst_any g w4.heap.size g K _ _ _ s (toN fs) w0 w5 HFT.out HFF.out VS.out VF.out X5.out OR5.out OE.out hg0 hg4 HLEN.out).mono ?_
      rintro e w6 ⟨rfl, ho, he⟩
      have OR6 := hide' ho
      have X6 := hide' he
      rw [← e20.out] at OR6
      have hg6 : g < w6.heap.size := (World.ownsRow.lt ho g rfl).2
      clear ho he OR5 OE X5
      go_wp2_with fail
      refine (starts_any _ _ w6 (S3.out.ext X6.out) HCL.out HSB.out).mono ?_
      rw [HBG.out]
      rintro e w7 ⟨s4, rfl, ho, he⟩
      have OE := hide' ho
      have OR7 := hide' (OR6.out.ext he)
      have X7 := hide' (X6.out.trans he)
      rw [← e21.out] at OE
      clear ho he OR6 X6
      go_wp2_with fail
      refine (layLarge_any g w6.heap.size g K _ _ _ s (toN fs) w0 w7 HFT.out HFF.out VS.out SB.out X7.out OR7.out OE.out hg0 hg6 HLEN.out).mono ?_
      rintro e w8 ⟨rfl, ho, he⟩
      have OR8 := hide' ho
      have X8 := hide' he
      clear ho he OR7 OE X7
      go_wp2_with fail
      refine (takeOut_any g g _ s _ w0 w8 SB.out X8.out HV2.out.1 HV2.out.2 OR8.out hg0 HLEN.out).mono ?_
      rintro e w9 ⟨rfl, ho, he⟩
      have OR9 := hide' ho
      have X9 := hide' he
      rw [← e30.out] at OR9
      have hg9 : g < w9.heap.size := (World.ownsRow.lt ho g rfl).2
      clear ho he OR8 X8
      go_wp2_with fail
      refine (ends_any _ s K w9 HFT.out (S3.out.ext X9.out) HK9.out HLEN.out).mono ?_
      rintro e w10 ⟨s5, rfl, ho, he⟩
      have OE := hide' ho
      have OR10 := hide' (OR9.out.ext he)
      have X10 := hide' (X9.out.trans he)
      rw [← e31.out] at OE
      clear ho he OR9 X9
      go_wp2_with fail
      refine (laySmall_any g w9.heap.size g K _ _ _ s (toN fs) w0 w10 HFT.out HFF.out VS.out SB.out X10.out OR10.out OE.out hg0 hg9 HLEN.out).mono ?_
      rintro e w11 ⟨rfl, ho, he⟩
      have OR11 := hide' ho
      have X11 := hide' (X3.out.trans he)
      clear ho he OR10 OE X10
      go_wp2
      go_ret2
      exact ⟨_, rfl, OR11.out.low hgw, X11.out⟩
end Go.Proofs.Ytokmlklcjipkiaa

/- Contract of sais.byPieces: the pieces in order, by induced sorting. -/
namespace Go.Proofs.Ytokmlklcjipkiaa
set_option linter.unusedVariables false
set_option linter.unusedSimpArgs false
open Go.RowKit

/-- Which piece begins at a place, of the first i ones. -/
structure PieceAt (s : List Int) (i : Nat) (pa : List Int) : Prop where
  len : pa.length = s.length
  yes : ∀ j, j < i → pa.getD ((firstN s).getD j 0) 0 = (j : Int)
  no : ∀ p, p < s.length → (∀ j, j < i → (firstN s).getD j 0 ≠ p) → pa.getD p 0 = -1
theorem PieceAt.start (s : List Int) : PieceAt s 0 (List.replicate s.length (-1)) :=
  ⟨List.length_replicate, fun j hj => by omega, fun p hp _ => by simp [List.getD, hp]⟩
theorem PieceAt.next {s : List Int} {i : Nat} {pa : List Int} (h : PieceAt s i pa) (hi : i < (firstN s).length) : PieceAt s (i + 1) (pa.set ((firstN s).getD i 0) (i : Int)) := by
  have hlt := (firstN_at hi).1
  refine ⟨by rw [List.length_set]; exact h.len, fun j hj => ?_, fun p hp hn => ?_⟩
  · by_cases e : j = i
    · subst e
      rw [setI_same (by rw [h.len]; exact hlt)]
    · have := firstN_lt s (show j < i by omega) hi
      rw [setI_other (by omega)]
      exact h.yes j (by omega)
  · rw [setI_other (hn i (by omega))]
    exact h.no p hp fun j hj => hn j (by omega)
theorem PieceAt.first {s : List Int} {pa : List Int} (h : PieceAt s (firstN s).length pa) {p : Nat} (hp : p < s.length) (hf : fsB s p = true) : ∃ j, j < (firstN s).length ∧ (firstN s).getD j 0 = p ∧ pa.getD p 0 = (j : Int) := by
  have hm : p ∈ firstN s := firN_mem.2 ⟨hp, hf⟩
  obtain ⟨j, hj, ej⟩ := mem_getN hm
  exact ⟨j, hj, ej, by rw [← ej]; exact h.yes j hj⟩
theorem PieceAt.other {s : List Int} {pa : List Int} (h : PieceAt s (firstN s).length pa) {p : Nat} (hp : p < s.length) (hf : fsB s p = false) : pa.getD p 0 = -1 :=
  h.no p hp fun j hj e => by
    have := (firstN_at hj).2
    rw [e, hf] at this
    cases this
/-- Pieces in the row's order, as far as the first t places of it. -/
structure Pieces (s : List Int) (R : List Nat) (t : Nat) (P : List Nat) : Prop where
  row : P.map (fun (i : Nat) => (firstN s).getD i 0) = firOf s (R.take t)
  lt : ∀ i ∈ P, i < (firstN s).length
theorem Pieces.start (s : List Int) (R : List Nat) : Pieces s R 0 [] := ⟨rfl, fun i hi => by cases hi⟩
theorem Pieces.yes {s : List Int} {R P : List Nat} {t j : Nat} (h : Pieces s R t P) (ht : t < R.length) (hf : fsB s (R.getD t 0) = true) (hj : j < (firstN s).length) (ej : (firstN s).getD j 0 = R.getD t 0) : Pieces s R (t + 1) (P ++ [j]) := by
  refine ⟨?_, fun i hi => ?_⟩
  · rw [takeN_succ ht]
    unfold firOf
    rw [List.filter_append, List.map_append, h.row, List.filter_cons_of_pos hf, List.map_cons, ej]
    rfl
  · rcases List.mem_append.1 hi with g | g
    · exact h.lt i g
    · rw [List.mem_singleton.1 g]; exact hj
theorem Pieces.no {s : List Int} {R P : List Nat} {t : Nat} (h : Pieces s R t P) (ht : t < R.length) (hf : fsB s (R.getD t 0) = false) : Pieces s R (t + 1) P := by
  refine ⟨?_, h.lt⟩
  rw [takeN_succ ht, h.row]
  unfold firOf
  rw [List.filter_append, List.filter_cons_of_neg (by rw [hf]; simp), List.filter_nil, List.append_nil]
theorem Pieces.len {s : List Int} {R P : List Nat} {t : Nat} (h : Pieces s R t P) : P.length ≤ R.length := by
  have := congrArg List.length h.row
  rw [List.length_map] at this
  rw [this]
  unfold firOf
  exact Nat.le_trans (List.length_filter_le _ _) (by rw [List.length_take]; omega)

set_option maxHeartbeats 1000000 in
theorem byPieces_any (sv fv : Value) (s : List Int) (k : Int) (w : World) (hs : Sl .i64 w sv s) (hf : Sl .i64 w fv (natL (firstN s))) (hfit : fitB s k = true) (hlen : s.length ≤ 1000000) :
    Calls Try.prog 44 #[sv, .int .i64 k, fv] w fun e w' => ∃ u P R, e = .returned u ∧ R.Perm (List.range s.length) ∧ R.Pairwise (fun a b => cmpI (cutW s a) (cutW s b) ≤ 0) ∧ Pieces s R s.length P ∧ Own .i64 3 w.heap.size w' u (natL P) ∧ Ext w w' := by
  have HV := hide' hs
  have HF := hide' hf
  have HLEN := hide' hlen
  have hfl : (firstN s).length ≤ s.length := by have := firstN_half s; omega
  obtain ⟨a, c, rfl, _⟩ := hs
  obtain ⟨a', c', rfl, _⟩ := hf
  obtain ⟨_, _, _, hcf⟩ := HF.out.nat
  have CF := hide' hcf
  clear hcf
  have HLN := hide' (natL_len (firstN s))
  have HB : Hid (sortB s k (natL (firstN s)) = true) := sortB_iff.2 ⟨hfit, firB_iff.2 (List.Perm.refl _)⟩
  obtain ⟨R, hR1, hR2, hR3⟩ := indI_cut (F := firstN s) (Fits.of hfit) ⟨List.Perm.refl _⟩
  have HI : Hid (sortI s k (natL (firstN s)) = natL R) := by show _ = _; rw [sortI_yes HB.out, toN_nat, hR1]
  have HR2 := hide' hR2
  have HR3 := hide' hR3
  have HRL : Hid (R.length = s.length) := by show _ = _; rw [hR2.length_eq, List.length_range]
  have C := hide' (sort_any _ _ s (natL (firstN s)) k w HV.out HF.out hlen)
  rw [HB.out, HI.out] at C
  clear hR1 hR2 hR3 hfit
  obtain ⟨n, HN⟩ : ∃ n, Hid (s.length = n) := ⟨_, rfl⟩
  obtain ⟨f, HL⟩ : ∃ f, Hid ((firstN s).length = f) := ⟨_, rfl⟩
  rw [HLN.out] at HF CF C ⊢
  rw [HN.out] at hlen hfl C HRL ⊢
  rw [HL.out] at HF CF C hfl ⊢
  clear HV
  go_enter Try.func44, Try.ntmps44
  go_wp2_with fail
  refine C.out.mono ?_
  rintro e w1 ⟨u, rfl, ho, he⟩
  have SR := hide' ho.sl
  have E1 := hide' he
  clear ho he C
  obtain ⟨ra, rc, rfl, _⟩ := SR.out
  rw [natL_len, HRL.out] at SR ⊢
  obtain ⟨_, _, _, hcr⟩ := SR.out.nat
  have CR := hide' hcr
  clear hcr SR
  have E2 := hide' (E1.out.trans (ext_alloc w1 (.cells #[.int .i64 (-1)] 3)))
  have CP := hide' (repeat_any _ (-1) n (w1.alloc (.cells #[.int .i64 (-1)] 3)) (Sl.lit w1 [-1] 1 rfl (by unfold maxLen; omega)) (by omega))
  go_wp2_with fail
  refine CP.out.mono ?_
  rintro e w2 ⟨rfl, ho, he⟩
  have X2 := hide' ((ext_alloc w1 (.cells #[.int .i64 (-1)] 3)).trans he)
  obtain ⟨g, HG⟩ : ∃ g, Hid ((w1.alloc (.cells #[.int .i64 (-1)] 3)).heap.size = g) := ⟨_, rfl⟩
  have hg1 : w1.heap.size ≤ g := by rw [← HG.out]; simp
  rw [HG.out] at ho ⊢
  have O2 := hide' ho
  clear ho he CP E2
  have PA0 : Hid (PieceAt s 0 (List.replicate n (-1))) := by show PieceAt _ _ _; rw [← HN.out]; exact PieceAt.start s
  go_wp2
  go_loopw [29] (fun vi wr => ∃ (i : Nat) (pa : List Int), i ≤ f ∧ vi = .int .i64 i ∧ Hid (PieceAt s i pa) ∧ Hid (Own .i64 3 g wr (.slice (some ⟨g, 0, none⟩) n n) pa) ∧ Hid (Ext w1 wr)) (fun vi _ => f - (intOf vi).toNat)
  case atStart => exact ⟨0, _, Nat.zero_le _, rfl, PA0, O2, X2⟩
  case round =>
    clear O2 X2 PA0
    obtain ⟨i, pa, hi, rfl, PA, HO, HE⟩ := hrel
    have HPL : Hid (pa.length = n) := by show _ = _; rw [PA.out.len, HN.out]
    by_cases hlt : i < f
    · have hlt' : (i : Int) < f := by omega
      obtain ⟨g1, o1, rfl, k1⟩ := CF.out (by omega)
      have c1 := HE.out.cellOf (E1.out.cellOf (k1 i hlt))
      clear k1
      have PB := hide' (PA.out.next (by rw [HL.out]; exact hlt))
      have hp := (firstN_at (s := s) (i := i) (by rw [HL.out]; exact hlt)).1
      rw [HN.out] at hp
      obtain ⟨p, HP⟩ : ∃ p, Hid ((firstN s).getD i 0 = p) := ⟨_, rfl⟩
      rw [HP.out] at c1 PB hp
      have c2 := HO.out.cell HPL.out p hp
      have z2 := HO.out.frozen HPL.out p
      have O3 := hide' (HO.out.store HPL.out p (i : Int))
      have X3 : Hid (Ext w1 (wr.setCell ⟨g, p, none⟩ (.int .i64 (i : Int)))) := Ext.but HE.out hg1 (but_set _ _ _ _)
      have hp' : (p : Int) < n := by omega
      clear HO HE PA
      go_wp2
      go_roundw
      case rel => exact ⟨i + 1, _, by omega, by go_num, PB, O3, X3⟩
      case measure => simp [intOf] <;> omega
    · have d1 : decide ((i : Int) < f) = false := by simp; omega
      have hif : i = f := by omega
      have PB : Hid (PieceAt s (firstN s).length pa) := by show PieceAt _ _ _; rw [HL.out, ← hif]; exact PA.out
      obtain ⟨w3, hmk, ho, he⟩ := make_roomI wr f (by omega)
      have CP : Hid (∀ j, j < n → wr.cell? ⟨g, j, none⟩ = some (.int .i64 (pa.getD j 0))) := fun j hj => HO.out.cell HPL.out j hj
      have E3 := hide' (E1.out.trans HE.out)
      have E4 := hide' (HE.out)
      have O3 := hide' ho
      have X3 := hide' he
      have hz3 := E3.out.size
      clear ho he HO HE PA hif
      go_wp2
      generalize HGW : wr = W at *
      clear HGW
      go_loopw [12, 44] (fun ov vi wq => ∃ (i : Nat) (P : List Nat), i ≤ n ∧ vi = .int .i64 i ∧ Hid (Pieces s R i P) ∧ Hid (Own .i64 3 W.heap.size wq ov (natL P)) ∧ Hid (Ext W wq)) (fun _ vi _ => n - (intOf vi).toNat)
      case atStart => exact ⟨0, [], Nat.zero_le _, rfl, Pieces.start _ _, O3, X3⟩
      case round =>
        clear O3 X3 hmk
        obtain ⟨i, P, hi, rfl, PP, HO, HE⟩ := hrel
        have hsz := HE.out.size
        by_cases hlt : i < n
        · have hlt' : (i : Int) < n := by omega
          obtain ⟨g1, o1, rfl, k1⟩ := CR.out (by omega)
          have c1 := HE.out.cellOf (E4.out.cellOf (k1 i hlt))
          clear k1
          have hiR : i < R.length := by rw [HRL.out]; exact hlt
          have hp := List.mem_range.1 (HR2.out.mem_iff.1 (getN_mem hiR))
          have HPL : Hid ((natL P).length ≤ 1000000) := by
            show _ ≤ _
            rw [natL_len]
            have := PP.out.len
            rw [HRL.out] at this
            omega
          have c2 := HE.out.cellOf (CP.out (R.getD i 0) (by rw [← HN.out]; exact hp))
          cases hfs : fsB s (R.getD i 0)
          · have HPN := hide' (PP.out.no hiR hfs)
            rw [PB.out.other hp hfs] at c2
            rw [HN.out] at hp
            obtain ⟨p, HP⟩ : ∃ p, Hid (R.getD i 0 = p) := ⟨_, rfl⟩
            rw [HP.out] at c1 c2 hp
            have hp' : (p : Int) < n := by omega
            clear hfs hiR PP
            go_wp2
            go_roundw
            case rel => exact ⟨i + 1, P, by omega, by go_num, HPN, HO, HE⟩
            case measure => simp [intOf] <;> omega
          · obtain ⟨j, hj1, hj2, hj3⟩ := PB.out.first hp hfs
            have HPN := hide' (PP.out.yes hiR hfs hj1 hj2)
            rw [hj3] at c2
            rw [HN.out] at hp
            obtain ⟨p, HP⟩ : ∃ p, Hid (R.getD i 0 = p) := ⟨_, rfl⟩
            rw [HP.out] at c1 c2 hp
            have hp' : (p : Int) < n := by omega
            have hj4 : ((j : Int) == -1) = false := by simp
            have hj5 : ((j : Int) != -1) = true := by simp
            clear hfs hiR hj1 hj2 hj3 PP
            go_wp2_with (at_builtin; refine wpList_snoc _ rfl _ _ 32 rfl 3 .i64 8 Try.underlying32 infoI64 W.heap.size _ (natL P) (j : Int) ⟨wr.heap.size, 0, none⟩ rfl rfl ?c4 (HO.out.alloc _) ?c3 ?c5 ?_)
            case c3 => have := HPL.out; unfold maxLen; omega
            case c5 => simp; omega
            case c4 => simp only [World.cell?, heap_alloc_top]; simp
            intro v1 w4 ho1 hb1
            have HO1 : Hid (Own .i64 3 W.heap.size w4 v1 (natL (P ++ [j]))) := by rw [← natL_snoc]; exact ho1
            have HE1 : Hid (Ext W w4) := Below.trans (HE.out.trans (ext_alloc _ _)) hb1
            clear ho1 hb1
            go_wp2
            go_roundw
            case rel => exact ⟨i + 1, _, by omega, by go_num, HPN, HO1, HE1⟩
            case measure => simp [intOf] <;> omega
        · have d1 : decide ((i : Int) < n) = false := by simp; omega
          have hin : n = i := by omega
          go_wp2
          go_ret
          exact ⟨_, P, R, rfl, by have := HR2.out; rw [HN.out] at this; exact this, HR3.out, by have := PP.out; rw [← hin] at this; exact this, HO.out.low hz3, E3.out.trans HE.out⟩
end Go.Proofs.Ytokmlklcjipkiaa

/- Contract of sais.nameAll: names of the pieces. -/
namespace Go.Proofs.Ytokmlklcjipkiaa
set_option linter.unusedVariables false
set_option linter.unusedSimpArgs false
open Go.RowKit

/-- Pieces, each once, in some order, and the places at which they begin. -/
structure Ordd (s : List Int) (P G : List Nat) : Prop where
  len : P.length = (firstN s).length
  nodup : P.Nodup
  lt : ∀ i ∈ P, i < (firstN s).length
  place : P.map (fun (i : Nat) => (firstN s).getD i 0) = G
theorem Ordd.at {s : List Int} {P G : List Nat} (h : Ordd s P G) {t : Nat} (ht : t < P.length) : P.getD t 0 < (firstN s).length ∧ (firstN s).getD (P.getD t 0) 0 = G.getD t 0 := by
  refine ⟨h.lt _ (getN_mem ht), ?_⟩
  rw [← h.place]
  simp [List.getD, ht]
theorem Ordd.of {s : List Int} {R P : List Nat} (hR : R.Perm (List.range s.length)) (h : Pieces s R s.length P) : Ordd s P (firOf s R) := by
  have hl : R.length = s.length := by rw [hR.length_eq, List.length_range]
  have hr := h.row
  rw [List.take_of_length_le (by omega)] at hr
  have hp := firOf_perm (s := s) hR
  refine ⟨?_, ?_, h.lt, hr⟩
  · have := congrArg List.length hr
    rw [List.length_map] at this
    rw [this, hp.length_eq]
  · have hn : (P.map fun (i : Nat) => (firstN s).getD i 0).Nodup := by rw [hr]; exact hp.nodup_iff.2 (firstN_nodup s)
    exact (List.pairwise_map.1 hn).imp fun h e => h (by rw [e])
/-- Names as far as the first i pieces of the row. -/
structure Named (s : List Int) (P G : List Nat) (i : Nat) (N : List Int) (c : Nat) : Prop where
  len : N.length = P.length
  name : ∀ t, t < i → N.getD (P.getD t 0) 0 = (nmG s G t : Int)
  zero : i = 0 → c = 0
  count : ∀ t, i = t + 1 → c = nmG s G t + 1
theorem Named.start (s : List Int) (P G : List Nat) : Named s P G 0 (List.replicate P.length 0) 0 := ⟨List.length_replicate, fun t h => by omega, fun _ => rfl, fun t h => by omega⟩
theorem Named.next {s : List Int} {P G : List Nat} {i c : Nat} {N : List Int} (h : Named s P G i N c) (ho : Ordd s P G) (hi : i < P.length) : Named s P G (i + 1) (N.set (P.getD i 0) (nmG s G i : Int)) (nmG s G i + 1) := by
  have hlt : P.getD i 0 < N.length := by rw [h.len, ho.len]; exact (ho.at hi).1
  refine ⟨by rw [List.length_set]; exact h.len, fun t ht => ?_, fun h0 => by omega, fun t ht => by rw [show i = t by omega]⟩
  by_cases e : t = i
  · subst e
    rw [setI_same hlt]
  · rw [setI_other (fun e2 => e (nodup_getN ho.nodup (by omega) hi e2.symm))]
    exact h.name t (by omega)
theorem Named.le {s : List Int} {P G : List Nat} {i c : Nat} {N : List Int} (h : Named s P G i N c) : c ≤ i := by
  by_cases h0 : i = 0
  · rw [h.zero h0]; omega
  · rw [h.count (i - 1) (by omega)]
    have := nmG_le s G (i - 1)
    omega

set_option maxHeartbeats 1000000 in
theorem nameAll_any (sv fv pv : Value) (s : List Int) (P G : List Nat) (w : World) (hs : Sl .i64 w sv s) (hf : Sl .i64 w fv (natL (firstN s))) (hp : Sl .i64 w pv (natL P)) (hod : Ordd s P G) (hlen : s.length ≤ 1000000) :
    Calls Try.prog 45 #[sv, fv, pv] w fun e w' => ∃ (u : Value) (N : List Int) (c : Nat), e = .returned (.tuple #[u, .int .i64 c]) ∧ Named s P G P.length N c ∧ Own .i64 3 w.heap.size w' u N ∧ Ext w w' := by
  have HV := hide' hs
  have HF := hide' hf
  have HLEN := hide' hlen
  have HOD := hide' hod
  have hfl : P.length ≤ s.length := by rw [hod.len]; have := firstN_half s; omega
  obtain ⟨pa, pc, rfl, _⟩ := id hp
  rw [natL_len] at hp ⊢
  obtain ⟨_, _, _, hcp⟩ := hp.nat
  have CP := hide' hcp
  obtain ⟨f, HL⟩ : ∃ f, Hid (P.length = f) := ⟨_, rfl⟩
  have HFF : Hid ((firstN s).length = f) := by show _ = _; rw [← hod.len]; exact HL.out
  rw [HL.out] at hfl CP ⊢
  obtain ⟨w1, hmk, ho, he⟩ := make_ints w f (by omega)
  obtain ⟨g, HG⟩ : ∃ g, Hid (w.heap.size = g) := ⟨_, rfl⟩
  have hgw : w.heap.size ≤ g := by rw [HG.out]; exact Nat.le_refl _
  rw [HG.out] at ho hmk ⊢
  have O1 := hide' ho
  have X1 := hide' he
  have N0 : Hid (Named s P G 0 (List.replicate f 0) 0) := by show Named _ _ _ _ _ _; rw [← HL.out]; exact Named.start s P G
  clear ho he hp hcp hod hs hf
  go_enter Try.func45, Try.ntmps45
  go_wp2
  go_loopw [7, 15] (fun vc vi wr => ∃ (i c : Nat) (N : List Int), i ≤ f ∧ vi = .int .i64 i ∧ vc = .int .i64 c ∧ Hid (Named s P G i N c) ∧ Hid (Own .i64 3 g wr (.slice (some ⟨g, 0, none⟩) f f) N) ∧ Hid (Ext w wr)) (fun _ vi _ => f - (intOf vi).toNat)
  case atStart => exact ⟨0, 0, _, Nat.zero_le _, rfl, rfl, N0, O1, X1⟩
  case round =>
    clear O1 X1 N0 hmk
    obtain ⟨i, c, N, hi, rfl, rfl, HN, HO, HE⟩ := hrel
    have HNL : Hid (N.length = f) := by show _ = _; rw [HN.out.len, HL.out]
    by_cases hlt : i < f
    · have hlt' : (i : Int) < f := by omega
      have hiP : i < P.length := by rw [HL.out]; exact hlt
      have N1 := hide' (HN.out.next HOD.out hiP)
      have hp1 := (HOD.out.at hiP).1
      rw [HFF.out] at hp1
      obtain ⟨g1, o1, rfl, k1⟩ := CP.out (by omega)
      have K1 := hide' k1
      have c1 := HE.out.cellOf (k1 i hlt)
      have hm := nmG_le s G i
      obtain ⟨p, HP⟩ : ∃ p, Hid (P.getD i 0 = p) := ⟨_, rfl⟩
      obtain ⟨m, HM⟩ : ∃ m, Hid (nmG s G i = m) := ⟨_, rfl⟩
      rw [HP.out] at c1 N1 hp1
      rw [HM.out] at N1 hm
      have hp1' : (p : Int) < f := by omega
      clear k1 hiP
      have fin : Hid (∀ wr', Ext wr wr' → wr'.cell? ⟨g, p, none⟩ = some (.int .i64 (N.getD p 0)) ∧ wr'.frozen? ⟨g, p, none⟩ = false ∧ Own .i64 3 g (wr'.setCell ⟨g, p, none⟩ (.int .i64 (m : Int))) (.slice (some ⟨g, 0, none⟩) f f) (N.set p (m : Int)) ∧ Ext w (wr'.setCell ⟨g, p, none⟩ (.int .i64 (m : Int)))) := fun wr' hx => by
        have h1 := HO.out.ext hx
        exact ⟨h1.cell HNL.out p hp1, h1.frozen HNL.out p, h1.store HNL.out p _, Ext.but (HE.out.trans hx) hgw (but_set _ _ _ _)⟩
      by_cases hi0 : i = 0
      · have hc0 := HN.out.zero hi0
        have hcm : m = c := by omega
        subst hcm
        have d0 : ((i : Int) == 0) = true := by simp; omega
        have e5 : ((m : Int) + 1) - 1 = (m : Int) := by omega
        clear hi0 hc0
        obtain ⟨z1, z2, z3, z4⟩ := fin.out wr (Ext.refl _)
        have Z3 := hide' z3
        have Z4 := hide' z4
        clear z3 z4 HO HE fin HN
        go_wp2
        go_roundw
        case rel => exact ⟨i + 1, m + 1, _, by omega, by go_num, by go_num, N1, Z3, Z4⟩
        case measure => simp [intOf] <;> omega
      · obtain ⟨j, HJ⟩ : ∃ j, Hid (i = j + 1) := ⟨i - 1, by show _ = _; omega⟩
        have hj : (i : Int) - 1 = (j : Int) := by have := HJ.out; omega
        have hjf : j < f := by have := HJ.out; omega
        have hjf' : (j : Int) < f := by omega
        have d0 : ((i : Int) == 0) = false := by simp; omega
        have hjP : j < P.length := by rw [HL.out]; exact hjf
        have c2 := HE.out.cellOf (K1.out j hjf)
        have hq1 := (HOD.out.at hjP).1
        have HCC := hide' (HN.out.count j HJ.out)
        have HAB : Hid (alikeB s (P.getD j 0) p = decide (cutW s (G.getD j 0) = cutW s (G.getD (j + 1) 0))) := by
          show _ = _
          have a1 := HOD.out.at hjP
          have a2 := HOD.out.at (t := j + 1) (by rw [HL.out, ← HJ.out]; exact hlt)
          have e : P.getD (j + 1) 0 = p := by rw [← HJ.out]; exact HP.out
          rw [e] at a2
          rw [alikeB_cut a1.1 a2.1 (fun e2 => by
            have := nodup_getN HOD.out.nodup hjP (show j + 1 < P.length by rw [HL.out, ← HJ.out]; exact hlt) (by rw [e, e2])
            omega), a1.2, a2.2]
        have CA := hide' (toExt (saAlike_any sv fv s (P.getD j 0) p wr (HV.out.ext HE.out) (HF.out.ext HE.out) hq1 (by rw [HFF.out]; exact hp1) HLEN.out))
        rw [HAB.out] at CA
        obtain ⟨q, HQ⟩ : ∃ q, Hid (P.getD j 0 = q) := ⟨_, rfl⟩
        rw [HQ.out] at c2 CA
        by_cases hcut : cutW s (G.getD j 0) = cutW s (G.getD (j + 1) 0)
        · have hcm : c = m + 1 := by rw [HCC.out, ← HM.out, HJ.out, nmG_same hcut]
          subst hcm
          rw [decide_eq_true hcut] at CA
          have e5 : ((m + 1 : Nat) : Int) - 1 = (m : Int) := by omega
          clear hcut hi0 HN HQ hq1 hjP HCC HAB
          go_wp2_with fail
          refine CA.out.mono ?_
          rintro e wr' ⟨rfl, hx⟩
          obtain ⟨z1, z2, z3, z4⟩ := fin.out wr' hx
          have Z3 := hide' z3
          have Z4 := hide' z4
          clear z3 z4 HO HE fin hx CA
          go_wp2
          go_roundw
          case rel => exact ⟨i + 1, m + 1, _, by omega, by go_num, by go_num, N1, Z3, Z4⟩
          case measure => simp [intOf] <;> omega
        · have hcm : m = c := by rw [HCC.out, ← HM.out, HJ.out, nmG_other hcut]
          subst hcm
          rw [decide_eq_false hcut] at CA
          have e5 : ((m : Int) + 1) - 1 = (m : Int) := by omega
          clear hcut hi0 HN HQ hq1 hjP HCC HAB
          go_wp2_with fail
          refine CA.out.mono ?_
          rintro e wr' ⟨rfl, hx⟩
          obtain ⟨z1, z2, z3, z4⟩ := fin.out wr' hx
          have Z3 := hide' z3
          have Z4 := hide' z4
          clear z3 z4 HO HE fin hx CA
          go_wp2
          go_roundw
          case rel => exact ⟨i + 1, m + 1, _, by omega, by go_num, by go_num, N1, Z3, Z4⟩
          case measure => simp [intOf] <;> omega
    · have d1 : decide ((i : Int) < f) = false := by simp; omega
      have hin : f = i := by omega
      go_wp2
      first | go_ret2 | go_ret
      exact ⟨_, N, c, rfl, by have := HN.out; rw [← hin] at this; exact this, HO.out, HE.out⟩
end Go.Proofs.Ytokmlklcjipkiaa

/- Contracts of sais.order and firstInOrder: endings in order, by induction on how many numbers there are. -/
namespace Go.Proofs.Ytokmlklcjipkiaa
set_option linter.unusedVariables false
set_option linter.unusedSimpArgs false
open Go.RowKit

theorem nmG_add (s : List Int) (G : List Nat) (t : Nat) : ∀ d, nmG s G (t + d) ≤ nmG s G t + d := by
  intro d
  induction d with
  | zero => exact Nat.le_refl _
  | succ d ih =>
    show nmG s G (t + d) + _ ≤ _
    split <;> omega
theorem Named.all {s N : List Int} {P G : List Nat} {c : Nat} (h : Named s P G P.length N c) (ho : Ordd s P G) (hp : G.Perm (firstN s)) : ∀ t i, t < G.length → i < N.length → G.getD t 0 = (firstN s).getD i 0 → N.getD i 0 = (nmG s G t : Int) := by
  intro t i ht hi e
  have hl : G.length = P.length := by rw [← ho.place, List.length_map]
  have h1 := ho.at (t := t) (by omega)
  rw [← h.name t (by omega)]
  congr 1
  have hi2 : i < (firstN s).length := by rw [← ho.len, ← h.len]; exact hi
  rcases Nat.lt_trichotomy i (P.getD t 0) with g | g | g
  · have := firstN_lt s g h1.1
    omega
  · exact g
  · have := firstN_lt s g hi2
    omega
theorem Named.names {s N : List Int} {P G : List Nat} {c : Nat} (h : Named s P G P.length N c) (ho : Ordd s P G) (hp : G.Perm (firstN s)) (hc : G.Pairwise (fun a b => cmpI (cutW s a) (cutW s b) ≤ 0)) : Names s N :=
  names_of hp hc (by rw [h.len, ho.len]) (h.all ho hp)
theorem Named.fit {s N : List Int} {P G : List Nat} {c : Nat} (h : Named s P G P.length N c) (ho : Ordd s P G) (hp : G.Perm (firstN s)) (hl : P.length ≤ 1000000) : fitB N (c : Int) = true := by
  have hG : G.length = P.length := by rw [← ho.place, List.length_map]
  refine fitB_iff.2 ⟨by omega, by have := h.le; omega, goodI_iff.2 fun z hz => ?_⟩
  obtain ⟨i, hi, rfl⟩ := List.getElem_of_mem hz
  have hi2 : i < (firstN s).length := by rw [← ho.len, ← h.len]; exact hi
  obtain ⟨t, ht, et⟩ := mem_getN (hp.mem_iff.2 (getN_mem hi2))
  have h1 := h.all ho hp t i ht hi et
  have h2 : N.getD i 0 = N[i] := by simp [List.getD, hi]
  rw [← h2, h1, h.count (P.length - 1) (by omega)]
  have := nmG_mono s G (show t ≤ P.length - 1 by omega)
  omega
theorem Named.apart {s N : List Int} {P G : List Nat} {c : Nat} (h : Named s P G P.length N c) (hl : G.length = P.length) (hc : P.length ≤ c) : ∀ t, t + 1 < G.length → cutW s (G.getD t 0) ≠ cutW s (G.getD (t + 1) 0) := fun t ht e => by
  have h1 := h.count (P.length - 1) (by omega)
  have h2 := nmG_add s G (t + 1) (P.length - 1 - (t + 1))
  rw [show t + 1 + (P.length - 1 - (t + 1)) = P.length - 1 by omega, nmG_same e] at h2
  have h3 := nmG_le s G t
  omega

/-- A row as far as it is laid. -/
structure Half (F Q : List Nat) (i : Nat) (r : List Nat) : Prop where
  len : r.length = Q.length
  at' : ∀ t, t < i → r.getD t 0 = F.getD (Q.getD t 0) 0
theorem Half.start (F Q : List Nat) : Half F Q 0 (List.replicate Q.length 0) := ⟨List.length_replicate, fun t h => by omega⟩
theorem Half.next {F Q r : List Nat} {i : Nat} (h : Half F Q i r) (hi : i < Q.length) : Half F Q (i + 1) (r.set i (F.getD (Q.getD i 0) 0)) := by
  refine ⟨by rw [List.length_set]; exact h.len, fun t ht => ?_⟩
  by_cases e : t = i
  · subst e
    rw [set_same (by rw [h.len]; exact hi)]
  · rw [set_other (by omega)]
    exact h.at' t (by omega)
theorem Half.done {F Q r : List Nat} (h : Half F Q Q.length r) : r = Q.map fun (i : Nat) => F.getD i 0 :=
  natL_ext (by rw [h.len, List.length_map]) fun i hi => by
    rw [h.len] at hi
    rw [h.at' i hi]
    simp [List.getD, hi]

/-- What order answers, of fewer than n numbers. -/
def OrderOK (n : Nat) : Prop := ∀ (sv : Value) (s : List Int) (k : Int) (w : World), s.length < n → Sl .i64 w sv s → fitB s k = true → s.length ≤ 1000000 →
  Calls Try.prog 29 #[sv, .int .i64 k] w fun e w' => ∃ u R, e = .returned u ∧ InOrd s R ∧ Own .i64 3 w.heap.size w' u (natL R) ∧ Ext w w'

set_option maxHeartbeats 2000000 in
theorem firstInOrder_any {n : Nat} (IH : Hid (OrderOK n)) (sv : Value) (s : List Int) (k : Int) (w : World) (hsn : s.length ≤ n) (hs : Sl .i64 w sv s) (hfit : fitB s k = true) (hlen : s.length ≤ 1000000) :
    Calls Try.prog 33 #[sv, .int .i64 k] w fun e w' => ∃ u F, e = .returned u ∧ F.Perm (firstN s) ∧ F.Pairwise (ltE s) ∧ Own .i64 3 w.heap.size w' u (natL F) ∧ Ext w w' := by
  have HV := hide' hs
  have HLEN := hide' hlen
  have HFIT := hide' hfit
  have HSN := hide' hsn
  have hhalf := firstN_half s
  have HHALF := hide' hhalf
  clear hs hfit hsn
  have C1 := hide' (first_any sv s w HV.out hlen)
  obtain ⟨f, HF⟩ : ∃ f, Hid ((firstN s).length = f) := ⟨_, rfl⟩
  rw [HF.out] at hhalf
  have hf : f ≤ 1000000 := by omega
  clear hhalf hlen
  go_enter Try.func33, Try.ntmps33
  go_wp2_with fail
  refine C1.out.mono ?_
  rintro e w1 ⟨fv, rfl, ho, he⟩
  have OF := hide' ho
  have X1 := hide' he
  have SF := hide' ho.sl
  clear ho he C1
  obtain ⟨fa, fc, rfl, _⟩ := SF.out
  rw [natL_len, HF.out] at OF SF ⊢
  by_cases hf2 : f < 2
  · have d1 : ((f : Int) < 2) := by omega
    have HFL : Hid ((firstN s).length ≤ 1) := by show _ ≤ _; rw [HF.out]; omega
    clear hf2
    go_wp2
    go_ret
    refine ⟨_, firstN s, rfl, List.Perm.refl _, ?_, OF.out, X1.out⟩
    rw [List.pairwise_iff_getElem]
    intro i j hi hj hij
    have := HFL.out
    omega
  · have d1 : decide ((f : Int) < 2) = false := by simp; omega
    have HF2 := hide' hf2
    clear OF
    go_wp2_with fail
    refine (byPieces_any _ _ s k w1 (HV.out.ext X1.out) SF.out HFIT.out HLEN.out).mono ?_
    rintro e w2 ⟨pv, P, R, rfl, hR1, hR2, hP, ho, he⟩
    have HOD := hide' (Ordd.of hR1 hP)
    obtain ⟨G, HGG⟩ : ∃ G, Hid (firOf s R = G) := ⟨_, rfl⟩
    have HGP := hide' (firOf_perm (s := s) hR1)
    have HGC := hide' (firOf_cut (s := s) hR2)
    rw [HGG.out] at HOD HGP HGC
    have OP := hide' ho
    have SP := hide' ho.sl
    have X2 := hide' (X1.out.trans he)
    have SF2 := hide' (SF.out.ext he)
    clear ho he hR1 hR2 hP SF HGG X1
    go_wp2_with fail
    refine (nameAll_any _ _ _ s P G w2 (HV.out.ext X2.out) SF2.out SP.out HOD.out HLEN.out).mono ?_
    rintro e w3 ⟨nv, N, c, rfl, hN, ho, he⟩
    have HNM := hide' hN
    have SN := hide' ho.sl
    have X3 := hide' (X2.out.trans he)
    have SF3 := hide' (SF2.out.ext he)
    have SP3 := hide' (SP.out.ext he)
    have HPL : Hid (P.length = f) := by show _ = _; rw [HOD.out.len, HF.out]
    have hcf : c ≤ f := by have := hN.le; rw [HPL.out] at this; exact this
    clear ho he hN SF2 SP X2 OP
    by_cases hc : c < f
    · have hc' : ((c : Int) < f) := by omega
      have HGL : Hid (G.length = P.length) := by show _ = _; rw [HGP.out.length_eq, HOD.out.len]
      have HNN := hide' (HNM.out.names HOD.out HGP.out HGC.out)
      have HFT := hide' (HNM.out.fit HOD.out HGP.out (by rw [HPL.out]; exact hf))
      have hNl : N.length = f := by rw [HNM.out.len, HPL.out]
      have CO := hide' (IH.out _ N (c : Int) w3 (by rw [hNl]; have := HSN.out; have := HHALF.out; rw [HF.out] at this; omega) SN.out HFT.out (by rw [hNl]; exact hf))
      have HNL := hide' hNl
      clear hNl
      go_wp2_with fail
      refine CO.out.mono ?_
      rintro e w4 ⟨qv, Q, rfl, hQ, ho, he⟩
      have HPP := hide' (red_ord HNN.out hQ).1
      have HPW := hide' (red_ord HNN.out hQ).2
      have HQL : Hid (Q.length = f) := by show _ = _; rw [hQ.len, HNL.out]
      have HQM : Hid (∀ i, i < f → Q.getD i 0 < f) := fun i hi => by have := hQ.mem (i := i) (by rw [HNL.out]; exact hi); rw [HNL.out] at this; exact this
      have SQ := hide' ho.sl
      have X4 := hide' (X3.out.trans he)
      have SF4 := hide' (SF3.out.ext he)
      clear ho he hQ CO SF3 SP3 X3 SN
      obtain ⟨qa, qc, rfl, _⟩ := SQ.out
      rw [natL_len, HQL.out] at SQ ⊢
      obtain ⟨_, _, _, hcq⟩ := SQ.out.nat
      have CQ := hide' hcq
      obtain ⟨_, _, _, hcf⟩ := SF4.out.nat
      have CF := hide' hcf
      obtain ⟨w5, hmk, ho, he⟩ := make_nats w4 f hf
      have hz4 := X4.out.size
      have O5 := hide' ho
      have X5 := hide' he
      have H0 : Hid (Half (firstN s) Q 0 (List.replicate f 0)) := by show Half _ _ _ _; rw [← HQL.out]; exact Half.start _ _
      obtain ⟨g, HG⟩ : ∃ g, Hid (w4.heap.size = g) := ⟨_, rfl⟩
      have hgw : w4.heap.size ≤ g := by rw [HG.out]; exact Nat.le_refl _
      rw [HG.out] at O5 hmk
      clear ho he hcq hcf SQ SF4
      go_wp2
      go_loopw [41] (fun vi wr => ∃ (i : Nat) (r : List Nat), i ≤ f ∧ vi = .int .i64 i ∧ Hid (Half (firstN s) Q i r) ∧ Hid (Own .i64 3 g wr (.slice (some ⟨g, 0, none⟩) f f) (natL r)) ∧ Hid (Ext w4 wr)) (fun vi _ => f - (intOf vi).toNat)
      case atStart => exact ⟨0, _, Nat.zero_le _, rfl, H0, O5, X5⟩
      case round =>
        clear O5 X5 H0 hmk
        obtain ⟨i, r, hi, rfl, HH, HO, HE⟩ := hrel
        have HRL : Hid (r.length = f) := by show _ = _; rw [HH.out.len, HQL.out]
        have HRN : Hid ((natL r).length = f) := by show _ = _; rw [natL_len, HRL.out]
        by_cases hlt : i < f
        · have hlt' : (i : Int) < f := by omega
          have H1 := hide' (HH.out.next (by rw [HQL.out]; exact hlt))
          obtain ⟨g1, o1, rfl, k1⟩ := CQ.out (by omega)
          have c1 := HE.out.cellOf (k1 i hlt)
          obtain ⟨g2, o2, rfl, k2⟩ := CF.out (by omega)
          have hq := HQM.out i hlt
          have c2 := HE.out.cellOf (k2 (Q.getD i 0) hq)
          obtain ⟨q, HQ⟩ : ∃ q, Hid (Q.getD i 0 = q) := ⟨_, rfl⟩
          rw [HQ.out] at c1 c2 hq H1
          obtain ⟨x, HX⟩ : ∃ x, Hid ((firstN s).getD q 0 = x) := ⟨_, rfl⟩
          rw [HX.out] at c2 H1
          have hq' : (q : Int) < f := by omega
          have c3 := HO.out.cell HRN.out i hlt
          have z3 := HO.out.frozen HRN.out i
          have O6 := hide' (HO.out.storeN HRL.out i x)
          have X6 : Hid (Ext w4 (wr.setCell ⟨g, i, none⟩ (.int .i64 (x : Int)))) := Ext.but HE.out hgw (but_set _ _ _ _)
          clear k1 k2 HO HE HH
          go_wp2
          go_roundw
          case rel => exact ⟨i + 1, _, by omega, by go_num, H1, O6, X6⟩
          case measure => simp [intOf] <;> omega
        · have d2 : decide ((i : Int) < f) = false := by simp; omega
          have hin : f = i := by omega
          have HD : Hid (r = Q.map fun (i : Nat) => (firstN s).getD i 0) := by
            show _ = _
            have := HH.out
            rw [← hin, ← HQL.out] at this
            exact this.done
          go_wp2
          go_ret
          refine ⟨_, r, rfl, by rw [HD.out]; exact HPP.out, by rw [HD.out]; exact HPW.out, ?_, X4.out.trans HE.out⟩
          exact HO.out.low (by have := X4.out.size; have := HG.out; omega)
    · have hc' : decide ((c : Int) < f) = false := by simp; omega
      have HGL : Hid (G.length = P.length) := by show _ = _; rw [HGP.out.length_eq, HOD.out.len]
      have HPP : Hid ((P.map fun (i : Nat) => (firstN s).getD i 0).Perm (firstN s)) := by show List.Perm _ _; rw [HOD.out.place]; exact HGP.out
      have HPW : Hid ((P.map fun (i : Nat) => (firstN s).getD i 0).Pairwise (ltE s)) := by
        show List.Pairwise _ _
        rw [HOD.out.place]
        exact firOf_ord HGP.out HGC.out (HNM.out.apart HGL.out (by rw [HPL.out]; omega))
      obtain ⟨Q, HQQ⟩ : ∃ Q, Hid (P = Q) := ⟨_, rfl⟩
      have HQM : Hid (∀ i, i < f → P.getD i 0 < f) := fun i hi => by have := (HOD.out.at (t := i) (by rw [HPL.out]; exact hi)).1; rw [HF.out] at this; exact this
      have HQL := HPL
      rw [HQQ.out] at HPP HPW HQM HQL
      have SQ := SP3
      rw [HQQ.out] at SQ
      obtain ⟨qv, HQV⟩ : ∃ v, Hid (pv = v) := ⟨_, rfl⟩
      rw [HQV.out] at SQ ⊢
      have X4 := X3
      have SF4 := SF3
      clear SF3 SP3 X3 SN
      obtain ⟨qa, qc, rfl, _⟩ := SQ.out
      rw [natL_len, HQL.out] at SQ ⊢
      obtain ⟨_, _, _, hcq⟩ := SQ.out.nat
      have CQ := hide' hcq
      obtain ⟨_, _, _, hcf⟩ := SF4.out.nat
      have CF := hide' hcf
      obtain ⟨w5, hmk, ho, he⟩ := make_nats w3 f hf
      have hz4 := X4.out.size
      have O5 := hide' ho
      have X5 := hide' he
      have H0 : Hid (Half (firstN s) Q 0 (List.replicate f 0)) := by show Half _ _ _ _; rw [← HQL.out]; exact Half.start _ _
      obtain ⟨g, HG⟩ : ∃ g, Hid (w3.heap.size = g) := ⟨_, rfl⟩
      have hgw : w3.heap.size ≤ g := by rw [HG.out]; exact Nat.le_refl _
      rw [HG.out] at O5 hmk
      clear ho he hcq hcf SQ SF4
      go_wp2
      go_loopw [41] (fun vi wr => ∃ (i : Nat) (r : List Nat), i ≤ f ∧ vi = .int .i64 i ∧ Hid (Half (firstN s) Q i r) ∧ Hid (Own .i64 3 g wr (.slice (some ⟨g, 0, none⟩) f f) (natL r)) ∧ Hid (Ext w3 wr)) (fun vi _ => f - (intOf vi).toNat)
      case atStart => exact ⟨0, _, Nat.zero_le _, rfl, H0, O5, X5⟩
      case round =>
        clear O5 X5 H0 hmk
        obtain ⟨i, r, hi, rfl, HH, HO, HE⟩ := hrel
        have HRL : Hid (r.length = f) := by show _ = _; rw [HH.out.len, HQL.out]
        have HRN : Hid ((natL r).length = f) := by show _ = _; rw [natL_len, HRL.out]
        by_cases hlt : i < f
        · have hlt' : (i : Int) < f := by omega
          have H1 := hide' (HH.out.next (by rw [HQL.out]; exact hlt))
          obtain ⟨g1, o1, rfl, k1⟩ := CQ.out (by omega)
          have c1 := HE.out.cellOf (k1 i hlt)
          obtain ⟨g2, o2, rfl, k2⟩ := CF.out (by omega)
          have hq := HQM.out i hlt
          have c2 := HE.out.cellOf (k2 (Q.getD i 0) hq)
          obtain ⟨q, HQ⟩ : ∃ q, Hid (Q.getD i 0 = q) := ⟨_, rfl⟩
          rw [HQ.out] at c1 c2 hq H1
          obtain ⟨x, HX⟩ : ∃ x, Hid ((firstN s).getD q 0 = x) := ⟨_, rfl⟩
          rw [HX.out] at c2 H1
          have hq' : (q : Int) < f := by omega
          have c3 := HO.out.cell HRN.out i hlt
          have z3 := HO.out.frozen HRN.out i
          have O6 := hide' (HO.out.storeN HRL.out i x)
          have X6 : Hid (Ext w3 (wr.setCell ⟨g, i, none⟩ (.int .i64 (x : Int)))) := Ext.but HE.out hgw (but_set _ _ _ _)
          clear k1 k2 HO HE HH
          go_wp2
          go_roundw
          case rel => exact ⟨i + 1, _, by omega, by go_num, H1, O6, X6⟩
          case measure => simp [intOf] <;> omega
        · have d2 : decide ((i : Int) < f) = false := by simp; omega
          have hin : f = i := by omega
          have HD : Hid (r = Q.map fun (i : Nat) => (firstN s).getD i 0) := by
            show _ = _
            have := HH.out
            rw [← hin, ← HQL.out] at this
            exact this.done
          go_wp2
          go_ret
          refine ⟨_, r, rfl, by rw [HD.out]; exact HPP.out, by rw [HD.out]; exact HPW.out, ?_, X4.out.trans HE.out⟩
          exact HO.out.low (by have := X4.out.size; have := HG.out; omega)

theorem order_any : ∀ n, OrderOK n := by
  intro n
  induction n with
  | zero => intro sv s k w h; omega
  | succ n ih =>
    intro sv s k w hn hs hfit hlen
    have IH := hide' ih
    have HV := hide' hs
    have HLEN := hide' hlen
    have HFIT := hide' hfit
    have CF := hide' (firstInOrder_any IH sv s k w (by omega) hs hfit hlen)
    clear hs hfit hlen hn
    go_enter Try.func29, Try.ntmps29
    go_wp2_with fail
    refine CF.out.mono ?_
    rintro e w1 ⟨u, F, rfl, hp, hw, ho, he⟩
    have HB : Hid (sortB s k (natL F) = true) := sortB_iff.2 ⟨HFIT.out, firB_iff.2 (hp.map _)⟩
    obtain ⟨R, hR1, hR2⟩ := sais_ord (Fits.of HFIT.out) hp hw
    have HI : Hid (sortI s k (natL F) = natL R) := by show _ = _; rw [sortI_yes HB.out, toN_nat, hR1]
    have HR := hide' hR2
    have SU := hide' ho.sl
    have X1 := hide' he
    have hz := he.size
    have CS := hide' (sort_any _ _ s (natL F) k w1 (HV.out.ext X1.out) SU.out HLEN.out)
    rw [HB.out, HI.out] at CS
    clear ho he hp hw hR1 hR2 CF
    go_wp2_with fail
    refine CS.out.mono ?_
    rintro e w2 ⟨v, rfl, ho, he⟩
    have O2 := hide' (ho.low hz)
    have X2 := hide' (X1.out.trans he)
    clear ho he CS
    go_wp2
    go_ret
    exact ⟨_, R, rfl, HR.out, O2.out, X2.out⟩
end Go.Proofs.Ytokmlklcjipkiaa

/- Contracts of sais.Ints, numbers and Bytes. -/
namespace Go.Proofs.Ytokmlklcjipkiaa
set_option linter.unusedVariables false
set_option linter.unusedSimpArgs false
open Go.RowKit

theorem saInts_any (v : Value) (s : List Int) (k : Int) (w : World) (hv : Sl .i64 w v s) (hlen : s.length ≤ 1000000) :
    Calls Try.prog 21 #[v, .int .i64 k] w fun e w' => ∃ u L c, e = .returned (.tuple #[u, .int .i64 c]) ∧ ResI s k L c ∧ Own .i64 3 w.heap.size w' u L ∧ Ext w w' := by
  have HV := hide' hv
  have HLEN := hide' hlen
  obtain ⟨a, c, rfl, _⟩ := hv
  by_cases h1 : 100000 < s.length
  · have d1 : (100000 : Int) < (s.length : Int) := by omega
    have HR : Hid (ResI s k [] 2) := .inl ⟨h1, rfl, rfl⟩
    clear h1
    go_enter Try.func21, Try.ntmps21
    go_wp2
    go_ret2
    exact ⟨_, [], 2, rfl, HR.out, Own.nil _ _ _ _, Ext.refl _⟩
  · have d1 : decide ((100000 : Int) < (s.length : Int)) = false := by simp; omega
    have HC := hide' (counts_any _ s k w HV.out hlen)
    have HL1 : Hid (s.length ≤ 100000) := by show _ ≤ _; omega
    clear h1
    cases hf : fitB s k
    · have HR : Hid (ResI s k [] 1) := .inr (.inl ⟨HL1.out, hf, rfl, rfl⟩)
      rw [hf] at HC
      clear hf
      go_enter Try.func21, Try.ntmps21
      go_wp2_with fail
      refine HC.out.mono ?_
      rintro e w1 ⟨s1, rfl, _, he⟩
      have X1 := hide' he
      clear he HC
      go_wp2
      go_ret2
      exact ⟨_, [], 1, rfl, HR.out, Own.nil _ _ _ _, X1.out⟩
    · have HF := hide' hf
      rw [hf] at HC
      clear hf
      go_enter Try.func21, Try.ntmps21
      go_wp2_with fail
      refine HC.out.mono ?_
      rintro e w1 ⟨s1, rfl, _, he⟩
      have X1 := hide' he
      have hz := he.size
      clear he HC
      go_wp2_with fail
      refine (order_any (s.length + 1) _ s k w1 (by omega) (HV.out.ext X1.out) HF.out HLEN.out).mono ?_
      rintro e w2 ⟨u, R, rfl, hR, ho, he⟩
      have O2 := hide' (ho.low hz)
      have X2 := hide' (X1.out.trans he)
      have HR : Hid (ResI s k (natL R) 0) := .inr (.inr ⟨HL1.out, HF.out, rfl, R, hR, rfl⟩)
      clear ho he hR
      go_wp2
      go_ret2
      exact ⟨_, _, 0, rfl, HR.out, O2.out, X2.out⟩

set_option maxHeartbeats 1000000 in
theorem numbers_any (v : Value) (zs : List Int) (w : World) (hv : Sl .u8 w v zs) (h8 : Bytes8 zs) (hlen : zs.length ≤ 1000000) :
    Calls Try.prog 22 #[v] w fun e w' => ∃ u, e = .returned u ∧ Own .i64 3 w.heap.size w' u zs ∧ Ext w w' := by
  have HV := hide' hv
  have H8 := hide' h8
  obtain ⟨a, c, rfl, _⟩ := hv
  obtain ⟨n, HN⟩ : ∃ n, Hid (zs.length = n) := ⟨_, rfl⟩
  rw [HN.out] at HV hlen ⊢
  obtain ⟨w1, hmk, ho, he⟩ := make_ints w n hlen
  obtain ⟨g, HG⟩ : ∃ g, Hid (w.heap.size = g) := ⟨_, rfl⟩
  have hgw : w.heap.size ≤ g := by rw [HG.out]; exact Nat.le_refl _
  rw [HG.out] at ho hmk ⊢
  have O1 := hide' ho
  have X1 := hide' he
  have H0 : Hid (HalfI zs 0 (List.replicate n 0)) := by show HalfI _ _ _; rw [← HN.out]; exact HalfI.start zs
  clear ho he h8
  go_enter Try.func22, Try.ntmps22
  go_wp2
  go_loopw [11] (fun vi wr => ∃ (i : Nat) (r : List Int), i ≤ n ∧ vi = .int .i64 i ∧ Hid (HalfI zs i r) ∧ Hid (Own .i64 3 g wr (.slice (some ⟨g, 0, none⟩) n n) r) ∧ Hid (Ext w wr)) (fun vi _ => n - (intOf vi).toNat)
  case atStart => exact ⟨0, _, Nat.zero_le _, rfl, H0, O1, X1⟩
  case round =>
    clear O1 X1 H0 hmk
    obtain ⟨i, r, hi, rfl, HH, HO, HE⟩ := hrel
    have HRL : Hid (r.length = n) := by show _ = _; rw [HH.out.len, HN.out]
    by_cases hlt : i < n
    · have hlt' : (i : Int) < n := by omega
      have H1 := hide' (HH.out.next (by rw [HN.out]; exact hlt))
      obtain ⟨_, g1, o1, rfl, k1⟩ := HV.out.at (fun e => by have := HN.out; rw [e] at this; simp at this; omega)
      have c1 := HE.out.cellOf (k1 i hlt)
      have hz := H8.out.get i
      obtain ⟨z, HZ⟩ : ∃ z, Hid (zs.getD i 0 = z) := ⟨_, rfl⟩
      rw [HZ.out] at c1 H1 hz
      have hw : IntKind.i64.wrap z = z := by rw [IntKind.wrap_i64]; omega
      have c3 := HO.out.cell HRL.out i hlt
      have z3 := HO.out.frozen HRL.out i
      have O6 := hide' (HO.out.store HRL.out i z)
      have X6 : Hid (Ext w (wr.setCell ⟨g, i, none⟩ (.int .i64 z))) := Ext.but HE.out hgw (but_set _ _ _ _)
      clear k1 HO HE HH
      go_wp2
      go_roundw
      case rel => exact ⟨i + 1, _, by omega, by go_num, H1, O6, X6⟩
      case measure => simp [intOf] <;> omega
    · have d2 : decide ((i : Int) < n) = false := by simp; omega
      have hin : n = i := by omega
      have HD : Hid (r = zs) := by
        show _ = _
        have := HH.out
        rw [← hin, ← HN.out] at this
        exact this.done
      go_wp2
      go_ret
      refine ⟨_, rfl, ?_, HE.out⟩
      rw [← HD.out]
      exact HO.out

theorem saBytes_any (v : Value) (zs : List Int) (w : World) (hv : Sl .u8 w v zs) (h8 : Bytes8 zs) (hlen : zs.length ≤ 1000000) :
    Calls Try.prog 15 #[v] w fun e w' => ∃ u L c, e = .returned (.tuple #[u, .int .i64 c]) ∧ ResI zs 256 L c ∧ Own .i64 3 w.heap.size w' u L ∧ Ext w w' := by
  have HV := hide' hv
  have HLEN := hide' hlen
  have C := hide' (numbers_any v zs w hv h8 hlen)
  obtain ⟨a, c, rfl, _⟩ := hv
  by_cases h1 : 100000 < zs.length
  · have d1 : (100000 : Int) < (zs.length : Int) := by omega
    have HR : Hid (ResI zs 256 [] 2) := .inl ⟨h1, rfl, rfl⟩
    clear h1 C
    go_enter Try.func15, Try.ntmps15
    go_wp2
    go_ret2
    exact ⟨_, [], 2, rfl, HR.out, Own.nil _ _ _ _, Ext.refl _⟩
  · have d1 : decide ((100000 : Int) < (zs.length : Int)) = false := by simp; omega
    clear h1 h8
    go_enter Try.func15, Try.ntmps15
    go_wp2_with fail
    refine C.out.mono ?_
    rintro e w1 ⟨u, rfl, ho, he⟩
    have S1 := hide' ho.sl
    have X1 := hide' he
    have hz := he.size
    clear ho he C
    go_wp2_with fail
    refine (saInts_any _ zs 256 w1 S1.out HLEN.out).mono ?_
    rintro e w2 ⟨u2, L, c2, rfl, hR, ho, he⟩
    have O2 := hide' (ho.low hz)
    have X2 := hide' (X1.out.trans he)
    have HR := hide' hR
    clear ho he hR
    go_wp2
    go_ret2
    exact ⟨_, _, _, rfl, HR.out, O2.out, X2.out⟩
end Go.Proofs.Ytokmlklcjipkiaa

/- Contracts of bwt.Turn and bwt.Back. -/
namespace Go.Proofs.Ytokmlklcjipkiaa
set_option linter.unusedVariables false
set_option linter.unusedSimpArgs false
open Go.RowKit

theorem bwTurn_any (v : Value) (s : List Int) (w : World) (hv : Sl .u8 w v s) (h8 : Bytes8 s) (hs : s.length ≤ 100000) :
    Calls Try.prog 8 #[v] w fun e w' => ∃ r, e = .returned (.tuple #[r, .int .i64 (turnB s).2, .int .i64 0]) ∧ Own .u8 5 w.heap.size w' r (turnB s).1 ∧ Ext w w' := by
  have HV := hide' hv
  have C := hide' (saBytes_any v s w hv h8 (by omega))
  have HS := hide' hs
  have HF := hide' (fit256 h8)
  obtain ⟨va, vc, rfl, _⟩ := hv
  clear h8 hs
  go_enter Try.func8, Try.ntmps8
  go_wp2_with fail
  refine C.out.mono ?_
  rintro e w1 ⟨u1, L1, c1, rfl, hR, ho, he⟩
  obtain ⟨rfl, A, hA, rfl⟩ := hR.ok HS.out HF.out
  obtain rfl := hA.eq (sortE_ord s)
  have HOK : Hid (lcpOk s (natL (sortE s)) = true) := lcpOk_yes (by rw [natL_len, hA.len]) (ordB_nat (by have := hA.1; rwa [← hA.len] at this))
  have HL6 : Hid ((natL (sortE s)).length ≤ 1000000) := by show _ ≤ _; rw [natL_len, hA.len]; have := HS.out; omega
  have O1 := hide' ho.sl
  have X1 := hide' he
  have hz := he.size
  have HBW : Hid (bwI s (natL (sortE s)) = bwL s (sortE s) ∧ bwAtI s (natL (sortE s)) = (bwAt s (sortE s) : Int)) := ⟨bwI_nat HOK.out, bwAtI_nat HOK.out⟩
  clear hR hA ho he C
  go_wp2_with fail
  refine (bwOf_any _ _ s (natL (sortE s)) w1 (HV.out.ext X1.out) O1.out (Nat.le_trans HS.out (by omega)) HL6.out).mono ?_
  rw [HBW.out.1, HBW.out.2, HOK.out]
  rintro e w2 ⟨u2, rfl, ho, he⟩
  have O2 := hide' (ho.low hz)
  have X2 := hide' (X1.out.trans he)
  clear ho he
  go_wp2
  go_ret3
  exact ⟨_, rfl, O2.out, X2.out⟩

set_option maxRecDepth 100000 in
set_option maxHeartbeats 2000000 in
theorem bwBack_any (v : Value) (l : List Int) (at' : Int) (w : World) (hv : Sl .u8 w v l) (h8 : Bytes8 l) (hs : l.length ≤ 100000) :
    Calls Try.prog 10 #[v, .int .i64 at'] w fun e w' => ∃ r, e = .returned (.tuple #[r, .int .i64 (backB l at').2]) ∧ Own .u8 5 w.heap.size w' r (backB l at').1 ∧ Ext w w' := by
  have HV := hide' hv
  have H8 := hide' h8
  have CL := hide' (longer_any v l w hv h8 hs)
  obtain ⟨va, vc, rfl, _⟩ := hv
  clear h8
  have e0 : decide ((100000 : Int) < (l.length : Int)) = false := by simp; omega
  by_cases b1 : at' < 0
  · rw [backB_out (by unfold rowMayB; exact decide_eq_false (by omega))]
    go_enter Try.func10, Try.ntmps10
    go_wp2
    go_ret2
    exact ⟨_, rfl, Own.nil _ _ _ _, Ext.refl _⟩
  have e1 : decide (at' < 0) = false := by simpa using b1
  by_cases b2 : (l.length : Int) < at'
  · rw [backB_out (by unfold rowMayB; exact decide_eq_false (by omega))]
    go_enter Try.func10, Try.ntmps10
    go_wp2
    go_ret2
    exact ⟨_, rfl, Own.nil _ _ _ _, Ext.refl _⟩
  have e2 : decide ((l.length : Int) < at') = false := by simpa using b2
  obtain ⟨k, rfl⟩ := Int.eq_ofNat_of_zero_le (show 0 ≤ at' by omega)
  have hk0 : k ≤ l.length := by omega
  obtain ⟨n, HN⟩ : ∃ n, Hid (l.length = n) := ⟨_, rfl⟩
  have HNO : Hid (bkGo l k n 0 [] = none → backB l (k : Int) = ([], 5)) := fun h => backB_none (by rw [HN.out]; exact h)
  have HYES : Hid (∀ out, bkGo l k n 0 [] = some out → backB l (k : Int) = (out, 0)) := fun out h => back_go hk0 (by rw [HN.out]; exact h)
  rw [HN.out] at HV b2 e0 e2 hs CL hk0 ⊢
  have hkn : k ≤ n := by omega
  have e2' : decide (n < k) = false := by simp; omega
  have e3 : decide ((k : Int) < 0) = false := by simp
  clear b1 b2 e1
  go_enter Try.func10, Try.ntmps10
  go_wp2_with fail
  refine CL.out.mono ?_
  rintro e w1 ⟨u1, rfl, ho1, he1⟩
  have X1 := hide' he1
  have hz1 := he1.size
  have HLA : Hid (∀ j, j < n → (lonL l n).getD j 0 = ((rkN l j + 1 : Nat) : Int)) := fun j hj => by
    have := lonL_all l (j := j) (by rw [HN.out]; exact hj)
    rwa [HN.out] at this
  have HLL : Hid ((lonL l n).length = n) := by show _ = _; rw [lonL_len, HN.out]
  obtain ⟨ua, uc, rfl, _⟩ := ho1.sl
  have S1 := hide' ho1.sl
  obtain ⟨LN, HLN⟩ : ∃ L, Hid (lonL l n = L) := ⟨_, rfl⟩
  rw [HLN.out] at HLA HLL S1 ⊢
  rw [HLL.out] at S1 ⊢
  clear ho1 he1 CL
  obtain ⟨w2, hmk, ho, he⟩ := make_bytes w1 n (by omega)
  have HO := hide' (ho.low hz1)
  have HE := hide' (X1.out.trans he)
  have HE1 := hide' he
  obtain ⟨g, HG⟩ : ∃ g, Hid (w1.heap.size = g) := ⟨_, rfl⟩
  have hgw : w.heap.size ≤ g := by rw [← HG.out]; exact hz1
  rw [HG.out] at HO hmk
  have VA : Hid (0 < n → ∃ b off, va = some ⟨b, off, none⟩ ∧ ∀ W j, Ext w W → j < n → W.cell? ⟨b, off + j, none⟩ = some (.int .u8 (l.getD j 0))) := fun h0 => by
    obtain ⟨_, b, off, h1, h2⟩ := HV.out.at (fun e => by have := HN.out; rw [e] at this; simp at this; omega)
    exact ⟨b, off, h1, fun W j he hj => he.cellOf (h2 j hj)⟩
  have H1 : Hid (∀ r, r ≤ n → r ≠ k → rkN l (byteOf k r) < n) := fun r hr hk => by
    have := rk_lt (l := l) (k := byteOf k r) (by rw [HN.out]; exact byte_lt hr hkn hk)
    rwa [HN.out] at this
  clear ho he
  go_wp2
  clear hmk
  go_loopw [8, 9] (fun vr vi wr => ∃ (t r : Nat) (z : Int) (R : List Int), t ≤ n ∧ r ≤ n ∧ z + 1 = (t : Int) ∧ vi = .int .i64 z ∧ vr = .int .i64 (r : Int) ∧ Hid (R.length = n) ∧ Hid (bkGo l k n 0 [] = bkGo l k t r (R.drop t)) ∧
      Hid (Own .u8 5 w.heap.size wr (.slice (some ⟨g, 0, none⟩) n n) R) ∧ Hid (Ext w1 wr)) (fun _ vi _ => (intOf vi + 1).toNat)
  case atStart => exact ⟨n, 0, (n : Int) - 1, List.replicate n 0, Nat.le_refl _, Nat.zero_le _, by omega, by first | rfl | go_num, rfl, List.length_replicate, (show _ = _ by rw [List.drop_of_length_le (by rw [List.length_replicate]; exact Nat.le_refl _)]), HO, HE1⟩
  case round =>
    clear HO HE1 HE
    obtain ⟨t, r, z, R, ht, hr, hz, rfl, rfl, HL, HGO, HO, HE⟩ := hrel
    by_cases h0 : t = 0
    · have d0 : decide (0 ≤ z) = false := by simp; omega
      have HF := hide' (HYES.out R (by rw [HGO.out, h0]; rfl))
      have HX := hide' (X1.out.trans HE.out)
      clear h0 hz
      go_wp2
      go_ret2
      rw [HF.out]
      exact ⟨_, rfl, HO.out, HX.out⟩
    · obtain ⟨T, HT⟩ : ∃ T, Hid (t = T + 1) := ⟨t - 1, by show _ = _; omega⟩
      obtain rfl : z = (T : Int) := by have := HT.out; omega
      have d0 : decide ((0 : Int) ≤ (T : Int)) = true := by simp
      have hTn : T < n := by have := HT.out; omega
      have hTn' : (T : Int) < n := by omega
      by_cases hrk : r = k
      · have q0 : ((r : Int) == (k : Int)) = true := by simp; omega
        have HF := hide' (HNO.out (by rw [HGO.out, HT.out, hrk]; exact bkGo_stop _ _ _ _))
        have HX := hide' (X1.out.trans HE.out)
        clear hrk
        go_wp2
        go_ret2
        rw [HF.out]
        exact ⟨_, rfl, Own.nil _ _ _ _, HX.out⟩
      · have q0 : ((r : Int) == (k : Int)) = false := by simp; omega
        have HKB : Hid (byteOf k r < n) := byte_lt hr hkn hrk
        have HGN : Hid (bkGo l k n 0 [] = bkGo l k T (rkN l (byteOf k r) + 1) (l.getD (byteOf k r) 0 :: R.drop (T + 1))) := by
          show _ = _
          rw [HGO.out, HT.out]
          exact bkGo_next hrk
        have HRL := hide' (H1.out r hr hrk)
        have CP := hide' (place_any r k wr (by omega))
        clear hrk
        go_wp2_with fail
        refine CP.out.mono ?_
        rintro e w3 ⟨rfl, rfl⟩
        obtain ⟨F, HF⟩ : ∃ F, Hid (byteOf k r = F) := ⟨_, rfl⟩
        rw [HF.out] at HKB HGN HRL ⊢
        clear CP
        obtain ⟨y, HY⟩ : ∃ y, Hid (l.getD F 0 = y) := ⟨_, rfl⟩
        obtain ⟨q, HQ⟩ : ∃ q, Hid (rkN l F = q) := ⟨_, rfl⟩
        have HLF := hide' (HLA.out F HKB.out)
        rw [HQ.out] at HRL HGN HLF
        have HGO2 : Hid (bkGo l k n 0 [] = bkGo l k T (q + 1) ((R.set T y).drop T)) := by
          show _ = _
          rw [HGN.out, HY.out, drop_set (by rw [HL.out]; exact hTn)]
        have hFn : F < n := HKB.out
        have hFn' : (F : Int) < n := by omega
        obtain ⟨vb, voff, hva, vcell⟩ := VA.out (by omega)
        subst hva
        have cF := vcell w3 F (X1.out.trans HE.out) hFn
        rw [HY.out] at cF
        clear vcell
        have zt := HO.out.frozen HL.out T
        have ct := HO.out.cell HL.out T hTn
        have HO2 := hide' (HO.out.store HL.out T y)
        have HE2 := hide' (Ext.but HE.out (by rw [HG.out]; exact Nat.le_refl _) (but_set w3 g T (.int .u8 y)))
        have HL2 : Hid ((R.set T y).length = n) := by show _ = _; rw [List.length_set]; exact HL.out
        obtain ⟨_, lb, loff, hlb, lcell⟩ := (S1.out.ext HE2.out).at (fun e => by have := HLL.out; rw [e] at this; simp at this; omega)
        subst hlb
        have cL := lcell F (by first | exact hFn | (rw [HLL.out]; exact hFn))
        rw [HLF.out] at cL
        clear lcell
        have hq := HRL.out
        go_wp2_with fail
        exact ⟨⟨T, q + 1, (T : Int) - 1, R.set T y, by omega, by omega, by omega, rfl, by first | rfl | go_num, HL2, HGO2, HO2, HE2⟩, by simp [intOf] <;> omega⟩
end Go.Proofs.Ytokmlklcjipkiaa

/- whorllaw21's own known answer. -/
namespace Go.Proofs.Ytokmlklcjipkiaa
set_option linter.unusedVariables false
set_option linter.unusedSimpArgs false
open Go.RowKit

theorem ban_turn : turnB [98, 97, 110, 97, 110, 97] = ([97, 110, 110, 98, 97, 97], 4) := by
  rw [turnB_eq banana_ord]
  decide
theorem ban_str : (strOfNums [97, 110, 110, 98, 97, 97]) = { data := #[97, 110, 110, 98, 97, 97] } := by decide

theorem known_any (w : World) : Calls Try.prog 11 #[] w fun e w' => e = .returned (.bool true) ∧ Ext w w' := by
  have hc6 := fun w => Go.Lib.run_convert_bytes_const (P := Try.prog) w 22 5 #[.int .u8 98, .int .u8 97, .int .u8 110, .int .u8 97, .int .u8 110, .int .u8 97] 6 6 Try.underlying22 Try.underlying5
  have H6 : Hid (∀ w : World, Sl .u8 (w.alloc (.cells (([98, 97, 110, 97, 110, 97] : List Int).map (Value.int .u8)).toArray 5 (6, 7))) (.slice (some ⟨w.heap.size, 0, none⟩) 6 6) [98, 97, 110, 97, 110, 97]) := fun w => Sl.lit' (k := .u8) (e := 5) (fr := (6, 7)) w [98, 97, 110, 97, 110, 97] 6 rfl (by decide)
  go_enter Try.func11, Try.ntmps11
  go_wp2_with fail
  refine (bwTurn_any _ [98, 97, 110, 97, 110, 97] _ (H6.out w) banana_bytes (by decide)).mono ?_
  rw [ban_turn]
  rintro e w2 ⟨u, rfl, ho, he⟩
  have X2 := hide' ((ext_alloc _ _).trans he)
  have s1 := ho.sl.str (P := Try.prog) 22 5 9 Try.underlying22 Try.underlying5 Try.underlying9
  rw [ban_str] at s1
  clear ho he
  go_wp2
  go_ret
  exact ⟨rfl, X2.out⟩
end Go.Proofs.Ytokmlklcjipkiaa

/- How often each byte is there more in one row than in another. Plain numbers, no conditions. -/
namespace Go.Proofs.Ytokmlklcjipkiaa
set_option linter.unusedVariables false
set_option linter.unusedSimpArgs false

/-- Of each byte, how often it is among the first so many of one row, less that among those of the other one. -/
structure Cnt (x y : List Int) (i : Nat) (R : List Int) : Prop where
  len : R.length = 256
  at' : ∀ c, c < 256 → R.getD c 0 = ((x.take i).count (c : Int) : Int) - ((y.take i).count (c : Int) : Int)
theorem Cnt.start (x y : List Int) : Cnt x y 0 (List.replicate 256 0) := ⟨List.length_replicate, fun c hc => by
  rw [List.take_zero, List.take_zero, List.getD_eq_getElem?_getD, List.getElem?_replicate, if_pos hc]
  rfl⟩
theorem Cnt.bd {x y : List Int} {i : Nat} {R : List Int} (h : Cnt x y i R) {c : Nat} (hc : c < 256) : -(i : Int) ≤ R.getD c 0 ∧ R.getD c 0 ≤ i := by
  rw [h.at' c hc]
  have h1 := List.count_le_length (a := (c : Int)) (l := x.take i)
  have h2 := List.count_le_length (a := (c : Int)) (l := y.take i)
  rw [List.length_take] at h1 h2
  omega
theorem Cnt.next {x y : List Int} {i p q : Nat} {R : List Int} (h : Cnt x y i R) (hx : i < x.length) (hy : i < y.length) (hp : x.getD i 0 = (p : Int)) (hq : y.getD i 0 = (q : Int)) (hp6 : p < 256) (hq6 : q < 256) :
    Cnt x y (i + 1) ((R.set p (R.getD p 0 + 1)).set q ((R.set p (R.getD p 0 + 1)).getD q 0 - 1)) := by
  refine ⟨by rw [List.length_set, List.length_set]; exact h.len, fun c hc => ?_⟩
  rw [takeI_succ hx, takeI_succ hy, hp, hq, List.count_append, List.count_append, List.count_singleton, List.count_singleton]
  have hl := h.len
  have e1 : ((p : Int) == (c : Int)) = decide (p = c) := by rw [Bool.eq_iff_iff, beq_iff_eq, decide_eq_true_eq]; omega
  have e2 : ((q : Int) == (c : Int)) = decide (q = c) := by rw [Bool.eq_iff_iff, beq_iff_eq, decide_eq_true_eq]; omega
  rw [e1, e2]
  have h0 := h.at' c hc
  by_cases g1 : p = c
  · subst g1
    by_cases g2 : q = p
    · subst g2
      rw [setI_same (by rw [List.length_set, hl]; exact hc), setI_same (by rw [hl]; exact hc), if_pos (by simp)]
      omega
    · rw [setI_other g2, setI_same (by rw [hl]; exact hc), if_pos (by simp), if_neg (by simpa using g2)]
      omega
  · by_cases g2 : q = c
    · subst g2
      rw [setI_same (by rw [List.length_set, hl]; exact hc), setI_other g1, if_neg (by simpa using g1), if_pos (by simp)]
      omega
    · rw [setI_other g2, setI_other g1, if_neg (by simpa using g1), if_neg (by simpa using g2)]
      omega
theorem Cnt.done {x y : List Int} {R : List Int} {i : Nat} (h : Cnt x y i R) (hi : x.length ≤ i) (hp : x.Perm y) : ∀ c, c < 256 → R.getD c 0 = 0 := fun c hc => by
  rw [h.at' c hc, List.take_of_length_le hi, List.take_of_length_le (by rw [← hp.length_eq]; exact hi), hp.count_eq]
  omega
end Go.Proofs.Ytokmlklcjipkiaa
