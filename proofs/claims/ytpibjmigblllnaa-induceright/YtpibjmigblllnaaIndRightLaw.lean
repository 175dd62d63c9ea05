/- InduceRight: the walk. -/
import Derived.Test.YtpibjmigblllnaaIndKnown
import Derived.Test.YtpibjmigblllnaaIndFacts
import Derived.Test.YtpibjmigblllnaaRefOrder
import Derived.Test.YtpibjmigblllnaaKinRFirst
namespace Go.Proofs.Ytpibjmigblllnaa
set_option linter.unusedVariables false
set_option linter.unusedSimpArgs false
open Go.RowKit

/-- Those of the first i of R that are in F; with the next one, if it is among the first j of F. -/
def filN (F R : List Nat) (i : Nat) : List Nat := (R.take i).filter fun x => decide (x ∈ F)
def filJ (F R : List Nat) (i j : Nat) : List Nat := filN F R i ++ (if R.getD i 0 ∈ F.take j then [R.getD i 0] else [])
theorem filN_zero (F R : List Nat) : filN F R 0 = [] := rfl
theorem filJ_zero (F R : List Nat) (i : Nat) : filJ F R i 0 = filN F R i := by simp [filJ]
theorem filJ_yes {F R : List Nat} {i j : Nat} (hn : F.Nodup) (hj : j < F.length) (e : F.getD j 0 = R.getD i 0) : filJ F R i j ++ [R.getD i 0] = filJ F R i (j + 1) := by
  have h1 : R.getD i 0 ∉ F.take j := fun hm => by
    have h2 : (F.take (j + 1)).Nodup := List.Pairwise.sublist (List.take_sublist _ _) hn
    rw [takeN_succ hj, List.nodup_append] at h2
    exact h2.2.2 _ hm _ (List.mem_singleton.2 rfl) e.symm
  unfold filJ
  rw [if_neg h1, List.append_nil, takeN_succ hj, if_pos (by rw [e]; simp)]
theorem filJ_no {F R : List Nat} {i j : Nat} (hj : j < F.length) (e : F.getD j 0 ≠ R.getD i 0) : filJ F R i (j + 1) = filJ F R i j := by
  unfold filJ
  rw [takeN_succ hj]
  have : R.getD i 0 ∈ F.take j ++ [F.getD j 0] ↔ R.getD i 0 ∈ F.take j := by
    rw [List.mem_append, List.mem_singleton]
    exact ⟨fun h => h.elim id (fun h => absurd h.symm e), .inl⟩
  simp only [this]
theorem filJ_all {F R : List Nat} {i : Nat} (hi : i < R.length) : filJ F R i F.length = filN F R (i + 1) := by
  unfold filJ filN
  rw [List.take_length, takeN_succ hi, List.filter_append]
  congr 1
  by_cases h : R.getD i 0 ∈ F
  · rw [if_pos h, List.filter_cons_of_pos (by simpa using h)]
    rfl
  · rw [if_neg h, List.filter_cons_of_neg (by simpa using h)]
    rfl
theorem filN_len (F R : List Nat) (i : Nat) : (filN F R i).length ≤ i := by
  unfold filN
  have := List.length_filter_le (fun x => decide (x ∈ F)) (R.take i)
  rw [List.length_take] at this
  omega
theorem filJ_len (F R : List Nat) (i j : Nat) : (filJ F R i j).length ≤ i + 1 := by
  unfold filJ
  rw [List.length_append]
  have := filN_len F R i
  split <;> simp <;> omega
/-- All of R that are in F are F, in R's order. -/
theorem filN_perm {s : List Int} {R : List Nat} (h : InOrd s R) : (filN (firstN s) R s.length).Perm (firstN s) ∧ (filN (firstN s) R s.length).Pairwise (ltE s) := by
  have e : R.take s.length = R := by rw [← h.len, List.take_length]
  unfold filN
  rw [e]
  refine ⟨(List.perm_ext_iff_of_nodup (List.Pairwise.filter _ (h.1.nodup_iff.2 List.nodup_range)) (firstN_nodup s)).2 fun x => ?_, h.2.filter _⟩
  rw [List.mem_filter]
  constructor
  · exact fun h => by simpa using h.2
  · exact fun hx => ⟨h.1.mem_iff.2 (List.mem_range.2 (firN_mem.1 hx).1), by simpa using hx⟩

set_option maxHeartbeats 1000000 in
theorem lawRight (v : Value) (s : List Int) (k : Int) (w : World) (hv : Sl .i64 w v s) :
    Calls Try.prog 5 #[v, .int .i64 k] w fun e w' => e = .returned (.bool true) ∧ Ext w w' := by
  have HV := hide' hv
  obtain ⟨a, c, rfl, _⟩ := hv
  by_cases hm : mayB s k = true
  rotate_left
  · have HM : Hid (mayB s k = false) := Bool.eq_false_iff.2 hm
    clear hm
    go_enter Try.func5, Try.ntmps5
    go_wp2_with fail
    refine (may_any _ s k w HV.out).mono ?_
    rw [HM.out]
    rintro e _ ⟨rfl, hw⟩
    rw [hw]
    clear hw
    go_wp2
    go_ret
    exact ⟨rfl, Ext.refl _⟩
  · have HM := hide' hm
    have hl := (mayB_iff.1 hm).1
    have HL : Hid (s.length ≤ 1000000) := by show _ ≤ _; omega
    have HL1 : Hid (s.length ≤ 100000) := by show _ ≤ _; omega
    have hfl := firN_len s s.length
    have HFD := hide' (firstN_nodup s)
    have HSF : Hid (∀ R : List Nat, InOrd s R → sortB s k (natL (filN (firstN s) R s.length)) = true ∧ sortI s k (natL (filN (firstN s) R s.length)) = natL R) := fun R hR => by
      obtain ⟨p1, p2⟩ := filN_perm hR
      obtain ⟨b1, R', e1, e2, _, e3⟩ := sort_facts (fs := natL (filN (firstN s) R s.length)) hm (p1.map _)
      refine ⟨b1, ?_⟩
      rw [toN_nat] at e3
      exact e1.trans (by rw [InOrd.eq hR ⟨e2, e3 p2⟩])
    obtain ⟨n, HN⟩ : ∃ n, Hid (s.length = n) := ⟨_, rfl⟩
    have hn : n ≤ 120 := by rw [← HN.out]; exact hl
    obtain ⟨F, HF⟩ : ∃ F, Hid (firstN s = F) := ⟨_, rfl⟩
    obtain ⟨m, HFM⟩ : ∃ n, Hid (F.length = n) := ⟨_, rfl⟩
    have HFL : Hid ((natL F).length = m) := by show _ = _; rw [natL_len, HFM.out]
    have hmn : m ≤ n := by rw [← HFM.out, ← HF.out, ← HN.out]; exact hfl
    rw [HF.out] at HSF HFD
    rw [HN.out] at HV HSF ⊢
    clear hm hl hfl
    go_enter Try.func5, Try.ntmps5
    go_wp2_with fail
    refine (may_any _ s k w HV.out).mono ?_
    rw [HM.out]
    rintro e _ ⟨rfl, hw⟩
    rw [hw]
    clear hw
    go_wp2_with fail
    refine (rorder_any _ s w HV.out HL1.out).mono ?_
    rintro e w1 ⟨s1, R, rfl, hR, ho, he⟩
    have S1 := hide' ho.sl
    have X1 := hide' he
    have HR := hide' hR
    have HRL : Hid (R.length = n) := by show _ = _; rw [hR.len, HN.out]
    have HRN : Hid ((natL R).length = n) := by show _ = _; rw [natL_len, HRL.out]
    clear ho he hR
    go_wp2_with fail
    refine (rfirst_any _ s w1 (HV.out.ext X1.out) HL.out).mono ?_
    rw [HF.out]
    rintro e w2 ⟨s2, rfl, ho, he⟩
    have S2 := hide' ho.sl
    have T2 := hide' (S1.out.ext he)
    have X2 := hide' (X1.out.trans he)
    clear ho he S1 X1
    obtain ⟨a1, c1, hs1, _⟩ := T2.out
    rw [HRN.out] at hs1
    subst hs1
    obtain ⟨a2, c2, hs2, _⟩ := S2.out
    rw [HFL.out] at hs2
    subst hs2
    obtain ⟨_, _, _, hcv⟩ := T2.out.nat
    have CR := hide' hcv
    clear hcv
    obtain ⟨_, _, _, hcv⟩ := S2.out.nat
    have CF := hide' hcv
    clear hcv
    go_wp2
    go_loopw [6, 8] (fun fv vi wr => ∃ (i : Nat), i ≤ n ∧ vi = .int .i64 i ∧ Hid (Own .i64 3 w2.heap.size wr fv (natL (filN F R i))) ∧ Hid (Ext w2 wr)) (fun _ vi _ => n - (intOf vi).toNat)
    case atStart => exact ⟨0, Nat.zero_le _, rfl, Own.nil _ _ _ _, Ext.refl _⟩
    case round =>
      obtain ⟨i, hi, rfl, HO, HE⟩ := hrel
      by_cases hlt : i < n
      · have hlt' : (i : Int) < n := by omega
        obtain ⟨g1, o1, rfl, k1⟩ := CR.out (by omega)
        have K1 := hide' (k1 i hlt)
        clear k1
        have HYES : Hid (∀ j, j < m → F.getD j 0 = R.getD i 0 → filJ F R i j ++ [R.getD i 0] = filJ F R i (j + 1)) := fun j hj e => filJ_yes HFD.out (by rw [HFM.out]; exact hj) e
        have HNO : Hid (∀ j, j < m → F.getD j 0 ≠ R.getD i 0 → filJ F R i (j + 1) = filJ F R i j) := fun j hj e => filJ_no (by rw [HFM.out]; exact hj) e
        have HALL : Hid (filJ F R i m = filN F R (i + 1)) := by show _ = _; rw [← HFM.out]; exact filJ_all (by rw [HRL.out]; exact hlt)
        obtain ⟨x, HX⟩ : ∃ x, Hid (R.getD i 0 = x) := ⟨_, rfl⟩
        rw [HX.out] at K1 HYES HNO
        go_wp2
        go_loopw [6, 9] (fun fv vj wr => ∃ (j : Nat), j ≤ m ∧ vj = .int .i64 j ∧ Hid (Own .i64 3 w2.heap.size wr fv (natL (filJ F R i j))) ∧ Hid (Ext w2 wr)) (fun _ vj _ => m - (intOf vj).toNat)
        case atStart => exact ⟨0, Nat.zero_le _, rfl, (show Own _ _ _ _ _ _ by rw [filJ_zero]; exact HO.out), HE⟩
        case round =>
          clear HO HE
          obtain ⟨j, hj, rfl, HO, HE⟩ := hrel
          have q1 := HE.out.cellOf K1.out
          by_cases hjm : j < m
          · have hjm' : (j : Int) < m := by omega
            obtain ⟨g2, o2, rfl, k2⟩ := CF.out (by omega)
            have K2 := hide' (k2 j hjm)
            have q2 := HE.out.cellOf (k2 j hjm)
            clear k2
            have HY1 := hide' (HYES.out j hjm)
            have HN1 := hide' (HNO.out j hjm)
            have hsz := HE.out.size
            obtain ⟨y, HY⟩ : ∃ x, Hid (F.getD j 0 = x) := ⟨_, rfl⟩
            rw [HY.out] at q2 K2 HY1 HN1
            by_cases hxy : y = x
            · have HX2 := hide' (HY1.out hxy)
              have HLF : Hid ((natL (filJ F R i j)).length ≤ 1000) := by show _ ≤ _; rw [natL_len]; have := filJ_len F R i j; omega
              subst hxy
              clear HY1 HN1
              go_wp2_with fail
              go_quiet (fail)
              have HOW := hide' (HO.out.ext (Ext.drewN wr nq))
              have HEW := hide' (HE.out.trans (Ext.drewN wr nq))
              generalize wr.drewN nq = W at *
              have hsW := HEW.out.size
              have q3 := HEW.out.cellOf K2.out
              clear HO HE q1 q2 hsz
              go_wp2_with (at_builtin; refine wpList_snoc _ rfl _ _ 22 rfl 3 .i64 8 Try.underlying22 infoI64 w2.heap.size _ (natL (filJ F R i j)) (y : Int) ⟨W.heap.size, 0, none⟩ rfl rfl ?c4 (HOW.out.alloc _) ?c3 ?c5 ?_)
              case c3 => have := HLF.out; unfold maxLen; omega
              case c5 => simp; omega
              case c4 => simp only [World.cell?, heap_alloc_top]; simp
              intro v1 w5 ho1 hb1
              have HO1 : Hid (Own .i64 3 w2.heap.size w5 v1 (natL (filJ F R i (j + 1)))) := by rw [← HX2.out, ← natL_snoc]; exact ho1
              have HE1 : Hid (Ext w2 w5) := Below.trans (HEW.out.trans (ext_alloc _ _)) hb1
              clear ho1 hb1
              go_wp2
              go_roundw
              case rel => exact ⟨j + 1, by omega, by go_num, HO1, HE1⟩
              case measure => simp [intOf] <;> omega
            · have HX2 := hide' (HN1.out hxy)
              have dd : ((y : Int) == x) = false := by simp; omega
              clear HY1 HN1 hxy
              go_wp2_with fail
              go_quiet (fail)
              have HOW : Hid (Own .i64 3 w2.heap.size (wr.drewN nq) u6 (natL (filJ F R i (j + 1)))) := by rw [HX2.out]; exact HO.out.ext (Ext.drewN wr nq)
              have HEW := hide' (HE.out.trans (Ext.drewN wr nq))
              generalize wr.drewN nq = W at *
              clear HO HE q1 q2 hsz
              go_wp2
              go_roundw
              case rel => exact ⟨j + 1, by omega, by go_num, HOW, HEW⟩
              case measure => simp [intOf] <;> omega
          · have hjm' : decide ((j : Int) < m) = false := by simp; omega
            have hjm2 : m = j := by omega
            have HO1 : Hid (Own .i64 3 w2.heap.size wr u6 (natL (filN F R (i + 1)))) := by rw [← HALL.out, hjm2]; exact HO.out
            clear HO
            go_wp2
            go_roundw
            case rel => exact ⟨i + 1, by omega, by go_num, HO1, HE⟩
            case measure => simp [intOf] <;> omega
      · have hlt' : decide ((i : Int) < n) = false := by simp; omega
        have hin : n = i := by omega
        obtain ⟨hb, hi2⟩ := HSF.out R HR.out
        have HB := hide' hb
        have HI := hide' hi2
        clear hb hi2
        subst hin
        have X5 := hide' (X2.out.trans HE.out)
        go_wp2_with fail
        refine (sort_any _ _ s (natL (filN F R n)) k wr (HV.out.ext X5.out) HO.out.sl HL.out).mono ?_
        rw [HB.out, HI.out]
        rintro e w6 ⟨s6, rfl, ho, he⟩
        have S6 := hide' ho.sl
        have T6 := hide' (T2.out.ext (HE.out.trans he))
        have X6 := hide' (X5.out.trans he)
        clear ho he
        go_wp2_with fail
        refine (ints_same _ _ (natL R) w6 S6.out T6.out (by rw [HRN.out]; omega)).mono ?_
        rintro e w7 ⟨rfl, he⟩
        have X7 := hide' (X6.out.trans he)
        clear he
        go_wp2_with fail
        refine (known_any w7).mono ?_
        rintro e w9 ⟨rfl, he⟩
        have X9 := hide' (X7.out.trans he)
        clear he
        go_wp2
        go_ret
        exact ⟨rfl, X9.out⟩
end Go.Proofs.Ytpibjmigblllnaa
