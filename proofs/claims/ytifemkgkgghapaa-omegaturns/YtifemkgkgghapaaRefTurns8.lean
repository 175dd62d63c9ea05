/- Contract of the document's own Turns of words: whorlref8.Turns. -/
import Derived.Test.YtifemkgkgghapaaOmListed
import Derived.Test.YtifemkgkgghapaaOmRef
import Derived.Test.YtifemkgkgghapaaRefTurn
import Derived.Test.YtifemkgkgghapaaKripFin
namespace Go.Proofs.Ytifemkgkgghapaa
set_option linter.unusedVariables false
set_option linter.unusedSimpArgs false
open Go.RowKit

theorem omI_turns {zss : List (List Int)} {t u : Nat × Nat} (ht : t.2 < (wordAt zss t.1).length) (hu : u.2 < (wordAt zss u.1).length) :
    omI (turnI (wordAt zss t.1) t.2) (turnI (wordAt zss u.1) u.2) < 0 ↔ LtF (sqP zss t) (sqP zss u) := by
  rw [omI_neg (by rw [turnI_len (by omega)]; omega) (by rw [turnI_len (by omega)]; omega)]
  have e1 : atW (turnI (wordAt zss t.1) t.2) = sqP zss t := by funext k; exact sqP_turn ht k
  have e2 : atW (turnI (wordAt zss u.1) u.2) = sqP zss u := by funext k; exact sqP_turn hu k
  rw [e1, e2]

/-- What the calls of the loop's test hand back. -/
def testS (x : List Int) (r : Int) (h0 : Nat) (f : FuncId) (v : Value) (w : World) : Prop :=
  match f with
  | 22 => Own .u8 5 h0 w v x
  | _ => v = .int .i64 r
theorem testS_1 {x : List Int} {r : Int} {h0 : Nat} {v : Value} {w : World} : testS x r h0 22 v w ↔ Own .u8 5 h0 w v x := Iff.rfl
theorem testS_2 {x : List Int} {r : Int} {h0 : Nat} {v : Value} {w : World} : testS x r h0 9 v w ↔ v = .int .i64 r := Iff.rfl

set_option maxHeartbeats 4000000 in
theorem rturns8_any (v : Value) (zss : List (List Int)) (w : World) (hs : Sls w v zss) (hlen : zss.length ≤ 100000) (htot : offP zss zss.length ≤ 100000) :
    Calls Try.prog 13 #[v] w fun e w' => ∃ s l, e = .returned s ∧ l.Perm (listP zss) ∧ l.Pairwise (RP zss) ∧ OwnP w.heap.size w' s l ∧ Ext w w' := by
  have HS := hide' hs
  obtain ⟨a, c, rfl, _⟩ := hs
  obtain ⟨n, HN⟩ : ∃ n, Hid (zss.length = n) := ⟨_, rfl⟩
  have HTOT := hide' htot
  have WL : Hid (∀ i, i < zss.length → (wordAt zss i).length ≤ 100000 ∧ offP zss i + (wordAt zss i).length ≤ 100000) := fun i hi => by
    have h1 := offP_mono zss (show i + 1 ≤ zss.length from hi)
    rw [offP_succ] at h1
    omega
  clear htot
  rw [HN.out] at HS hlen ⊢
  go_enter Try.func13, Try.ntmps13
  go_wp2
  go_loopw [3, 4] (fun sv vi wr => ∃ (i : Nat) (out : List (Nat × Nat)), i ≤ n ∧ vi = .int .i64 i ∧ Hid (out.Perm (listK zss i)) ∧ Hid (out.Pairwise (RP zss)) ∧ Hid (OwnP w.heap.size wr sv out) ∧ Hid (Ext w wr)) (fun _ vi _ => n - (intOf vi).toNat)
  case atStart => exact ⟨0, [], Nat.zero_le _, rfl, List.Perm.refl _, List.Pairwise.nil, OwnP.nil _ _, Ext.refl _⟩
  case round =>
    obtain ⟨i, out, hi, rfl, PM, PW, HO, HE⟩ := hrel
    by_cases hlt : i < n
    · have hlt' : (i : Int) < n := by omega
      have HI : Hid (i < zss.length) := by show _ < _; rw [HN.out]; exact hlt
      have PM0 : Hid (out.Perm (listK zss i ++ rowP i 0)) := by show List.Perm _ _; simpa [rowP] using PM.out
      have wl := WL.out i HI.out
      go_wp2
      go_loopw [3, 5] (fun sv vk wr => ∃ (k : Nat) (out : List (Nat × Nat)), k ≤ (wordAt zss i).length ∧ vk = .int .i64 k ∧ Hid (out.Perm (listK zss i ++ rowP i k)) ∧ Hid (out.Pairwise (RP zss)) ∧ Hid (OwnP w.heap.size wr sv out) ∧ Hid (Ext w wr)) (fun _ vk _ => (wordAt zss i).length - (intOf vk).toNat)
      case atStart => exact ⟨0, out, Nat.zero_le _, rfl, PM0, PW, HO, HE⟩
      case round =>
        clear PM0 PM PW HO HE
        obtain ⟨k, out, hk, rfl, PM, PW, HO, HE⟩ := hrel
        obtain ⟨sg, soff, a2, c2, rfl, hwc, hm1, hm2, hws⟩ := (HS.out.ext HE.out).word (k := i) HI.out
        unfold maxLen at hm1
        have HWS := hide' hws
        clear hws
        obtain ⟨m, HM⟩ : ∃ m, Hid ((wordAt zss i).length = m) := ⟨_, rfl⟩
        rw [HM.out] at hk hwc hm2 wl HWS ⊢
        by_cases hlt2 : k < m
        · have hlt2' : (k : Int) < m := by omega
          have BEF : Hid (∀ u ∈ out, Bef u (i, k)) := fun u hu => listed_bef (PM.out.mem_iff.1 hu)
          have INS : Hid (∀ u ∈ out, u.1 < zss.length ∧ u.2 < (wordAt zss u.1).length) := fun u hu => listed_in HI.out (by rw [HM.out]; exact hk) (PM.out.mem_iff.1 hu)
          have OL : Hid (out.length + 1 ≤ 100000) := by
            have h1 := PM.out.length_eq
            rw [List.length_append, rowP_len] at h1
            have h2 := wl.2
            unfold offP at h2
            show _ ≤ _
            omega
          obtain ⟨oa, oc, hov, hoc1, hoc2, _⟩ := HO.out.shape
          unfold maxLen at hoc2
          subst hov
          go_wp2_with fail
          refine (rturn_any _ (wordAt zss i) k wr HWS.out (by rw [HM.out]; omega) (by rw [HM.out]; omega)).mono ?_
          rintro e w1 ⟨st, rfl, ho, he⟩
          have T1 := hide' ho.sl
          have E1 := hide' (HE.out.trans he)
          have O1 := hide' (HO.out.ext he)
          obtain ⟨ta, tc, hst, _⟩ := ho.sl
          have TL : Hid ((turnI (wordAt zss i) k).length = m) := by show _ = _; rw [turnI_len (by rw [HM.out]; omega), HM.out]
          rw [TL.out] at hst
          subst hst
          clear ho he HO hwc HWS HE
          have S1 := hide' O1.out.sl
          obtain ⟨L, HL⟩ : ∃ L, Hid (out.length = L) := ⟨_, rfl⟩
          have ol := OL.out
          rw [HL.out] at ol S1 O1 hoc1 ⊢
          have CO := hide' S1.out.at.2.2.2
          go_wp2
          go_loopw [7] (fun vj wr => ∃ (j : Nat), j ≤ L ∧ vj = .int .i64 j ∧ Hid (Ins zss out (i, k) j) ∧ Hid (Ext w1 wr)) (fun vj _ => (intOf vj).toNat)
          case atStart => exact ⟨L, Nat.le_refl _, rfl, (fun q h1 h2 => by rw [HL.out] at h2; omega), Ext.refl _⟩
          case round =>
            obtain ⟨j, hj, rfl, IN, EW⟩ := hrel
            by_cases hj0 : j = 0
            · have STOP : Hid (j = 0 ∨ ¬ LtF (sqP zss (i, k)) (sqP zss (out.getD (j - 1) (0, 0)))) := .inl hj0
              have d0 : decide ((0 : Int) < (j : Int)) = false := by simp; omega
              have d1 : decide (0 < j) = false := by simp; omega
              clear hj0
              go_wp2_with fail
              go_quiet (fail)
              have EX2 : Ext w1 (wr.drewN nq) := EW.out.trans (Ext.drewN _ _)
              have HEX := hide' EX2
              clear EX2
              generalize wr.drewN nq = W at *
              clear EW d0 d1
              have SW := hide' (S1.out.ext HEX.out)
              obtain ⟨r1, s1⟩ := SW.out.runTake j (by rw [HL.out]; omega)
              obtain ⟨da, r2, s2⟩ := SW.out.runDrop j (by rw [HL.out]; omega)
              have N1 := hide' s1.news
              have N2 := hide' s2.news
              clear s1 s2
              have AL : Hid ((out.take j).length = j) := by show _ = _; rw [List.length_take, HL.out]; omega
              have DL : Hid ((out.drop j).length = L - j) := by show _ = _; rw [List.length_drop, HL.out]
              have PW2 := hide' (IN.out.place (by rw [HL.out]; exact hj) PW.out BEF.out STOP.out)
              have PM2 : Hid ((out.take j ++ [(i, k)] ++ out.drop j).Perm (listK zss i ++ rowP i (k + 1))) := by
                have := ins_perm (t := (i, k)) (j := j) PM.out
                show List.Perm _ _
                rw [rowP_succ, ← List.append_assoc]
                exact this
              obtain ⟨A, HAA⟩ : ∃ A, Hid (out.take j = A) := ⟨_, rfl⟩
              obtain ⟨D, HDD⟩ : ∃ D, Hid (out.drop j = D) := ⟨_, rfl⟩
              rw [HAA.out] at N1 AL PW2 PM2
              rw [HDD.out] at N2 DL PW2 PM2
              obtain ⟨Z, HZ⟩ : ∃ Z, Hid (A ++ [(i, k)] ++ D = Z) := ⟨_, rfl⟩
              obtain ⟨FF, HFF⟩ : ∃ FF, Hid (cellsP Z = FF) := ⟨_, rfl⟩
              have F1 : Hid (∀ q, q < j * 2 → (cellsP A)[q]? = FF[0 * 2 + q]?) := fun q hq => by rw [← HFF.out, ← HZ.out]; exact finP_1 A D (i, k) j q AL.out hq
              have F2 : Hid (∀ q, q < 1 * 2 → (cellsP [(i, k)])[q]? = FF[j * 2 + q]?) := fun q hq => by rw [← HFF.out, ← HZ.out]; exact finP_2 A D (i, k) j q AL.out hq
              have F3 : Hid (∀ q, (cellsP D)[q]? = FF[(j + 1) * 2 + q]?) := fun q => by rw [← HFF.out, ← HZ.out]; exact finP_3 A D (i, k) j q AL.out
              have ZL : Hid (Z.length = j + 1 + (L - j)) := by show _ = _; rw [← HZ.out, List.length_append, List.length_append, AL.out, DL.out]; rfl
              have FL : Hid (FF.length = (j + 1 + (L - j)) * 2) := by show _ = _; rw [← HFF.out, cellsP_len, ZL.out]
              rw [HZ.out] at PW2 PM2
              go_wp2_with fail
              have hne := KR.later_some (frel W.heap.size 38 FF 2) W
              refine KR.wp_region_k (E := frel W.heap.size 38 FF 2) (fun _ _ _ _ => True) (by kernel_rfl) (by kernel_rfl) (by kernel_rfl) ?_
              refine KR.lexK_some (fun u w' => LitF W.heap.size 38 w' u 0 #[]) (fun u => LitF.up (by simp)) rfl (fun w1' he1 _ => ?_) ?_
              · exact ⟨.slice (some ⟨w1'.heap.size, 0, none⟩) 0 0, w1'.alloc (.cells #[] 38), by kernel_rfl, ExtF.ofExt (ext_alloc _ _), _, rfl, he1.size, heap_alloc_top _ _⟩
              intro u56 w56 _ _ _
              simp only [Act.put, List.setIfInBounds_toArray, List.set_cons_succ, List.set_cons_zero]
              refine KR.lexK_take 3 (by kernel_rfl) ?_
              simp only [List.take_succ_cons, List.take_zero, List.drop_succ_cons, List.drop_zero]
              repeat (go_big_quiet_step (fail))
              refine wpQuiet_nil ?_
              refine KR.lexK_some (fun u w' => OwnF W.heap.size 38 FF 2 w' u j ∧ (j = 0 → ∃ a', u = .slice a' 0 0)) (fun u w1' w2' h12 h => ⟨OwnF.up _ _ h12 h.1, h.2⟩) rfl (fun w2' he2 hf2 => ?_) ?_
              · have hb := (hf2 56 (by decide)).2 rfl
                have e2 : Ext W w2' := he2.ext
                obtain ⟨g56, hg56, _⟩ := id hb
                obtain ⟨u2, w3', q1, q2, q3, q4⟩ := append_F (P := Try.prog) (lo := 2) 28 28 _ Try.underlying28 infoP rfl (by decide) _ _ 0 j _ _ (cellsP A) hb.own rfl N1.out.2.1 (by rw [cellsP_len, AL.out]) (fun ad hd q u hq => e2.cellOf (N1.out.2.2 ad hd q u hq)) (cellsP_one A) F1.out
                  (by
                    by_cases h0 : j = 0
                    · exact .inl h0
                    · refine .inr (.inr fun a' c' hv => ?_)
                      rw [hg56] at hv
                      simp only [Value.slice.injEq] at hv
                      omega) (by unfold maxLen; omega) (by omega) he2.size
                rw [Nat.zero_add] at q3
                refine ⟨u2, w3', run_append_op rfl rfl rfl q1, q2, q3, fun h0 => ?_⟩
                have := q4 _ _ hg56 (by omega)
                rw [h0] at this
                exact this
              intro u60 w60 _ _ _
              simp only [Act.put, List.setIfInBounds_toArray, List.set_cons_succ, List.set_cons_zero]
              refine KR.lexK_take 2 (by kernel_rfl) ?_
              simp only [List.take_succ_cons, List.take_zero, List.drop_succ_cons, List.drop_zero]
              repeat (go_big_quiet_step (fail))
              refine wpQuiet_nil ?_
              refine KR.lexK_val (.agg #[.int .i64 (i : Int), .int .i64 (k : Int)]) rfl (fun w' _ _ => by kernel_rfl) ?_
              simp only [Act.put, List.setIfInBounds_toArray, List.set_cons_succ, List.set_cons_zero]
              refine KR.lexK_some (fun u w' => LitF W.heap.size 38 w' u 1 #[.int .i64 (i : Int), .int .i64 (k : Int)]) (fun u => LitF.up (by simp)) rfl (fun w1' he1 _ => ?_) ?_
              · exact ⟨.slice (some ⟨w1'.heap.size, 0, none⟩) 1 1, w1'.alloc (.cells #[.int .i64 (i : Int), .int .i64 (k : Int)] 38), by kernel_rfl, ExtF.ofExt (ext_alloc _ _), _, rfl, he1.size, heap_alloc_top _ _⟩
              intro u64 w64 _ _ _
              simp only [Act.put, List.setIfInBounds_toArray, List.set_cons_succ, List.set_cons_zero]
              refine KR.lexK_some (fun u w' => OwnF W.heap.size 38 FF 2 w' u (j + 1)) (fun u => OwnF.up) rfl (fun w2' he2 hf2 => ?_) ?_
              · have hb := (hf2 60 (by decide)).1.2 rfl
                have hl := (hf2 64 (by decide)).2 rfl
                obtain ⟨ad, had, hnew⟩ := hl.news
                obtain ⟨u2, w3', q1, q2, q3, q4⟩ := append_F (P := Try.prog) (lo := 2) 28 28 _ Try.underlying28 infoP rfl (by decide) _ _ j 1 (some ad) 1 (cellsP [(i, k)]) hb.1 had (fun h => by cases h) rfl (fun ad' hd q u hq => by
                    simp only [Option.some.injEq] at hd
                    subst hd
                    exact hnew q u hq) (cellsP_one _) F2.out
                  (by
                    by_cases h0 : j = 0
                    · refine .inr (.inr fun a' c' hv => ?_)
                      obtain ⟨a'', h1⟩ := hb.2 h0
                      rw [h1] at hv
                      simp only [Value.slice.injEq] at hv
                      omega
                    · exact .inr (.inl (by omega))) (by unfold maxLen; omega) (by rw [FL.out]; omega) he2.size
                exact ⟨u2, w3', run_append_op rfl rfl rfl q1, q2, q3⟩
              intro u65 w65 _ _ _
              simp only [Act.put, List.setIfInBounds_toArray, List.set_cons_succ, List.set_cons_zero]
              refine KR.lexK_take 3 (by kernel_rfl) ?_
              simp only [List.take_succ_cons, List.take_zero, List.drop_succ_cons, List.drop_zero]
              repeat (go_big_quiet_step (fail))
              refine wpQuiet_nil ?_
              refine KR.lexK_some (fun u w' => OwnF W.heap.size 38 FF 2 w' u (j + 1 + (L - j))) (fun u => OwnF.up) rfl (fun w2' he2 hf2 => ?_) ?_
              · have hb := (hf2 65 (by decide)).2 rfl
                have e2 : Ext W w2' := he2.ext
                obtain ⟨u2, w3', q1, q2, q3, q4⟩ := append_F (P := Try.prog) (lo := 2) 28 28 _ Try.underlying28 infoP rfl (by decide) _ _ (j + 1) (L - j) _ _ (cellsP D) hb rfl N2.out.2.1 (by rw [cellsP_len, DL.out]) (fun ad hd q u hq => e2.cellOf (N2.out.2.2 ad hd q u hq)) (cellsP_one D) (fun q _ => F3.out q)
                  (by
                    by_cases h0 : L - j = 0
                    · exact .inl h0
                    · exact .inr (.inl (by omega))) (by unfold maxLen; omega) (by rw [FL.out]; omega) he2.size
                exact ⟨u2, w3', run_append_op rfl rfl rfl q1, q2, q3⟩
              intro u69 w69 _ _ _
              simp only [Act.put, List.setIfInBounds_toArray, List.set_cons_succ, List.set_cons_zero]
              refine KR.lexK_take 1 (by kernel_rfl) ?_
              simp only [List.take_succ_cons, List.take_zero, List.drop_succ_cons, List.drop_zero]
              repeat (go_big_quiet_step (fail))
              refine wpQuiet_nil ?_
              refine KR.lexK_nil ?_
              intro w5 he5 hf5
              have OF := (hf5 69).2 rfl
              have EF : Ext W w5 := he5.ext
              have OP : Hid (OwnP w.heap.size w5 u69 Z) := by
                have h1 := OF.owns (by rw [FL.out]; omega)
                rw [List.take_of_length_le (by rw [FL.out]; omega)] at h1
                have h2 : OwnP W.heap.size w5 u69 Z := by
                  unfold OwnP
                  rw [ZL.out, HFF.out]
                  exact h1
                exact h2.low (E1.out.trans HEX.out).size
              have XE : Hid (Ext w w5) := (E1.out.trans HEX.out).trans EF
              clear hne r1 r2 he5 hf5 OF EF
              go_wp2
              go_roundw
              case rel => exact ⟨k + 1, Z, by omega, by go_num, PM2, PW2, OP, XE⟩
              case measure => simp [intOf]; omega
            · obtain ⟨J, HJ⟩ : ∃ J, Hid (j = J + 1) := ⟨j - 1, by show _ = _; omega⟩
              have hJL : J < L := by have := HJ.out; omega
              have hJL' : (J : Int) < L := by omega
              have hJj : (j : Int) - 1 = (J : Int) := by have := HJ.out; omega
              have wJ : IntKind.i64.wrap (J : Int) = (J : Int) := by rw [IntKind.wrap_i64]; omega
              have d0 : decide ((0 : Int) < (j : Int)) = true := by simp; omega
              have d1 : (0 : Int) < (j : Int) := by omega
              have d2 : 0 < j := by omega
              obtain ⟨og, ooff, hoa, ocell⟩ := CO.out (by omega)
              obtain ⟨oc1, oc2⟩ := ocell J hJL
              have OI := hide' (INS.out (out.getD J (0, 0)) (getP_mem (by rw [HL.out]; exact hJL)))
              have HSJ : Hid (j - 1 = J) := by show _ = _; have := HJ.out; omega
              obtain ⟨o, HO'⟩ : ∃ o, Hid (out.getD J (0, 0) = o) := ⟨_, rfl⟩
              rw [HO'.out] at oc1 oc2 OI
              obtain ⟨o1, o2⟩ := o
              simp only [] at oc1 oc2
              have OI1 : Hid (o1 < zss.length) := OI.out.1
              have OI2 : Hid (o2 < (wordAt zss o1).length) := OI.out.2
              have wl2 := WL.out o1 OI1.out
              have hol := OI1.out
              rw [HN.out] at hol
              have hol' : (o1 : Int) < n := by omega
              obtain ⟨sg2, soff2, a3, c3, hsa, hwc, hm3, hm4, hws⟩ := (HS.out.ext (E1.out.trans EW.out)).word (k := o1) OI1.out
              simp only [Option.some.injEq, Addr.mk.injEq, and_true] at hsa
              obtain ⟨hsa1, hsa2⟩ := hsa
              subst hsa1 hsa2
              unfold maxLen at hm3
              have HWS := hide' hws
              have CMP := hide' (omI_turns (zss := zss) (t := (i, k)) (u := (o1, o2)) (by show k < (wordAt zss i).length; rw [HM.out]; exact hlt2) OI2.out)
              have TL2 : Hid ((turnI (wordAt zss o1) o2).length = (wordAt zss o1).length) := turnI_len (Nat.le_of_lt OI2.out)
              have T2 := hide' (T1.out.ext EW.out)
              have RT : Hid (∀ W, Ext wr W → Calls Try.prog 22 #[.slice a3 (wordAt zss o1).length c3, .int .i64 (o2 : Int)] W fun e w' => ∃ s, e = .returned s ∧ Own .u8 5 W.heap.size w' s (turnI (wordAt zss o1) o2) ∧ Ext W w') := fun W hW => rturn_any _ (wordAt zss o1) o2 W (HWS.out.ext hW) (Nat.le_of_lt OI2.out) (by omega)
              have hlo2 := OI2.out
              have LX : Hid ((turnI (wordAt zss i) k).length ≤ 100000) := by show _ ≤ _; rw [TL.out]; omega
              have LY : Hid ((turnI (wordAt zss o1) o2).length ≤ 100000) := by show _ ≤ _; rw [TL2.out]; omega
              clear TL2 hws
              simp only [] at CMP
              obtain ⟨X, HX⟩ : ∃ X, Hid (turnI (wordAt zss i) k = X) := ⟨_, rfl⟩
              obtain ⟨Y, HY⟩ : ∃ Y, Hid (turnI (wordAt zss o1) o2 = Y) := ⟨_, rfl⟩
              rw [HX.out] at CMP T2 LX
              rw [HY.out] at CMP RT LY
              obtain ⟨r, HR⟩ : ∃ r, Hid (omI X Y = r) := ⟨_, rfl⟩
              rw [HR.out] at CMP
              generalize (wordAt zss o1).length = mo at *
              subst hoa
              have oc1' := EW.out.cellOf oc1
              have oc2' := EW.out.cellOf oc2
              have l1 := later_cell oc1'
              have l2 := later_cell oc2'
              have l3 := later_cell hwc
              have hne := later_some wr
              clear hj0 oc1 oc2 oc1' oc2' hwc ocell
              go_wp2_with fail
              refine wp_region_k (fun f args v w' => testS Y r wr.heap.size f v w') (by kernel_rfl) (by kernel_rfl) (by kernel_rfl) ?_
              refine lexK_take 19 (by kernel_rfl) ?_
              simp only [List.take_succ_cons, List.take_zero, List.drop_succ_cons, List.drop_zero]
              repeat (go_big_quiet_step (fail))
              refine wpQuiet_nil ?_
              refine lexK_call 22 #[.slice a3 mo c3, .int .i64 (o2 : Int)] (fun v w1' w2' h12 h => Own.ext h h12) rfl (fun w' => ?_) (fun w' he' _ => (RT.out w' he').mono fun e w'' ⟨s, h1, h2, h3⟩ => ⟨s, h1, h3, testS_1.2 (h2.low he'.size)⟩) ?_
              · go_simp
              intro s50 w50 _ _ _
              simp only [Act.put, List.setIfInBounds_toArray, List.set_cons_succ, List.set_cons_zero]
              refine lexK_call1 9 #[.slice ta m tc, s50] (.int .i64 r) (fun _ _ => testS_2) rfl (fun w' => ?_) (fun w' he' hf => ?_) ?_
              · go_simp
              · have o50 := (testS_1.1 ((hf 50 (by decide)).2 rfl)).sl
                have := rcompare_any _ _ X Y w' (T2.out.ext he') o50 LX.out LY.out
                rw [HR.out] at this
                exact this
              simp only [Act.put, List.setIfInBounds_toArray, List.set_cons_succ, List.set_cons_zero]
              refine lexK_take 2 (by kernel_rfl) ?_
              simp only [List.take_succ_cons, List.take_zero, List.drop_succ_cons, List.drop_zero]
              repeat (go_big_quiet_step (fail))
              refine wpQuiet_nil ?_
              refine lexK_nil ?_
              intro W heW _
              have HEX := hide' (EW.out.trans heW)
              clear l1 l2 l3 hne heW
              by_cases hr : r < 0
              · have IN2 : Hid (Ins zss out (i, k) J) := fun q h1 h2 => by
                  by_cases hq : q = J
                  · subst hq; rw [HO'.out]; exact CMP.out.1 hr
                  · exact IN.out q (by have := HJ.out; omega) h2
                go_wp2
                go_roundw
                case rel => exact ⟨J, by omega, by first | rfl | go_num, IN2, HEX⟩
                case measure => simp [intOf]; omega
              · have STOP : Hid (j = 0 ∨ ¬ LtF (sqP zss (i, k)) (sqP zss (out.getD (j - 1) (0, 0)))) := .inr (fun h => hr (CMP.out.2 (by rw [HSJ.out, HO'.out] at h; exact h)))
                have dr : decide (r < 0) = false := by simpa using hr
                have dr2 : 0 ≤ r := by omega
                have SW := hide' (S1.out.ext HEX.out)
                obtain ⟨r1, s1⟩ := SW.out.runTake j (by rw [HL.out]; omega)
                obtain ⟨da, r2, s2⟩ := SW.out.runDrop j (by rw [HL.out]; omega)
                have N1 := hide' s1.news
                have N2 := hide' s2.news
                clear s1 s2
                have AL : Hid ((out.take j).length = j) := by show _ = _; rw [List.length_take, HL.out]; omega
                have DL : Hid ((out.drop j).length = L - j) := by show _ = _; rw [List.length_drop, HL.out]
                have PW2 := hide' (IN.out.place (by rw [HL.out]; exact hj) PW.out BEF.out STOP.out)
                have PM2 : Hid ((out.take j ++ [(i, k)] ++ out.drop j).Perm (listK zss i ++ rowP i (k + 1))) := by
                  have := ins_perm (t := (i, k)) (j := j) PM.out
                  show List.Perm _ _
                  rw [rowP_succ, ← List.append_assoc]
                  exact this
                obtain ⟨A, HAA⟩ : ∃ A, Hid (out.take j = A) := ⟨_, rfl⟩
                obtain ⟨D, HDD⟩ : ∃ D, Hid (out.drop j = D) := ⟨_, rfl⟩
                rw [HAA.out] at N1 AL PW2 PM2
                rw [HDD.out] at N2 DL PW2 PM2
                obtain ⟨Z, HZ⟩ : ∃ Z, Hid (A ++ [(i, k)] ++ D = Z) := ⟨_, rfl⟩
                obtain ⟨FF, HFF⟩ : ∃ FF, Hid (cellsP Z = FF) := ⟨_, rfl⟩
                have F1 : Hid (∀ q, q < j * 2 → (cellsP A)[q]? = FF[0 * 2 + q]?) := fun q hq => by rw [← HFF.out, ← HZ.out]; exact finP_1 A D (i, k) j q AL.out hq
                have F2 : Hid (∀ q, q < 1 * 2 → (cellsP [(i, k)])[q]? = FF[j * 2 + q]?) := fun q hq => by rw [← HFF.out, ← HZ.out]; exact finP_2 A D (i, k) j q AL.out hq
                have F3 : Hid (∀ q, (cellsP D)[q]? = FF[(j + 1) * 2 + q]?) := fun q => by rw [← HFF.out, ← HZ.out]; exact finP_3 A D (i, k) j q AL.out
                have ZL : Hid (Z.length = j + 1 + (L - j)) := by show _ = _; rw [← HZ.out, List.length_append, List.length_append, AL.out, DL.out]; rfl
                have FL : Hid (FF.length = (j + 1 + (L - j)) * 2) := by show _ = _; rw [← HFF.out, cellsP_len, ZL.out]
                rw [HZ.out] at PW2 PM2
                go_wp2_with fail
                have hne := KR.later_some (frel W.heap.size 38 FF 2) W
                refine KR.wp_region_k (E := frel W.heap.size 38 FF 2) (fun _ _ _ _ => True) (by kernel_rfl) (by kernel_rfl) (by kernel_rfl) ?_
                refine KR.lexK_some (fun u w' => LitF W.heap.size 38 w' u 0 #[]) (fun u => LitF.up (by simp)) rfl (fun w1' he1 _ => ?_) ?_
                · exact ⟨.slice (some ⟨w1'.heap.size, 0, none⟩) 0 0, w1'.alloc (.cells #[] 38), by kernel_rfl, ExtF.ofExt (ext_alloc _ _), _, rfl, he1.size, heap_alloc_top _ _⟩
                intro u56 w56 _ _ _
                simp only [Act.put, List.setIfInBounds_toArray, List.set_cons_succ, List.set_cons_zero]
                refine KR.lexK_take 3 (by kernel_rfl) ?_
                simp only [List.take_succ_cons, List.take_zero, List.drop_succ_cons, List.drop_zero]
                repeat (go_big_quiet_step (fail))
                refine wpQuiet_nil ?_
                refine KR.lexK_some (fun u w' => OwnF W.heap.size 38 FF 2 w' u j ∧ (j = 0 → ∃ a', u = .slice a' 0 0)) (fun u w1' w2' h12 h => ⟨OwnF.up _ _ h12 h.1, h.2⟩) rfl (fun w2' he2 hf2 => ?_) ?_
                · have hb := (hf2 56 (by decide)).2 rfl
                  have e2 : Ext W w2' := he2.ext
                  obtain ⟨g56, hg56, _⟩ := id hb
                  obtain ⟨u2, w3', q1, q2, q3, q4⟩ := append_F (P := Try.prog) (lo := 2) 28 28 _ Try.underlying28 infoP rfl (by decide) _ _ 0 j _ _ (cellsP A) hb.own rfl N1.out.2.1 (by rw [cellsP_len, AL.out]) (fun ad hd q u hq => e2.cellOf (N1.out.2.2 ad hd q u hq)) (cellsP_one A) F1.out
                    (by
                      by_cases h0 : j = 0
                      · exact .inl h0
                      · refine .inr (.inr fun a' c' hv => ?_)
                        rw [hg56] at hv
                        simp only [Value.slice.injEq] at hv
                        omega) (by unfold maxLen; omega) (by omega) he2.size
                  rw [Nat.zero_add] at q3
                  refine ⟨u2, w3', run_append_op rfl rfl rfl q1, q2, q3, fun h0 => ?_⟩
                  have := q4 _ _ hg56 (by omega)
                  rw [h0] at this
                  exact this
                intro u60 w60 _ _ _
                simp only [Act.put, List.setIfInBounds_toArray, List.set_cons_succ, List.set_cons_zero]
                refine KR.lexK_take 2 (by kernel_rfl) ?_
                simp only [List.take_succ_cons, List.take_zero, List.drop_succ_cons, List.drop_zero]
                repeat (go_big_quiet_step (fail))
                refine wpQuiet_nil ?_
                refine KR.lexK_val (.agg #[.int .i64 (i : Int), .int .i64 (k : Int)]) rfl (fun w' _ _ => by kernel_rfl) ?_
                simp only [Act.put, List.setIfInBounds_toArray, List.set_cons_succ, List.set_cons_zero]
                refine KR.lexK_some (fun u w' => LitF W.heap.size 38 w' u 1 #[.int .i64 (i : Int), .int .i64 (k : Int)]) (fun u => LitF.up (by simp)) rfl (fun w1' he1 _ => ?_) ?_
                · exact ⟨.slice (some ⟨w1'.heap.size, 0, none⟩) 1 1, w1'.alloc (.cells #[.int .i64 (i : Int), .int .i64 (k : Int)] 38), by kernel_rfl, ExtF.ofExt (ext_alloc _ _), _, rfl, he1.size, heap_alloc_top _ _⟩
                intro u64 w64 _ _ _
                simp only [Act.put, List.setIfInBounds_toArray, List.set_cons_succ, List.set_cons_zero]
                refine KR.lexK_some (fun u w' => OwnF W.heap.size 38 FF 2 w' u (j + 1)) (fun u => OwnF.up) rfl (fun w2' he2 hf2 => ?_) ?_
                · have hb := (hf2 60 (by decide)).1.2 rfl
                  have hl := (hf2 64 (by decide)).2 rfl
                  obtain ⟨ad, had, hnew⟩ := hl.news
                  obtain ⟨u2, w3', q1, q2, q3, q4⟩ := append_F (P := Try.prog) (lo := 2) 28 28 _ Try.underlying28 infoP rfl (by decide) _ _ j 1 (some ad) 1 (cellsP [(i, k)]) hb.1 had (fun h => by cases h) rfl (fun ad' hd q u hq => by
                      simp only [Option.some.injEq] at hd
                      subst hd
                      exact hnew q u hq) (cellsP_one _) F2.out
                    (by
                      by_cases h0 : j = 0
                      · refine .inr (.inr fun a' c' hv => ?_)
                        obtain ⟨a'', h1⟩ := hb.2 h0
                        rw [h1] at hv
                        simp only [Value.slice.injEq] at hv
                        omega
                      · exact .inr (.inl (by omega))) (by unfold maxLen; omega) (by rw [FL.out]; omega) he2.size
                  exact ⟨u2, w3', run_append_op rfl rfl rfl q1, q2, q3⟩
                intro u65 w65 _ _ _
                simp only [Act.put, List.setIfInBounds_toArray, List.set_cons_succ, List.set_cons_zero]
                refine KR.lexK_take 3 (by kernel_rfl) ?_
                simp only [List.take_succ_cons, List.take_zero, List.drop_succ_cons, List.drop_zero]
                repeat (go_big_quiet_step (fail))
                refine wpQuiet_nil ?_
                refine KR.lexK_some (fun u w' => OwnF W.heap.size 38 FF 2 w' u (j + 1 + (L - j))) (fun u => OwnF.up) rfl (fun w2' he2 hf2 => ?_) ?_
                · have hb := (hf2 65 (by decide)).2 rfl
                  have e2 : Ext W w2' := he2.ext
                  obtain ⟨u2, w3', q1, q2, q3, q4⟩ := append_F (P := Try.prog) (lo := 2) 28 28 _ Try.underlying28 infoP rfl (by decide) _ _ (j + 1) (L - j) _ _ (cellsP D) hb rfl N2.out.2.1 (by rw [cellsP_len, DL.out]) (fun ad hd q u hq => e2.cellOf (N2.out.2.2 ad hd q u hq)) (cellsP_one D) (fun q _ => F3.out q)
                    (by
                      by_cases h0 : L - j = 0
                      · exact .inl h0
                      · exact .inr (.inl (by omega))) (by unfold maxLen; omega) (by rw [FL.out]; omega) he2.size
                  exact ⟨u2, w3', run_append_op rfl rfl rfl q1, q2, q3⟩
                intro u69 w69 _ _ _
                simp only [Act.put, List.setIfInBounds_toArray, List.set_cons_succ, List.set_cons_zero]
                refine KR.lexK_take 1 (by kernel_rfl) ?_
                simp only [List.take_succ_cons, List.take_zero, List.drop_succ_cons, List.drop_zero]
                repeat (go_big_quiet_step (fail))
                refine wpQuiet_nil ?_
                refine KR.lexK_nil ?_
                intro w5 he5 hf5
                have OF := (hf5 69).2 rfl
                have EF : Ext W w5 := he5.ext
                have OP : Hid (OwnP w.heap.size w5 u69 Z) := by
                  have h1 := OF.owns (by rw [FL.out]; omega)
                  rw [List.take_of_length_le (by rw [FL.out]; omega)] at h1
                  have h2 : OwnP W.heap.size w5 u69 Z := by
                    unfold OwnP
                    rw [ZL.out, HFF.out]
                    exact h1
                  exact h2.low (E1.out.trans HEX.out).size
                have XE : Hid (Ext w w5) := (E1.out.trans HEX.out).trans EF
                clear hne r1 r2 he5 hf5 OF EF
                go_wp2
                go_roundw
                case rel => exact ⟨k + 1, Z, by omega, by go_num, PM2, PW2, OP, XE⟩
                case measure => simp [intOf]; omega
        · have hlt2' : decide ((k : Int) < m) = false := by simp; omega
          have hkm : k = m := by omega
          subst hkm
          have PM2 : Hid (out.Perm (listK zss (i + 1))) := by show List.Perm _ _; rw [listK_succ, HM.out]; exact PM.out
          go_wp2
          go_roundw
          case rel => exact ⟨i + 1, out, by omega, by go_num, PM2, PW, HO, HE⟩
          case measure => simp [intOf]; omega
    · have hlt' : decide ((i : Int) < n) = false := by simp; omega
      have hin : i = n := by omega
      subst hin
      have HQ : Hid (listP zss = listK zss i) := by show _ = _; unfold listP; rw [HN.out]
      go_wp2
      go_ret
      exact ⟨_, out, rfl, by rw [HQ.out]; exact PM.out, PW.out, HO.out, HE.out⟩
end Go.Proofs.Ytifemkgkgghapaa
