/- Contract of the document's own Canon of words: whorlref9.Canon. -/
import Derived.Test.YtjccpkekhjhafaaNecRef
import Derived.Test.YtjccpkekhjhafaaNecIn
import Derived.Test.YtjccpkekhjhafaaKripFin
namespace Go.Proofs.Ytjccpkekhjhafaa
set_option linter.unusedVariables false
set_option linter.unusedSimpArgs false
open Go.RowKit

theorem sizeV : ∀ w, (Go.sizeOf 31).run Try.prog w = .ok 1 w := by intro w; kernel_rfl
/-- 's[:n]' -/
theorem SlV.runTake {w : World} {a : Option Addr} {len c : Nat} {l : List Value} (h : SlV w (.slice a len c) l) (n : Nat) (hn : n ≤ l.length) :
    (∀ W, (Instr.slice 22 (.slice a len c) none (some (.int .i64 (n : Int))) none).run Try.prog W = .ok (.slice a n c) W) ∧ SlV w (.slice a n c) (l.take n) := by
  obtain ⟨a', c', h1, h2, h3, h4, h5⟩ := h
  simp only [Value.slice.injEq] at h1
  obtain ⟨rfl, rfl, rfl⟩ := h1
  have ht : Try.prog.underlying 22 = some (.slice 31) := Try.underlying22
  have ht' : Try.prog.underlying 22 = some (.slice (Try.prog.elem 22)) := by simp [Program.elem, ht]
  have he : Try.prog.elem 22 = 31 := by simp [Program.elem, ht]
  unfold maxLen at h3
  refine ⟨fun W => ?_, ?_⟩
  · rw [run_slice_h W 22 _ _ _ ht' .i64 _ (by omega) (by omega), he, sizeV]
    have hs : sliced a 0 n c 1 = .slice a n c := by
      unfold sliced
      by_cases h0 : c = 0
      · simp [h0]
      · cases a <;> simp [h0, Addr.add]
    simp only [Result.andThen, Int.toNat_natCast, hs]
  · have hl : (l.take n).length = n := by rw [List.length_take]; omega
    refine ⟨a, c, by rw [hl], by omega, h3, h4, ?_⟩
    rcases h5 with rfl | ⟨b, off, rfl, h6⟩
    · exact .inl (by simp)
    · refine .inr ⟨b, off, rfl, fun j v hj => ?_⟩
      rw [List.getElem?_take] at hj
      split at hj
      · exact h6 j v hj
      · cases hj
/-- 's[n:]' -/
theorem SlV.runDrop {w : World} {a : Option Addr} {len c : Nat} {l : List Value} (h : SlV w (.slice a len c) l) (n : Nat) (hn : n ≤ l.length) :
    ∃ a', (∀ W, (Instr.slice 22 (.slice a len c) (some (.int .i64 (n : Int))) none none).run Try.prog W = .ok (.slice a' (len - n) (c - n)) W) ∧ SlV w (.slice a' (len - n) (c - n)) (l.drop n) := by
  obtain ⟨a', c', h1, h2, h3, h4, h5⟩ := h
  simp only [Value.slice.injEq] at h1
  obtain ⟨rfl, rfl, rfl⟩ := h1
  have ht : Try.prog.underlying 22 = some (.slice 31) := Try.underlying22
  have ht' : Try.prog.underlying 22 = some (.slice (Try.prog.elem 22)) := by simp [Program.elem, ht]
  have he : Try.prog.elem 22 = 31 := by simp [Program.elem, ht]
  unfold maxLen at h3
  refine ⟨if c = n then a else a.map (·.add (n * 1)), fun W => ?_, ?_⟩
  · rw [run_slice_l W 22 _ _ _ ht' .i64 _ (by omega) (by omega), he, sizeV]
    simp only [Result.andThen, Int.toNat_natCast, sliced]
  · have hl : (l.drop n).length = l.length - n := List.length_drop
    refine ⟨_, c - n, by rw [hl], by omega, (by unfold maxLen; omega), fun h => ?_, ?_⟩
    · by_cases hcn : c = n
      · omega
      · rw [if_neg hcn] at h
        cases a with
        | none => have := h4 rfl; omega
        | some a => cases h
    · by_cases hcn : n = l.length
      · exact .inl (by rw [hcn]; simp)
      · rcases h5 with rfl | ⟨b, off, rfl, h6⟩
        · exact .inl (by simp)
        · refine .inr ⟨b, off + n, ?_, fun j v hj => ?_⟩
          · rw [if_neg (by omega)]; simp [Addr.add]
          · rw [List.getElem?_drop] at hj
            rw [Nat.add_assoc]
            exact h6 _ v hj
/-- What an append reads of it. -/
theorem SlV.news {w : World} {a : Option Addr} {n c : Nat} {l : List Value} (h : SlV w (.slice a n c) l) : l.length = n ∧ (a = none → c = 0 ∧ n = 0) ∧ ∀ ad, a = some ad → ∀ j u, l[j]? = some u → w.cell? (ad.add j) = some u := by
  obtain ⟨a', c', h1, h2, h3, h4, h5⟩ := h
  simp only [Value.slice.injEq] at h1
  obtain ⟨rfl, rfl, rfl⟩ := h1
  refine ⟨rfl, fun e => ⟨h4 e, by have := h4 e; omega⟩, fun ad hd j u hj => ?_⟩
  rcases h5 with rfl | ⟨b, off, h5, h6⟩
  · simp at hj
  · rw [hd] at h5
    simp only [Option.some.injEq] at h5
    subst h5
    rw [Addr.add_mid]
    exact h6 j u hj
theorem SlV.at {w : World} {a : Option Addr} {n c : Nat} {l : List Value} (h : SlV w (.slice a n c) l) : l.length = n ∧ n ≤ c ∧ c ≤ maxLen ∧ (0 < n → ∃ g off, a = some ⟨g, off, none⟩ ∧ ∀ i u, l[i]? = some u → w.cell? ⟨g, off + i, none⟩ = some u) := by
  obtain ⟨a', c', h1, h2, h3, h4, h5⟩ := h
  simp only [Value.slice.injEq] at h1
  obtain ⟨rfl, rfl, rfl⟩ := h1
  refine ⟨rfl, h2, h3, fun h0 => ?_⟩
  rcases h5 with rfl | h5
  · simp at h0
  · exact h5
theorem finV_1 (A D : List Value) (t : Value) (n q : Nat) (hn : A.length = n) (h : q < n * 1) : A[q]? = (A ++ [t] ++ D)[0 * 1 + q]? := by
  rw [Nat.zero_mul, Nat.zero_add, List.append_assoc, List.getElem?_append_left (by omega)]
theorem finV_2 (A D : List Value) (t : Value) (n q : Nat) (hn : A.length = n) (h : q < 1 * 1) : [t][q]? = (A ++ [t] ++ D)[n * 1 + q]? := by
  rw [List.append_assoc, List.getElem?_append_right (by omega), hn, List.getElem?_append_left (by simp; omega)]
  congr 1
  omega
theorem finV_3 (A D : List Value) (t : Value) (n q : Nat) (hn : A.length = n) : D[q]? = (A ++ [t] ++ D)[(n + 1) * 1 + q]? := by
  have e : (A ++ [t]).length = n + 1 := by rw [List.length_append, hn]; rfl
  rw [List.getElem?_append_right (by omega), e]
  congr 1
  omega

set_option maxHeartbeats 4000000 in
theorem rcanon_any (v : Value) (zss : List (List Int)) (w : World) (hs : Sls w v zss) (hw : Words8 zss) :
    Calls Try.prog 12 #[v] w fun e w' => ∃ s vs, e = .returned s ∧ OwnV w.heap.size w' s vs ∧ Rows8 w.heap.size w' vs (canonL zss) ∧ Ext w w' := by
  have HS := hide' hs
  have HW := hide' hw
  obtain ⟨a, c, rfl, hm, _⟩ := hs
  have hlen := hw.1
  clear hw hm
  obtain ⟨n, HN⟩ : ∃ n, Hid (zss.length = n) := ⟨_, rfl⟩
  rw [HN.out] at HS hlen ⊢
  go_enter Try.func12, Try.ntmps12
  go_wp2
  go_loopw [3, 4] (fun sv vi wr => ∃ (i : Nat) (vs : List Value) (l : List (List Int)), i ≤ n ∧ vi = .int .i64 i ∧ Hid (l.Perm (baseL (zss.take i))) ∧ Hid (l.Pairwise fun x y => rcI x y ≤ 0) ∧ Hid (OwnV w.heap.size wr sv vs) ∧ Hid (Rows8 w.heap.size wr vs l) ∧ Hid (Ext w wr)) (fun _ vi _ => n - (intOf vi).toNat)
  case atStart => exact ⟨0, [], [], Nat.zero_le _, rfl, List.Perm.refl _, List.Pairwise.nil, OwnV.nil _ _, Rows8.nil _ _, Ext.refl _⟩
  case round =>
    obtain ⟨i, vs, l, hi, rfl, PM, PW, HO, HR, HE⟩ := hrel
    by_cases hlt : i < n
    · have hlt' : (i : Int) < n := by omega
      have HI : Hid (i < zss.length) := by show _ < _; rw [HN.out]; exact hlt
      obtain ⟨g, off, a2, c2, rfl, hc, h10, h9, h8⟩ := (HS.out.ext HE.out).row HI.out
      obtain ⟨zs, HZ⟩ : ∃ zs, Hid (zss.getD i [] = zs) := ⟨_, rfl⟩
      have HB := hide' (HW.out.2 i)
      rw [HZ.out] at hc h9 h8 HB
      have H8 := hide' h8
      clear h8
      obtain ⟨m, HM⟩ : ∃ m, Hid (zs.length = m) := ⟨_, rfl⟩
      rw [HM.out] at hc h9 H8
      unfold maxLen at h10
      by_cases h0 : m = 0
      · have d0 : ((m : Int) == (0 : Int)) = true := by simp; omega
        have PM2 : Hid (l.Perm (baseL (zss.take (i + 1)))) := by show List.Perm _ _; rw [baseL_take_none HI.out HZ.out (by rw [HM.out]; exact h0)]; exact PM.out
        clear h0
        go_wp2
        go_roundw
        case rel => exact ⟨i + 1, vs, l, by omega, by go_num, PM2, PW, HO, HR, HE⟩
        case measure => simp [intOf]; omega
      · have d0 : ((m : Int) == (0 : Int)) = false := by simp; omega
        have h0' : 0 < zs.length := by rw [HM.out]; omega
        have HBS : Hid (baseL (zss.take (i + 1)) = baseL (zss.take i) ++ [ofI zs]) := baseL_take_some HI.out HZ.out h0'
        have OL : Hid (vs.length + 1 ≤ 200000) := by
          have h1 := baseL_len_take zss i
          rw [← PM.out.length_eq, ← HR.out.1] at h1
          show _ ≤ _
          omega
        clear h0
        go_wp2_with fail
        refine (rof_any _ zs wr H8.out HB.out.2).mono ?_
        rintro e w1 ⟨st, rfl, ho, he⟩
        have T1 := hide' (ho.low HE.out.size)
        have E1 := hide' (HE.out.trans he)
        have O1 := hide' (HO.out.ext he)
        have R1 := hide' (HR.out.ext he)
        have BX := hide' (ofI_bytes HB.out.1)
        have LX : Hid ((ofI zs).length ≤ 1000000) := by show _ ≤ _; rw [ofI_len]; exact HB.out.2
        obtain ⟨x, HX⟩ : ∃ x, Hid (ofI zs = x) := ⟨_, rfl⟩
        rw [HX.out] at T1 BX LX HBS
        obtain ⟨ta, tn, tc, hst⟩ := slice_of' ho.sl
        subst hst
        have RB : Hid (∀ J, Bytes8 (l.getD J []) ∧ (l.getD J []).length ≤ 1000000) := fun J => by
          refine getD_all' (P := fun x => Bytes8 x ∧ x.length ≤ 1000000) (fun x hx => ?_) ⟨(fun z hz => by cases hz), by simp⟩ J
          obtain ⟨_, y, hy, rfl⟩ := baseL_mem (PM.out.mem_iff.1 hx)
          obtain ⟨q, hq, e⟩ := List.mem_iff_getElem.1 (List.mem_of_mem_take hy)
          have h2 := HW.out.2 q
          rw [List.getD_eq_getElem?_getD, List.getElem?_eq_getElem hq, Option.getD_some, e] at h2
          exact ⟨ofI_bytes h2.1, by rw [ofI_len]; exact h2.2⟩
        clear ho he HO HR hc H8 HE HB
        obtain ⟨oa, oc, hov, hoc1, hoc2, _⟩ := O1.out.sl
        subst hov
        unfold maxLen at hoc2
        have S1 := hide' O1.out.sl
        obtain ⟨L, HL⟩ : ∃ L, Hid (vs.length = L) := ⟨_, rfl⟩
        have HLL : Hid (l.length = L) := by show _ = _; rw [← R1.out.1]; exact HL.out
        have ol := OL.out
        rw [HL.out] at ol S1 O1 hoc1 ⊢
        have CO := hide' S1.out.at.2.2.2
        go_wp2
        go_loopw [6] (fun vj wr => ∃ (j : Nat), j ≤ L ∧ vj = .int .i64 j ∧ Hid (InsR l x j) ∧ Hid (Ext w1 wr)) (fun vj _ => (intOf vj).toNat)
        case atStart => exact ⟨L, Nat.le_refl _, rfl, (fun q h1 h2 => by rw [HLL.out] at h2; omega), Ext.refl _⟩
        case round =>
          obtain ⟨j, hj, rfl, IN, EW⟩ := hrel
          by_cases hj0 : j = 0
          · have STOP : Hid (j = 0 ∨ ¬ rcI x (l.getD (j - 1) []) < 0) := .inl hj0
            have d0 : decide ((0 : Int) < (j : Int)) = false := by simp; omega
            have d1 : decide (0 < j) = false := by simp; omega
            clear hj0
            have HEX := EW
            clear EW
            generalize wr = W at *
            have SW := hide' (S1.out.ext HEX.out)
            obtain ⟨r1, s1⟩ := SW.out.runTake j (by rw [HL.out]; omega)
            obtain ⟨da, r2, s2⟩ := SW.out.runDrop j (by rw [HL.out]; omega)
            have N1 := hide' s1.news
            have N2 := hide' s2.news
            clear s1 s2
            have AL : Hid ((vs.take j).length = j) := by show _ = _; rw [List.length_take, HL.out]; omega
            have DL : Hid ((vs.drop j).length = L - j) := by show _ = _; rw [List.length_drop, HL.out]
            have PW2 := hide' (IN.out.place (by rw [HLL.out]; exact hj) PW.out (STOP.out.imp id (fun h => by omega)))
            have PM2 : Hid ((l.take j ++ [x] ++ l.drop j).Perm (baseL (zss.take (i + 1)))) := by
              show List.Perm _ _
              rw [HBS.out]
              refine List.Perm.trans ?_ (PM.out.append_right _)
              rw [List.append_assoc]
              refine List.Perm.trans (List.Perm.append_left _ List.perm_append_comm) ?_
              rw [← List.append_assoc, List.take_append_drop]
            have RZ : Hid (Rows8 w.heap.size W (vs.take j ++ [.slice ta tn tc] ++ vs.drop j) (l.take j ++ [x] ++ l.drop j)) := (((R1.out.ext HEX.out).take j).app (Rows8.single (T1.out.ext HEX.out))).app ((R1.out.ext HEX.out).drop j)
            have ON1 := hide' (((R1.out.ext HEX.out).take j).read.one)
            have ON2 := hide' (((R1.out.ext HEX.out).drop j).read.one)
            obtain ⟨A, HAA⟩ : ∃ A, Hid (vs.take j = A) := ⟨_, rfl⟩
            obtain ⟨D, HDD⟩ : ∃ D, Hid (vs.drop j = D) := ⟨_, rfl⟩
            rw [HAA.out] at N1 AL RZ ON1
            rw [HDD.out] at N2 DL RZ ON2
            obtain ⟨FF, HFF⟩ : ∃ FF, Hid (A ++ [Value.slice ta tn tc] ++ D = FF) := ⟨_, rfl⟩
            have F1 : Hid (∀ q, q < j * 1 → A[q]? = FF[0 * 1 + q]?) := fun q hq => by rw [← HFF.out]; exact finV_1 A D _ j q AL.out hq
            have F2 : Hid (∀ q, q < 1 * 1 → [Value.slice ta tn tc][q]? = FF[j * 1 + q]?) := fun q hq => by rw [← HFF.out]; exact finV_2 A D _ j q AL.out hq
            have F3 : Hid (∀ q, D[q]? = FF[(j + 1) * 1 + q]?) := fun q => by rw [← HFF.out]; exact finV_3 A D _ j q AL.out
            have FL : Hid (FF.length = (j + 1 + (L - j)) * 1) := by show _ = _; rw [← HFF.out, List.length_append, List.length_append, AL.out, DL.out]; simp
            rw [HFF.out] at RZ
            go_wp2_with fail
            have hne := KR.later_some (frel W.heap.size 31 FF 1) W
            refine KR.wp_region_k (E := frel W.heap.size 31 FF 1) (fun _ _ _ _ => True) (by kernel_rfl) (by kernel_rfl) (by kernel_rfl) ?_
            refine KR.lexK_some (fun u w' => LitF W.heap.size 31 w' u 0 #[]) (fun u => LitF.up (by simp)) rfl (fun w1' he1 _ => ?_) ?_
            · exact ⟨.slice (some ⟨w1'.heap.size, 0, none⟩) 0 0, w1'.alloc (.cells #[] 31), by kernel_rfl, ExtF.ofExt (ext_alloc _ _), _, rfl, he1.size, heap_alloc_top _ _⟩
            intro u56 w56 _ _ _
            simp only [Act.put, List.setIfInBounds_toArray, List.set_cons_succ, List.set_cons_zero]
            refine KR.lexK_take 3 (by kernel_rfl) ?_
            simp only [List.take_succ_cons, List.take_zero, List.drop_succ_cons, List.drop_zero]
            repeat (go_big_quiet_step (fail))
            refine wpQuiet_nil ?_
            refine KR.lexK_some (fun u w' => OwnF W.heap.size 31 FF 1 w' u j ∧ (j = 0 → ∃ a', u = .slice a' 0 0)) (fun u w1' w2' h12 h => ⟨OwnF.up _ _ h12 h.1, h.2⟩) rfl (fun w2' he2 hf2 => ?_) ?_
            · have hb := (hf2 39 (by decide)).2 rfl
              have e2 : Ext W w2' := he2.ext
              obtain ⟨g56, hg56, _⟩ := id hb
              obtain ⟨u2, w3', q1, q2, q3, q4⟩ := append_F (P := Try.prog) (lo := 1) 22 22 _ Try.underlying22 infoV rfl (by decide) _ _ 0 j _ _ A hb.own rfl N1.out.2.1 (by rw [AL.out, Nat.mul_one]) (fun ad hd q u hq => e2.cellOf (N1.out.2.2 ad hd q u hq)) ON1.out F1.out
                (by
                  by_cases h0 : j = 0
                  · exact .inl h0
                  · refine .inr (.inr fun a' c' hv => ?_)
                    rw [hg56] at hv
                    simp only [Value.slice.injEq] at hv
                    omega) (by unfold maxLen; omega) (by omega) he2.size
              rw [Nat.zero_add] at q3
              refine ⟨u2, w3', run_append_op rfl rfl rfl q1, q2, q3, fun h0 => ?_⟩
              have := q4 _ _ hg56 (by omega)
              rw [h0] at this
              exact this
            intro u60 w60 _ _ _
            simp only [Act.put, List.setIfInBounds_toArray, List.set_cons_succ, List.set_cons_zero]
            refine KR.lexK_take 1 (by kernel_rfl) ?_
            simp only [List.take_succ_cons, List.take_zero, List.drop_succ_cons, List.drop_zero]
            repeat (go_big_quiet_step (fail))
            refine wpQuiet_nil ?_
            refine KR.lexK_some (fun u w' => LitF W.heap.size 31 w' u 1 #[.slice ta tn tc]) (fun u => LitF.up (by simp)) rfl (fun w1' he1 _ => ?_) ?_
            · exact ⟨.slice (some ⟨w1'.heap.size, 0, none⟩) 1 1, w1'.alloc (.cells #[.slice ta tn tc] 31), by kernel_rfl, ExtF.ofExt (ext_alloc _ _), _, rfl, he1.size, heap_alloc_top _ _⟩
            intro u64 w64 _ _ _
            simp only [Act.put, List.setIfInBounds_toArray, List.set_cons_succ, List.set_cons_zero]
            refine KR.lexK_some (fun u w' => OwnF W.heap.size 31 FF 1 w' u (j + 1)) (fun u => OwnF.up) rfl (fun w2' he2 hf2 => ?_) ?_
            · have hb := (hf2 43 (by decide)).1.2 rfl
              have hl := (hf2 45 (by decide)).2 rfl
              obtain ⟨ad, had, hnew⟩ := hl.news
              obtain ⟨u2, w3', q1, q2, q3, q4⟩ := append_F (P := Try.prog) (lo := 1) 22 22 _ Try.underlying22 infoV rfl (by decide) _ _ j 1 (some ad) 1 [.slice ta tn tc] hb.1 had (fun h => by cases h) rfl (fun ad' hd q u hq => by
                  simp only [Option.some.injEq] at hd
                  subst hd
                  exact hnew q u hq) (fun u hu => by simp at hu; subst hu; rfl) F2.out
                (by
                  by_cases h0 : j = 0
                  · refine .inr (.inr fun a' c' hv => ?_)
                    obtain ⟨a'', h1⟩ := hb.2 h0
                    rw [h1] at hv
                    simp only [Value.slice.injEq] at hv
                    omega
                  · exact .inr (.inl (by omega))) (by unfold maxLen; omega) (by rw [FL.out]; omega) he2.size
              exact ⟨u2, w3', run_append_op rfl rfl rfl q1, q2, q3⟩
            intro u65 w65 _ _ _
            simp only [Act.put, List.setIfInBounds_toArray, List.set_cons_succ, List.set_cons_zero]
            refine KR.lexK_take 3 (by kernel_rfl) ?_
            simp only [List.take_succ_cons, List.take_zero, List.drop_succ_cons, List.drop_zero]
            repeat (go_big_quiet_step (fail))
            refine wpQuiet_nil ?_
            refine KR.lexK_some (fun u w' => OwnF W.heap.size 31 FF 1 w' u (j + 1 + (L - j))) (fun u => OwnF.up) rfl (fun w2' he2 hf2 => ?_) ?_
            · have hb := (hf2 46 (by decide)).2 rfl
              have e2 : Ext W w2' := he2.ext
              obtain ⟨u2, w3', q1, q2, q3, q4⟩ := append_F (P := Try.prog) (lo := 1) 22 22 _ Try.underlying22 infoV rfl (by decide) _ _ (j + 1) (L - j) _ _ D hb rfl N2.out.2.1 (by rw [DL.out, Nat.mul_one]) (fun ad hd q u hq => e2.cellOf (N2.out.2.2 ad hd q u hq)) ON2.out (fun q _ => F3.out q)
                (by
                  by_cases h0 : L - j = 0
                  · exact .inl h0
                  · exact .inr (.inl (by omega))) (by unfold maxLen; omega) (by rw [FL.out]; omega) he2.size
              exact ⟨u2, w3', run_append_op rfl rfl rfl q1, q2, q3⟩
            intro u69 w69 _ _ _
            simp only [Act.put, List.setIfInBounds_toArray, List.set_cons_succ, List.set_cons_zero]
            refine KR.lexK_take 1 (by kernel_rfl) ?_
            simp only [List.take_succ_cons, List.take_zero, List.drop_succ_cons, List.drop_zero]
            repeat (go_big_quiet_step (fail))
            refine wpQuiet_nil ?_
            refine KR.lexK_nil ?_
            intro w5 he5 hf5
            have OF := (hf5 50).2 rfl
            have EF : Ext W w5 := he5.ext
            have OP : Hid (OwnV w.heap.size w5 u69 FF) := by
              have h1 := OF.owns (by rw [FL.out]; omega)
              rw [List.take_of_length_le (by rw [FL.out]; omega)] at h1
              have h2 : OwnV W.heap.size w5 u69 FF := by
                unfold OwnV
                rw [FL.out, Nat.mul_one]
                exact h1
              exact h2.low (E1.out.trans HEX.out).size
            have XE : Hid (Ext w w5) := (E1.out.trans HEX.out).trans EF
            have RZ2 := hide' (RZ.out.ext EF)
            clear hne r1 r2 he5 hf5 OF EF
            go_wp2
            go_roundw
            case rel => exact ⟨i + 1, FF, _, by omega, by go_num, PM2, PW2, OP, RZ2, XE⟩
            case measure => simp [intOf]; omega
          · obtain ⟨J, HJ⟩ : ∃ J, Hid (j = J + 1) := ⟨j - 1, by show _ = _; omega⟩
            have hJL : J < L := by have := HJ.out; omega
            have hJL' : (J : Int) < L := by omega
            have hJj : (j : Int) - 1 = (J : Int) := by have := HJ.out; omega
            have d0 : decide ((0 : Int) < (j : Int)) = true := by simp; omega
            have d1 : (0 : Int) < (j : Int) := by omega
            have d2 : 0 < j := by omega
            obtain ⟨og, ooff, hoa, ocell⟩ := CO.out (by omega)
            subst hoa
            obtain ⟨o, hoJ⟩ : ∃ o, vs[J]? = some o := ⟨_, List.getElem?_eq_getElem (by rw [HL.out]; exact hJL)⟩
            have oc1 := EW.out.cellOf (ocell J o hoJ)
            have OJ := hide' ((R1.out.2 J o hoJ).ext EW.out)
            obtain ⟨ya, yn, yc, hyo⟩ := slice_of' OJ.out.sl
            subst hyo
            have HSJ : Hid (j - 1 = J) := by show _ = _; have := HJ.out; omega
            have RBJ := hide' (RB.out J)
            obtain ⟨y, HY⟩ : ∃ y, Hid (l.getD J [] = y) := ⟨_, rfl⟩
            rw [HY.out] at OJ RBJ
            have CL := hide' (rless_any (.slice ta tn tc) (.slice ya yn yc) x y wr (T1.out.ext EW.out).sl OJ.out.sl BX.out RBJ.out.1 LX.out RBJ.out.2)
            clear hj0 ocell
            by_cases hr : rcI x y < 0
            · rw [decide_eq_true hr] at CL
              have IN2 : Hid (InsR l x J) := fun q h1 h2 => by
                by_cases hq : q = J
                · subst hq; rw [HY.out]; exact hr
                · exact IN.out q (by have := HJ.out; omega) h2
              clear hr
              go_wp2_with fail
              refine CL.out.mono ?_
              rintro e W ⟨rfl, heW⟩
              have HEX := hide' (EW.out.trans heW)
              clear heW
              go_wp2
              go_roundw
              case rel => exact ⟨J, by omega, by first | rfl | go_num, IN2, HEX⟩
              case measure => simp [intOf]; omega
            · rw [decide_eq_false hr] at CL
              have STOP : Hid (j = 0 ∨ ¬ rcI x (l.getD (j - 1) []) < 0) := .inr (by rw [HSJ.out, HY.out]; exact hr)
              clear hr
              go_wp2_with fail
              refine CL.out.mono ?_
              rintro e W ⟨rfl, heW⟩
              have HEX := hide' (EW.out.trans heW)
              clear heW oc1 hoJ
              have SW := hide' (S1.out.ext HEX.out)
              obtain ⟨r1, s1⟩ := SW.out.runTake j (by rw [HL.out]; omega)
              obtain ⟨da, r2, s2⟩ := SW.out.runDrop j (by rw [HL.out]; omega)
              have N1 := hide' s1.news
              have N2 := hide' s2.news
              clear s1 s2
              have AL : Hid ((vs.take j).length = j) := by show _ = _; rw [List.length_take, HL.out]; omega
              have DL : Hid ((vs.drop j).length = L - j) := by show _ = _; rw [List.length_drop, HL.out]
              have PW2 := hide' (IN.out.place (by rw [HLL.out]; exact hj) PW.out (STOP.out.imp id (fun h => by omega)))
              have PM2 : Hid ((l.take j ++ [x] ++ l.drop j).Perm (baseL (zss.take (i + 1)))) := by
                show List.Perm _ _
                rw [HBS.out]
                refine List.Perm.trans ?_ (PM.out.append_right _)
                rw [List.append_assoc]
                refine List.Perm.trans (List.Perm.append_left _ List.perm_append_comm) ?_
                rw [← List.append_assoc, List.take_append_drop]
              have RZ : Hid (Rows8 w.heap.size W (vs.take j ++ [.slice ta tn tc] ++ vs.drop j) (l.take j ++ [x] ++ l.drop j)) := (((R1.out.ext HEX.out).take j).app (Rows8.single (T1.out.ext HEX.out))).app ((R1.out.ext HEX.out).drop j)
              have ON1 := hide' (((R1.out.ext HEX.out).take j).read.one)
              have ON2 := hide' (((R1.out.ext HEX.out).drop j).read.one)
              obtain ⟨A, HAA⟩ : ∃ A, Hid (vs.take j = A) := ⟨_, rfl⟩
              obtain ⟨D, HDD⟩ : ∃ D, Hid (vs.drop j = D) := ⟨_, rfl⟩
              rw [HAA.out] at N1 AL RZ ON1
              rw [HDD.out] at N2 DL RZ ON2
              obtain ⟨FF, HFF⟩ : ∃ FF, Hid (A ++ [Value.slice ta tn tc] ++ D = FF) := ⟨_, rfl⟩
              have F1 : Hid (∀ q, q < j * 1 → A[q]? = FF[0 * 1 + q]?) := fun q hq => by rw [← HFF.out]; exact finV_1 A D _ j q AL.out hq
              have F2 : Hid (∀ q, q < 1 * 1 → [Value.slice ta tn tc][q]? = FF[j * 1 + q]?) := fun q hq => by rw [← HFF.out]; exact finV_2 A D _ j q AL.out hq
              have F3 : Hid (∀ q, D[q]? = FF[(j + 1) * 1 + q]?) := fun q => by rw [← HFF.out]; exact finV_3 A D _ j q AL.out
              have FL : Hid (FF.length = (j + 1 + (L - j)) * 1) := by show _ = _; rw [← HFF.out, List.length_append, List.length_append, AL.out, DL.out]; simp
              rw [HFF.out] at RZ
              go_wp2_with fail
              have hne := KR.later_some (frel W.heap.size 31 FF 1) W
              refine KR.wp_region_k (E := frel W.heap.size 31 FF 1) (fun _ _ _ _ => True) (by kernel_rfl) (by kernel_rfl) (by kernel_rfl) ?_
              refine KR.lexK_some (fun u w' => LitF W.heap.size 31 w' u 0 #[]) (fun u => LitF.up (by simp)) rfl (fun w1' he1 _ => ?_) ?_
              · exact ⟨.slice (some ⟨w1'.heap.size, 0, none⟩) 0 0, w1'.alloc (.cells #[] 31), by kernel_rfl, ExtF.ofExt (ext_alloc _ _), _, rfl, he1.size, heap_alloc_top _ _⟩
              intro u56 w56 _ _ _
              simp only [Act.put, List.setIfInBounds_toArray, List.set_cons_succ, List.set_cons_zero]
              refine KR.lexK_take 3 (by kernel_rfl) ?_
              simp only [List.take_succ_cons, List.take_zero, List.drop_succ_cons, List.drop_zero]
              repeat (go_big_quiet_step (fail))
              refine wpQuiet_nil ?_
              refine KR.lexK_some (fun u w' => OwnF W.heap.size 31 FF 1 w' u j ∧ (j = 0 → ∃ a', u = .slice a' 0 0)) (fun u w1' w2' h12 h => ⟨OwnF.up _ _ h12 h.1, h.2⟩) rfl (fun w2' he2 hf2 => ?_) ?_
              · have hb := (hf2 39 (by decide)).2 rfl
                have e2 : Ext W w2' := he2.ext
                obtain ⟨g56, hg56, _⟩ := id hb
                obtain ⟨u2, w3', q1, q2, q3, q4⟩ := append_F (P := Try.prog) (lo := 1) 22 22 _ Try.underlying22 infoV rfl (by decide) _ _ 0 j _ _ A hb.own rfl N1.out.2.1 (by rw [AL.out, Nat.mul_one]) (fun ad hd q u hq => e2.cellOf (N1.out.2.2 ad hd q u hq)) ON1.out F1.out
                  (by
                    by_cases h0 : j = 0
                    · exact .inl h0
                    · refine .inr (.inr fun a' c' hv => ?_)
                      rw [hg56] at hv
                      simp only [Value.slice.injEq] at hv
                      omega) (by unfold maxLen; omega) (by omega) he2.size
                rw [Nat.zero_add] at q3
                refine ⟨u2, w3', run_append_op rfl rfl rfl q1, q2, q3, fun h0 => ?_⟩
                have := q4 _ _ hg56 (by omega)
                rw [h0] at this
                exact this
              intro u60 w60 _ _ _
              simp only [Act.put, List.setIfInBounds_toArray, List.set_cons_succ, List.set_cons_zero]
              refine KR.lexK_take 1 (by kernel_rfl) ?_
              simp only [List.take_succ_cons, List.take_zero, List.drop_succ_cons, List.drop_zero]
              repeat (go_big_quiet_step (fail))
              refine wpQuiet_nil ?_
              refine KR.lexK_some (fun u w' => LitF W.heap.size 31 w' u 1 #[.slice ta tn tc]) (fun u => LitF.up (by simp)) rfl (fun w1' he1 _ => ?_) ?_
              · exact ⟨.slice (some ⟨w1'.heap.size, 0, none⟩) 1 1, w1'.alloc (.cells #[.slice ta tn tc] 31), by kernel_rfl, ExtF.ofExt (ext_alloc _ _), _, rfl, he1.size, heap_alloc_top _ _⟩
              intro u64 w64 _ _ _
              simp only [Act.put, List.setIfInBounds_toArray, List.set_cons_succ, List.set_cons_zero]
              refine KR.lexK_some (fun u w' => OwnF W.heap.size 31 FF 1 w' u (j + 1)) (fun u => OwnF.up) rfl (fun w2' he2 hf2 => ?_) ?_
              · have hb := (hf2 43 (by decide)).1.2 rfl
                have hl := (hf2 45 (by decide)).2 rfl
                obtain ⟨ad, had, hnew⟩ := hl.news
                obtain ⟨u2, w3', q1, q2, q3, q4⟩ := append_F (P := Try.prog) (lo := 1) 22 22 _ Try.underlying22 infoV rfl (by decide) _ _ j 1 (some ad) 1 [.slice ta tn tc] hb.1 had (fun h => by cases h) rfl (fun ad' hd q u hq => by
                    simp only [Option.some.injEq] at hd
                    subst hd
                    exact hnew q u hq) (fun u hu => by simp at hu; subst hu; rfl) F2.out
                  (by
                    by_cases h0 : j = 0
                    · refine .inr (.inr fun a' c' hv => ?_)
                      obtain ⟨a'', h1⟩ := hb.2 h0
                      rw [h1] at hv
                      simp only [Value.slice.injEq] at hv
                      omega
                    · exact .inr (.inl (by omega))) (by unfold maxLen; omega) (by rw [FL.out]; omega) he2.size
                exact ⟨u2, w3', run_append_op rfl rfl rfl q1, q2, q3⟩
              intro u65 w65 _ _ _
              simp only [Act.put, List.setIfInBounds_toArray, List.set_cons_succ, List.set_cons_zero]
              refine KR.lexK_take 3 (by kernel_rfl) ?_
              simp only [List.take_succ_cons, List.take_zero, List.drop_succ_cons, List.drop_zero]
              repeat (go_big_quiet_step (fail))
              refine wpQuiet_nil ?_
              refine KR.lexK_some (fun u w' => OwnF W.heap.size 31 FF 1 w' u (j + 1 + (L - j))) (fun u => OwnF.up) rfl (fun w2' he2 hf2 => ?_) ?_
              · have hb := (hf2 46 (by decide)).2 rfl
                have e2 : Ext W w2' := he2.ext
                obtain ⟨u2, w3', q1, q2, q3, q4⟩ := append_F (P := Try.prog) (lo := 1) 22 22 _ Try.underlying22 infoV rfl (by decide) _ _ (j + 1) (L - j) _ _ D hb rfl N2.out.2.1 (by rw [DL.out, Nat.mul_one]) (fun ad hd q u hq => e2.cellOf (N2.out.2.2 ad hd q u hq)) ON2.out (fun q _ => F3.out q)
                  (by
                    by_cases h0 : L - j = 0
                    · exact .inl h0
                    · exact .inr (.inl (by omega))) (by unfold maxLen; omega) (by rw [FL.out]; omega) he2.size
                exact ⟨u2, w3', run_append_op rfl rfl rfl q1, q2, q3⟩
              intro u69 w69 _ _ _
              simp only [Act.put, List.setIfInBounds_toArray, List.set_cons_succ, List.set_cons_zero]
              refine KR.lexK_take 1 (by kernel_rfl) ?_
              simp only [List.take_succ_cons, List.take_zero, List.drop_succ_cons, List.drop_zero]
              repeat (go_big_quiet_step (fail))
              refine wpQuiet_nil ?_
              refine KR.lexK_nil ?_
              intro w5 he5 hf5
              have OF := (hf5 50).2 rfl
              have EF : Ext W w5 := he5.ext
              have OP : Hid (OwnV w.heap.size w5 u69 FF) := by
                have h1 := OF.owns (by rw [FL.out]; omega)
                rw [List.take_of_length_le (by rw [FL.out]; omega)] at h1
                have h2 : OwnV W.heap.size w5 u69 FF := by
                  unfold OwnV
                  rw [FL.out, Nat.mul_one]
                  exact h1
                exact h2.low (E1.out.trans HEX.out).size
              have XE : Hid (Ext w w5) := (E1.out.trans HEX.out).trans EF
              have RZ2 := hide' (RZ.out.ext EF)
              clear hne r1 r2 he5 hf5 OF EF
              go_wp2
              go_roundw
              case rel => exact ⟨i + 1, FF, _, by omega, by go_num, PM2, PW2, OP, RZ2, XE⟩
              case measure => simp [intOf]; omega
    · have hlt' : decide ((i : Int) < n) = false := by simp; omega
      have HC : Hid (l = canonL zss) := by
        have h1 := PM.out
        rw [List.take_of_length_le (by rw [HN.out]; omega)] at h1
        exact canonL_eq h1 PW.out
      rw [HC.out] at HR
      go_wp2
      go_ret
      exact ⟨_, vs, rfl, HO.out, HR.out, HE.out⟩
end Go.Proofs.Ytjccpkekhjhafaa
