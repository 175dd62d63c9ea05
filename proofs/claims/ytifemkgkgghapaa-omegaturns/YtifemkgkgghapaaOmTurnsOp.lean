/- Contract of omega.Turns. -/
import Derived.Test.YtifemkgkgghapaaOmListed
import Derived.Test.YtifemkgkgghapaaOmInOrder
import Derived.Test.YtifemkgkgghapaaOmOps
namespace Go.Proofs.Ytifemkgkgghapaa
set_option linter.unusedVariables false
set_option linter.unusedSimpArgs false
open Go.RowKit

set_option maxHeartbeats 2000000 in
theorem turnsOp_any (v : Value) (zss : List (List Int)) (w : World) (hs : Sls w v zss) (hb : ∀ zs ∈ zss, Bytes8 zs) (hlen : zss.length ≤ 100000) (htot : offP zss zss.length ≤ 100000) :
    Calls Try.prog 12 #[v] w fun e w' => ∃ s l, e = .returned s ∧ l.Perm (listP zss) ∧ l.Pairwise (RP zss) ∧ OwnP w.heap.size w' s l ∧ Ext w w' := by
  have HS := hide' hs
  have HB := hide' hb
  obtain ⟨a, c, rfl, _⟩ := hs
  obtain ⟨n, HN⟩ : ∃ n, Hid (zss.length = n) := ⟨_, rfl⟩
  have HTOT := hide' htot
  have CL := hide' (listed_any _ zss w HS.out hlen htot)
  have HM : Hid ((listP zss).length ≤ 100000) := htot
  clear htot hb
  rw [HN.out] at HS CL hlen ⊢
  go_enter Try.func12, Try.ntmps12
  go_wp2_with fail
  refine CL.out.mono ?_
  rintro e w1 ⟨s, rfl, ho, he⟩
  have O1 := hide' ho.sl
  have E1 := hide' he
  obtain ⟨ta, tc, hsv, htc1, htc2, _⟩ := ho.shape
  subst hsv
  obtain ⟨M, HMM⟩ : ∃ M, Hid ((listP zss).length = M) := ⟨_, rfl⟩
  have hM := HM.out
  rw [HMM.out] at O1 hM htc1 ⊢
  unfold maxLen at htc2
  clear ho he CL
  obtain ⟨w2, hmk1, ho2, he2⟩ := make_nats w1 M (by omega)
  obtain ⟨w3, hmk2, ho3, he3⟩ := make_nats w2 M (by omega)
  have R0 := hide' (ho2.ext he3)
  have A0 := hide' ho3
  have E3 := hide' (he2.trans he3)
  have g12 : w1.heap.size < w2.heap.size := (World.ownsRow.lt ho2 _ rfl).2
  have g01 := E1.out.size
  clear ho2 he2 ho3 he3
  go_wp2
  clear hmk1 hmk2
  obtain ⟨g1, G1⟩ : ∃ g, Hid (w1.heap.size = g) := ⟨_, rfl⟩
  rw [G1.out] at g12 g01 R0 ⊢
  generalize w2.heap.size = g2 at *
  go_loopw [24] (fun vi wr => ∃ (i : Nat) (rs ah : List Nat), i ≤ M ∧ vi = .int .i64 i ∧ Hid (rs.length = M) ∧ Hid (ah.length = M) ∧ Hid (∀ p, p < i → bP zss p = (rs.getD p 0 : Nat) ∧ rs.getD p 0 < 256 ∧ ah.getD p 0 = nxP zss p) ∧
    Hid (Own .i64 3 g1 wr (.slice (some ⟨g1, 0, none⟩) M M) (natL rs)) ∧ Hid (Own .i64 3 g2 wr (.slice (some ⟨g2, 0, none⟩) M M) (natL ah)) ∧ Hid (Ext w1 wr)) (fun vi _ => M - (intOf vi).toNat)
  case atStart => exact ⟨0, _, _, Nat.zero_le _, rfl, List.length_replicate, List.length_replicate, (fun p hp => by omega), R0, A0, E3⟩
  case round =>
    clear R0 A0 E3
    obtain ⟨i, rs, ah, hi, rfl, LR, LA, HX, HR, HA, HE⟩ := hrel
    have HO := hide' (O1.out.ext HE.out)
    by_cases hlt : i < M
    · have hlt' : (i : Int) < M := by omega
      obtain ⟨k, t, hk, ht, hit⟩ := listK_split zss (K := zss.length) (j := i) (show i < (listP zss).length by rw [HMM.out]; exact hlt)
      obtain ⟨_, _, _, hcell⟩ := HO.out.at
      obtain ⟨tg, toff, rfl, hcel⟩ := hcell (by omega)
      have hc := hcel i hlt
      have hTi : (listP zss).getD i (0, 0) = (k, t) := by rw [hit]; exact listP_at hk ht
      rw [hTi] at hc
      have hc1 : wr.cell? ⟨tg, toff + i * 2, none⟩ = some (.int .i64 (k : Int)) := hc.1
      have hc2 : wr.cell? ⟨tg, toff + i * 2 + 1, none⟩ = some (.int .i64 (t : Int)) := hc.2
      have HIT := hide' hit
      have HK := hide' hk
      have HT := hide' ht
      clear hc hcell hcel hit hTi hk ht
      go_wp2_with fail
      have HR1 := hide' (HR.out.ext (ext_alloc wr (Obj.cells #[Value.int IntKind.i64 (k : Int), Value.int IntKind.i64 (t : Int)] 38)))
      have HA1 := hide' (HA.out.ext (ext_alloc wr (Obj.cells #[Value.int IntKind.i64 (k : Int), Value.int IntKind.i64 (t : Int)] 38)))
      have HE1 := hide' (HE.out.trans (ext_alloc wr (Obj.cells #[Value.int IntKind.i64 (k : Int), Value.int IntKind.i64 (t : Int)] 38)))
      have v0 : (wr.alloc (Obj.cells #[Value.int IntKind.i64 (k : Int), Value.int IntKind.i64 (t : Int)] 38)).cell? ⟨wr.heap.size, 0, none⟩ = some (.int .i64 (k : Int)) := by simp only [World.cell?, heap_alloc_top]; rfl
      have v1 : (wr.alloc (Obj.cells #[Value.int IntKind.i64 (k : Int), Value.int IntKind.i64 (t : Int)] 38)).cell? ⟨wr.heap.size, 1, none⟩ = some (.int .i64 (t : Int)) := by simp only [World.cell?, heap_alloc_top]; rfl
      generalize wr.alloc (Obj.cells #[Value.int IntKind.i64 (k : Int), Value.int IntKind.i64 (t : Int)] 38) = W at *
      generalize wr.heap.size = h at *
      obtain ⟨sg, soff, a2, c2, rfl, hwc, hm1, hm2, hws⟩ := (HS.out.ext (E1.out.trans HE1.out)).word (k := k) HK.out
      unfold maxLen at hm1
      have hkn : k < n := by have := HK.out; rw [HN.out] at this; exact this
      have hkn' : (k : Int) < n := by omega
      have hbw : Bytes8 (wordAt zss k) := HB.out _ (by unfold wordAt; rw [List.getD_eq_getElem?_getD, List.getElem?_eq_getElem HK.out]; exact List.getElem_mem HK.out)
      have ht := HT.out
      obtain ⟨_, wg, woff, ha2, hwcell⟩ := hws.at (fun e => by rw [e] at ht; simp at ht)
      subst ha2
      have hz := hwcell t ht
      have hzb := hbw.get t
      obtain ⟨q, hq⟩ := Int.eq_ofNat_of_zero_le hzb.1
      rw [hq] at hz hzb
      have hq2 : q ≤ 255 := by omega
      have HBP : Hid (bP zss i = (q : Int)) := by
        show _ = _
        unfold bP
        rw [HIT.out, listP_at HK.out HT.out]
        show (wordAt zss k).getD ((t + 0) % (wordAt zss k).length) 0 = _
        rw [Nat.add_zero, Nat.mod_eq_of_lt ht, hq]
      have HNX : Hid (nxP zss i = offP zss k + (t + 1) % (wordAt zss k).length) := by show _ = _; rw [HIT.out]; exact nxP_at HK.out HT.out
      have hml : (wordAt zss k).length ≤ 100000 := by
        have h1 := offP_mono zss (show k + 1 ≤ zss.length from HK.out)
        have h2 := HTOT.out
        rw [offP_succ] at h1
        omega
      have hmod : (t + 1) % (wordAt zss k).length < (wordAt zss k).length := Nat.mod_lt _ (by omega)
      have hio : (i : Int) - (t : Int) = (offP zss k : Int) := by have := HIT.out; omega
      have hol : offP zss k ≤ 100000 := by
        have h1 := offP_mono zss (Nat.le_of_lt HK.out)
        have h2 := HTOT.out
        omega
      generalize (wordAt zss k).length = m at *
      have NX := hide' (next_any t m · (by omega) ht)
      generalize offP zss k = o at *
      have ht' : (t : Int) < m := by omega
      clear hws hwcell hbw hq hc1 hc2 HR HA HO HE
      go_wp2_with fail
      go_quiet (fail)
      have z1 := HR1.out.frozen (by rw [natL_len]; exact LR.out) i
      have y1 := HR1.out.intCell LR.out i hlt
      go_wp2_with fail
      refine (NX.out _).mono ?_
      rintro e w5 ⟨rfl, rfl⟩
      obtain ⟨x, HXX⟩ : ∃ x, Hid ((t + 1) % m = x) := ⟨_, rfl⟩
      rw [HXX.out] at hmod HNX
      have EX : ((t + 1) % m : Nat) = x := HXX.out
      rw [EX]
      clear EX
      have HR2 := hide' ((HR1.out.ext (Ext.drewN W nq)).storeN LR.out i q)
      have HA2 := hide' ((HA1.out.ext (Ext.drewN W nq)).keep (b := g1) (by omega) (but_set _ g1 i (.int .i64 (q : Int))))
      have z2 := HA2.out.frozen (by rw [natL_len]; exact LA.out) i
      have y2 := HA2.out.intCell LA.out i hlt
      have HA3 := hide' (HA2.out.storeN LA.out i (o + x))
      have HR3 := hide' (HR2.out.keep (b := g2) (by omega) (but_set _ g2 i (.int .i64 ((o + x : Nat) : Int))))
      have HE3 : Hid (Ext w1 (((W.drewN nq).setCell ⟨g1, i, none⟩ (.int .i64 (q : Int))).setCell ⟨g2, i, none⟩ (.int .i64 ((o + x : Nat) : Int)))) := by
        have e0 : Ext w1 (W.drewN nq) := HE1.out.trans (Ext.drewN W nq)
        have hg1 : w1.heap.size ≤ g1 := Nat.le_of_eq G1.out
        have e1 : Ext w1 ((W.drewN nq).setCell ⟨g1, i, none⟩ (.int .i64 (q : Int))) := Ext.but e0 hg1 (but_set _ _ _ _)
        exact Ext.but e1 (by omega) (but_set _ _ _ _)
      have HX2 : Hid (∀ p, p < i + 1 → bP zss p = ((rs.set i q).getD p 0 : Nat) ∧ (rs.set i q).getD p 0 < 256 ∧ (ah.set i (o + x)).getD p 0 = nxP zss p) := fun p hp => by
        by_cases hpi : p = i
        · subst hpi
          rw [set_same (by rw [LR.out]; exact hlt), set_same (by rw [LA.out]; exact hlt)]
          exact ⟨HBP.out, by omega, HNX.out.symm⟩
        · rw [set_other (by omega), set_other (by omega)]
          exact HX.out p (by omega)
      clear hz v0 v1 hwc z1 y1
      go_wp2
      go_roundw
      case rel => exact ⟨i + 1, rs.set i q, ah.set i (o + x), by omega, by go_num, (show _ = _ by rw [List.length_set]; exact LR.out), (show _ = _ by rw [List.length_set]; exact LA.out), HX2, HR3, HA3, HE3⟩
      case measure => simp [intOf]; omega
    · have hlt' : decide ((i : Int) < M) = false := by simp; omega
      have hiM : i = M := by omega
      subst hiM
      have HI : Hid (InO i (bP zss) (nxP zss) 0 rs ah) := InO.start LR.out LA.out (fun p hp => by have := nxP_lt (zss := zss) p (by rw [HMM.out]; exact hp); rw [HMM.out] at this; exact this) (fun p hp => (HX.out p hp).1) (fun p hp => (HX.out p hp).2.1) (fun p hp => (HX.out p hp).2.2)
      have hpos := O1.out.at.2.2.2
      have TC := hide' hpos
      clear hpos
      go_wp2_with fail
      refine (inOrder_any _ _ rs ah i (bP zss) (nxP zss) _ HR.out.sl HA.out.sl HI.out hM).mono ?_
      rintro e w6 ⟨s6, ord, rfl, hpm, hpw, ho, he⟩
      have PM := hide' hpm
      have PW := hide' hpw
      have HLO : Hid (ord.length = i) := by show _ = _; rw [hpm.length_eq, List.length_range]
      have S6 := hide' ho.sl
      have E6 := hide' (HE.out.trans he)
      obtain ⟨oa, oc, hsv, _⟩ := ho.sl
      rw [natL_len, HLO.out] at hsv
      subst hsv
      obtain ⟨_, hoc1, hoc2, hoc⟩ := S6.out.nat
      have OC := hide' hoc
      unfold maxLen at hoc2
      have INR : Hid (∀ j, j < i → ord.getD j 0 < i) := fun j hj => List.mem_range.1 (PM.out.mem_iff.1 (getN_mem (by rw [HLO.out]; exact hj)))
      clear hpm hpw ho he hoc
      obtain ⟨w7, hmk, ho7, he7⟩ := make_pairs w6 i (by omega)
      have HP0 := hide' ho7
      have E7 := hide' he7
      clear ho7 he7
      go_wp2
      clear hmk
      obtain ⟨g3, G3⟩ : ∃ g, Hid (w6.heap.size = g) := ⟨_, rfl⟩
      rw [G3.out] at HP0 ⊢
      go_loopw [64] (fun vj wr => ∃ (j : Nat) (l : List (Nat × Nat)), j ≤ i ∧ vj = .int .i64 j ∧ Hid (l.length = i) ∧ Hid (∀ p, p < j → l.getD p (0, 0) = (listP zss).getD (ord.getD p 0) (0, 0)) ∧
        Hid (OwnP g3 wr (.slice (some ⟨g3, 0, none⟩) i i) l) ∧ Hid (Ext w6 wr)) (fun vj _ => i - (intOf vj).toNat)
      case atStart => exact ⟨0, List.replicate i (0, 0), Nat.zero_le _, rfl, List.length_replicate, (fun p hp => by omega), HP0, E7⟩
      case round =>
        clear HP0 E7 HR HA HI HX HE hlt hlt'
        obtain ⟨j, l, hj, rfl, LL, HX, HP, HE⟩ := hrel
        by_cases hlt : j < i
        · have hlt' : (j : Int) < i := by omega
          obtain ⟨og, ooff, rfl, ocell⟩ := OC.out (by omega)
          obtain ⟨tg, toff, rfl, tcell⟩ := TC.out (by omega)
          have hpj := INR.out j hlt
          have c1 := HE.out.cellOf (ocell j hlt)
          have c2 := (E6.out.trans HE.out).cellOf (tcell _ hpj).1
          have c3 := (E6.out.trans HE.out).cellOf (tcell _ hpj).2
          obtain ⟨p, HPP⟩ : ∃ p, Hid (ord.getD j 0 = p) := ⟨_, rfl⟩
          rw [HPP.out] at c1 c2 c3 hpj
          obtain ⟨t, HT⟩ : ∃ t, Hid ((listP zss).getD p (0, 0) = t) := ⟨_, rfl⟩
          rw [HT.out] at c2 c3
          have hpj' : (p : Int) < i := by omega
          clear ocell tcell
          obtain ⟨⟨x1, y1⟩, z1, ⟨x2, y2⟩, z2⟩ := HP.out.cells2 LL.out hlt (.int .i64 (t.1 : Int))
          have HP2 := hide' (HP.out.store LL.out j t)
          have HE2 := hide' (Ext.but HE.out (Nat.le_of_eq G3.out) (but_setCells _ g3 (j * 2) [.int .i64 (t.1 : Int), .int .i64 (t.2 : Int)]))
          have HX2 : Hid (∀ q, q < j + 1 → (l.set j t).getD q (0, 0) = (listP zss).getD (ord.getD q 0) (0, 0)) := fun q hq => by
            by_cases hqj : q = j
            · subst hqj
              rw [HPP.out, HT.out]
              simp [List.getD, LL.out, hlt]
            · rw [← HX.out q (by omega)]
              simp only [List.getD_eq_getElem?_getD]
              rw [List.getElem?_set_ne (by omega)]
          go_wp2
          go_roundw
          case rel => exact ⟨j + 1, l.set j t, by omega, by go_num, (show _ = _ by rw [List.length_set]; exact LL.out), HX2, HP2, HE2⟩
          case measure => simp [intOf]; omega
        · have hlt' : decide ((j : Int) < i) = false := by simp; omega
          have hji : j = i := by omega
          subst hji
          have HQ : Hid (l = ord.map fun p => (listP zss).getD p (0, 0)) := by
            refine List.ext_getElem (by rw [LL.out, List.length_map, HLO.out]) fun k h1 h2 => ?_
            have := HX.out k (by rw [LL.out] at h1; exact h1)
            have h3 : k < ord.length := by rw [HLO.out]; rw [LL.out] at h1; exact h1
            simpa [List.getD, List.getElem?_eq_getElem h1, List.getElem?_eq_getElem h3] using this
          have PM2 := PM.out
          rw [← HMM.out] at PM2
          have TS := hide' (turns_sorted PM2 PW.out)
          have g36 := E6.out.size
          go_wp2
          go_ret
          exact ⟨_, l, rfl, by rw [HQ.out]; exact TS.out.1, by rw [HQ.out]; exact TS.out.2, HP.out.low (by rw [← G3.out]; exact Nat.le_trans E1.out.size g36), (E1.out.trans E6.out).trans HE.out⟩
end Go.Proofs.Ytifemkgkgghapaa
