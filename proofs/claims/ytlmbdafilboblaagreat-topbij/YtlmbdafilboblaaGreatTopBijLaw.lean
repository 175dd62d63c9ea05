/- TopBij: the walk. -/
import Derived.Test.YtlmbdafilboblaaGreatPart5
import Derived.Test.YtlmbdafilboblaaGreatPart7
namespace Go.Proofs.YtlmbdafilboblaaGreat
set_option linter.unusedVariables false
set_option linter.unusedSimpArgs false
open Go.RowKit

theorem bjAt (zss : List (List Int)) (T : List (Nat × Nat)) {i : Nat} (h : i < T.length) : (bjL zss T).getD i 0 = lastP zss (T.getD i (0, 0)) := by
  unfold bjL
  rw [List.getD_eq_getElem?_getD, List.getElem?_map, List.getElem?_eq_getElem h, List.getD_eq_getElem?_getD, List.getElem?_eq_getElem h]
  rfl

set_option maxHeartbeats 4000000 in
theorem lawTopBij (v : Value) (zs : List Int) (w : World) (hv : Sl .u8 w v zs) (h8 : Bytes8 zs) :
    Calls Tryz.prog 4 #[v] w fun e w' => e = .returned (.bool true) ∧ Ext w w' := by
  have HV := hide' hv
  have H8 := hide' h8
  obtain ⟨a, c, rfl⟩ := sl_slice hv
  by_cases hl : (60 : Int) < (zs.length : Int)
  · go_enter Tryz.func4, Tryz.ntmps4
    go_wp2
    go_ret
    exact ⟨rfl, Ext.refl _⟩
  have d1 : decide ((60 : Int) < (zs.length : Int)) = false := by simpa using hl
  have HS5 : Hid (zs.length ≤ 100000) := by show _ ≤ _; omega
  have C := hide' (rfactors_any _ zs w hv (by omega))
  have HFL := hide' (facL_len zs.length zs (Nat.le_refl _))
  have HWL : Hid ((facW zs).length ≤ 100000) := Nat.le_trans (facW_len zs) (by omega)
  have HOFF : Hid (offP (facW zs) (facW zs).length ≤ 100000) := by show _ ≤ _; rw [facW_off]; omega
  have HW : Hid (∀ k, k < (facW zs).length → (wordAt (facW zs) k).length ≤ 100000) := fun k hk => by
    have h1 := offP_succ (facW zs) k
    have h2 := offP_mono (facW zs) (show k + 1 ≤ (facW zs).length by omega)
    have h3 := HOFF.out
    omega
  obtain ⟨n, HN⟩ : ∃ n, Hid (zs.length = n) := ⟨_, rfl⟩
  have HF0 : Hid ((facL zs).drop 0 = facL zs) := List.drop_zero
  have HW0 : Hid (facW zs = [] ++ facW zs) := rfl
  obtain ⟨F, HF⟩ : ∃ F, Hid (facL zs = F) := ⟨_, rfl⟩
  obtain ⟨m, HM⟩ : ∃ m, Hid (F.length = m) := ⟨_, rfl⟩
  have hlen : zs.length ≤ 60 := by omega
  rw [HN.out] at hlen HFL d1
  rw [HF.out] at C HFL
  rw [HM.out] at HFL
  have hm := HFL.out
  clear hv hl h8
  go_enter Tryz.func4, Tryz.ntmps4
  rw [HN.out] at C ⊢
  go_wp2_with fail
  refine C.out.mono ?_
  rintro e w1 ⟨s, rfl, ho, he⟩
  have S1 := hide' ho.sl
  have X1 := hide' he
  have hsz1 := he.size
  clear ho he C
  obtain ⟨sa, sc, hs⟩ := sl_slice S1.out
  rw [HM.out] at hs
  subst hs
  obtain ⟨_, _, _, hco⟩ := S1.out.int
  have CO := hide' hco
  clear hco S1
  go_wp2
  go_loopw [3, 5, 6] (fun vw vr vi wr => ∃ (i : Nat) (us : List Value) (ws : List (List Int)) (rest : List Int), i ≤ m ∧ vi = .int .i64 i ∧ Hid (facW zs = ws ++ facW rest) ∧ Hid (F.drop i = facL rest) ∧ Hid (Sl .u8 w vr rest) ∧
    Hid (OwnV w1.heap.size wr vw us) ∧ Hid (Read8 w us ws) ∧ Hid (us.length = i) ∧ Hid (Ext w1 wr)) (fun _ _ vi _ => m - (intOf vi).toNat)
  case atStart => exact ⟨0, [], [], zs, Nat.zero_le _, rfl, HW0, (by show _ = _; rw [List.drop_zero, HF.out]), (by have := HV.out; rw [HN.out] at this; exact this), OwnV.nil _ _, Read8.nil _, rfl, Ext.refl _⟩
  case round =>
    obtain ⟨i, us, ws, rest, hi, rfl, HFW, HFD, HR, HO, HU, HUL, HE⟩ := hrel
    obtain ⟨ra, rc, hr⟩ := sl_slice HR.out
    subst hr
    by_cases hlt : i < m
    · have hlt' : (i : Int) < m := by omega
      obtain ⟨og, ooff, rfl, ocell⟩ := CO.out (by omega)
      have oc := HE.out.cellOf (ocell i hlt)
      obtain ⟨h0, h1, h2⟩ := fac_next (by rw [HM.out]; exact hlt) HFD.out
      have hL := longI_spec h0
      have hLe := hL.le
      have HFD2 := hide' h2
      have HFW2 : Hid (facW zs = (ws ++ [rest.take (longI rest)]) ++ facW (rest.drop (longI rest))) := by
        show _ = _
        rw [HFW.out, facW_cons h0, List.append_assoc]
        rfl
      rw [h1] at oc
      obtain ⟨k, HK⟩ : ∃ k, Hid (longI rest = k) := ⟨_, rfl⟩
      rw [HK.out] at oc hLe HFD2 HFW2
      obtain ⟨r1, s1⟩ := HR.out.runTake (P := Tryz.prog) 22 5 Tryz.underlying22 size8 k hLe
      obtain ⟨a2, r2, s2, _⟩ := HR.out.runDrop (P := Tryz.prog) 22 5 Tryz.underlying22 size8 k hLe
      have S1 := hide' s1
      have S2 := hide' s2
      obtain ⟨R, HRL⟩ : ∃ R, Hid (rest.length = R) := ⟨_, rfl⟩
      rw [HRL.out] at r1 r2 S2 hLe ⊢
      have LU : Hid (us.length + 1 ≤ 1000000) := by show _ ≤ _; rw [HUL.out]; omega
      have hsz := HE.out.size
      have O2 := hide' (HO.out.ext (ext_alloc wr (.cells #[.slice ra k rc] 22)))
      have E2 := hide' (HE.out.trans (ext_alloc wr (.cells #[.slice ra k rc] 22)))
      clear h0 h1 h2 hL s1 s2 ocell
      go_wp2_with (at_builtin; refine wpList_snocV _ rfl _ _ rfl w1.heap.size _ us (.slice ra k rc) wr.heap.size rfl rfl ?c1 rfl O2.out LU.out E2.out.size ?_)
      case c1 => simp only [World.cell?, heap_alloc_top]; simp
      intro v1 w3 ho1 hg1
      have O3 := hide' ho1
      have E3 : Hid (Ext w1 w3) := Below.trans E2.out (owns_grown O2.out E2.out.size hg1)
      have U3 : Hid (Read8 w (us ++ [.slice ra k rc]) (ws ++ [rest.take k])) := HU.out.app (Read8.single S1.out)
      have UL3 : Hid ((us ++ [Value.slice ra k rc]).length = i + 1) := by show _ = _; rw [List.length_append, HUL.out]; rfl
      have oc3 := E3.out.cellOf (w := w1) (a := ⟨og, ooff + i, none⟩) (v := .int .i64 (k : Int)) (by have := CO.out (by omega); obtain ⟨g', o', h1, h2⟩ := this; cases h1; have h3 := h2 i hlt; rw [(fac_next (by rw [HM.out]; exact hlt) HFD.out).2.1, HK.out] at h3; exact h3)
      clear ho1 hg1 O2 E2 oc
      go_wp2
      go_roundw
      case rel => exact ⟨i + 1, us ++ [.slice ra k rc], ws ++ [rest.take k], rest.drop k, by omega, by go_num, HFW2, HFD2, S2, O3, U3, UL3, E3⟩
      case measure => simp [intOf]; omega
    · have hlt' : decide ((i : Int) < m) = false := by simp; omega
      have h3 : facW zs = ws := by
        have h4 := HFD.out
        rw [List.drop_of_length_le (by rw [HM.out]; omega)] at h4
        have h5 : rest.length = 0 := by
          apply Classical.byContradiction
          intro h5
          rw [facL_cons h5] at h4
          cases h4
        have := HFW.out
        rw [List.length_eq_zero_iff.1 h5, facW_nil, List.append_nil] at this
        exact this
      have HEW := hide' (X1.out.trans HE.out)
      have HSS : Hid (Sls wr u3 (facW zs)) := by show Sls _ _ _; rw [h3]; exact HO.out.sl.sls (HU.out.ext HEW.out)
      have HZN : Hid (∀ T V, Turned (facW zs) T → IsTurn zs V → V = bjL (facW zs) T) := fun T V hT hV => hV.eq ⟨T, hT, rfl⟩
      clear h3 HFW HFD HR HO HU HUL HE X1 HF0 HW0 HFL CO
      obtain ⟨zss, HZ⟩ : ∃ z, Hid (facW zs = z) := ⟨_, rfl⟩
      rw [HZ.out] at HSS HWL HOFF HW HZN
      have HLP : Hid ((listP zss).length ≤ 100000) := HOFF.out
      obtain ⟨wa, wc, hws, _⟩ := id HSS.out
      obtain ⟨q, HQN⟩ : ∃ q, Hid (zss.length = q) := ⟨_, rfl⟩
      rw [HQN.out] at hws HW
      subst hws
      go_wp2_with fail
      refine (rturns8_any _ zss wr HSS.out HWL.out HOFF.out).mono ?_
      rintro e w2 ⟨ts, T, rfl, hp, hq, ho, he⟩
      have HT : Hid (Turned zss T) := ⟨hp, hq⟩
      have HP := hide' ho.sl
      have X2 := hide' (HEW.out.trans he)
      have S2 := hide' (HSS.out.ext he)
      have hmt : T.length ≤ 100000 := by rw [hp.length_eq]; exact HLP.out
      clear hp hq ho he HSS HEW
      go_wp2_with fail
      refine (bjTurn_any _ zs w2 (by have := HV.out.ext X2.out; rw [HN.out] at this; exact this) H8.out HS5.out).mono ?_
      rintro e w3 ⟨V, u7, rfl, hv, ho, he⟩
      have hVE := HZN.out T V HT.out hv
      subst hVE
      have O3 := hide' ho.sl
      have HP3 := hide' (HP.out.ext he)
      have S3 := hide' (S2.out.ext he)
      have X3 := hide' (X2.out.trans he)
      clear hv ho he HP S2 X2
      obtain ⟨ta, tc, rfl, _⟩ := id HP3.out
      obtain ⟨_, _, _, hcp⟩ := HP3.out.at
      have CP := hide' hcp
      obtain ⟨ba, bc, rfl⟩ := sl_slice O3.out
      obtain ⟨M, HMM⟩ : ∃ M, Hid (T.length = M) := ⟨_, rfl⟩
      have HBL : Hid ((bjL zss T).length = M) := by show _ = _; rw [bjLen, HMM.out]
      rw [HMM.out] at CP hmt
      rw [HBL.out, HMM.out]
      have dl : ((M : Int) != (M : Int)) = false := by simp
      have HIN : Hid (∀ i, i < M → (T.getD i (0, 0)).1 < q ∧ (T.getD i (0, 0)).2 < (wordAt zss (T.getD i (0, 0)).1).length) := fun i hi => by
        have := HT.out.mem (getP_mem (i := i) (by rw [HMM.out]; exact hi))
        rwa [HQN.out] at this
      have BA : Hid (0 < M → ∃ b off, ba = some ⟨b, off, none⟩ ∧ ∀ W j, Ext w3 W → j < M → W.cell? ⟨b, off + j, none⟩ = some (.int .u8 (lastP zss (T.getD j (0, 0))))) := fun h0 => by
        obtain ⟨_, b, off, h1, h2⟩ := O3.out.at (fun e => by have := HBL.out; rw [e] at this; simp at this; omega)
        exact ⟨b, off, h1, fun W j he hj => by have := he.cellOf (h2 j (by rw [HBL.out]; exact hj)); rwa [bjAt zss T (by rw [HMM.out]; exact hj)] at this⟩
      clear hcp HP3 hlt hlt' hi
      go_wp2
      go_loopw [10] (fun vi wr => ∃ (i : Nat), i ≤ M ∧ vi = .int .i64 i ∧ Hid (Ext w3 wr)) (fun vi _ => M - (intOf vi).toNat)
      case atStart => exact ⟨0, Nat.zero_le _, rfl, Ext.refl _⟩
      case round =>
        obtain ⟨i, hi, rfl, HE⟩ := hrel
        by_cases hlt : i < M
        · have hlt' : (i : Int) < M := by omega
          obtain ⟨pg, poff, rfl, pcell⟩ := CP.out (by omega)
          obtain ⟨p1, p2⟩ := pcell i hlt
          have p1 := HE.out.cellOf p1
          have p2 := HE.out.cellOf p2
          obtain ⟨b1, b2⟩ := HIN.out i hlt
          obtain ⟨bg, bo, rfl, bcell⟩ := BA.out (by omega)
          have bz := bcell wr i HE.out hlt
          have HLA : Hid (lastP zss (T.getD i (0, 0)) = (wordAt zss (T.getD i (0, 0)).1).getD (((T.getD i (0, 0)).2 + (wordAt zss (T.getD i (0, 0)).1).length - 1) % (wordAt zss (T.getD i (0, 0)).1).length) 0) := rfl
          rw [HLA.out] at bz
          obtain ⟨x, HX⟩ : ∃ x, Hid ((T.getD i (0, 0)).1 = x) := ⟨_, rfl⟩
          obtain ⟨y, HY⟩ : ∃ y, Hid ((T.getD i (0, 0)).2 = y) := ⟨_, rfl⟩
          rw [HX.out] at p1 b1 b2 bz
          rw [HY.out] at p2 b2 bz
          obtain ⟨g, off, a2, c2, rfl, hc, _, _, hw⟩ := S3.out.row (k := x) (by rw [HQN.out]; exact b1)
          have hc := HE.out.cellOf hc
          have hw := hw.ext HE.out
          have hwl := HW.out x b1
          unfold wordAt at b2 bz hwl
          obtain ⟨W, HWW⟩ : ∃ W, Hid (zss.getD x [] = W) := ⟨_, rfl⟩
          rw [HWW.out] at hc hw b2 bz hwl
          obtain ⟨_, wg, woff, rfl, wcell⟩ := hw.at (fun e => by rw [e] at b2; simp at b2)
          obtain ⟨L, HL⟩ : ∃ L, Hid (W.length = L) := ⟨_, rfl⟩
          rw [HL.out] at hc b2 bz wcell hwl
          obtain ⟨J, HJ⟩ : ∃ J, Hid ((y + L - 1) % L = J) := ⟨_, rfl⟩
          have hJ : J < L := by rw [← HJ.out]; exact Nat.mod_lt _ (by omega)
          have hJ' : (J : Int) < L := by omega
          have hmod : ((y : Int) + (L : Int) - 1).tmod (L : Int) = (J : Int) := by
            rw [← HJ.out, Int.tmod_eq_emod_of_nonneg (by omega), show (y : Int) + (L : Int) - 1 = ((y + L - 1 : Nat) : Int) by omega]
            simp
          have cz := wcell J hJ
          rw [HJ.out] at bz
          obtain ⟨z, HZZ⟩ : ∃ z, Hid (W.getD J 0 = z) := ⟨_, rfl⟩
          rw [HZZ.out] at bz cz
          have b1' : (x : Int) < q := by omega
          have hL0 : ((L : Int) == 0) = false := by simp; omega
          have dz : (z != z) = false := by simp
          clear wcell pcell bcell hw
          go_wp2_with fail
          go_quiet (fail)
          go_wp2
          go_roundw
          case rel => exact ⟨i + 1, by omega, by go_num, HE.out.trans (Ext.drewN _ _)⟩
          case measure => simp [intOf]; omega
        · have hlt' : decide ((i : Int) < M) = false := by simp; omega
          have HE9 := hide' (X3.out.trans HE.out)
          go_wp2_with fail
          refine (topKnown_any _).mono ?_
          rintro e w7 ⟨rfl, he⟩
          have X7 := hide' (HE9.out.trans he)
          clear he
          go_wp2
          go_ret
          exact ⟨rfl, X7.out⟩
end Go.Proofs.YtlmbdafilboblaaGreat
