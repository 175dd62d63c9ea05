/- Texts laid together: LfOp, BjBackOp, BjOp, BjMore, RefWords, RefEnd, LynRef, OmRef, KripR, KripApp, KripNew, RefTurn, KripFin, RefTurns8. -/
import Derived.Test.YtlmbdafilboblaaGreatPart6
import Derived.Test.YtlmbdafilboblaaGreatPart4
import Derived.Test.YtlmbdafilboblaaGreatPart2
import Derived.Test.YtlmbdafilboblaaGreatPart3
import Derived.Test.YtlmbdafilboblaaGreatPart1
import Derived.Test.YtlmbdafilboblaaGreatPart5
import Derived.Lib.MinMax
import Derived.Laws.OwnMore
import Derived.Laws.AppendOwnNone
/- Contract of lf.Cycles. -/
namespace Go.Proofs.YtlmbdafilboblaaGreat
set_option linter.unusedVariables false
set_option linter.unusedSimpArgs false
open Go.RowKit

set_option maxHeartbeats 4000000 in
theorem lfCycles_any (v : Value) (l : List Int) (w : World) (hv : Sl .i64 w v l) (hlen : l.length ≤ 100000) :
    Calls Tryz.prog 19 #[v] w fun e w' => ∃ cs s us, e = .returned (.tuple #[s, .bool (ordB l)]) ∧ CycIs l cs ∧ OwnVI w.heap.size w' s us ∧ RowsI w.heap.size w' us (cs.map natL) ∧ Ext w w' := by
  have HU := hide' hv
  obtain ⟨ua, uc, rfl, _⟩ := hv
  have C := hide' (rkIs_any _ l w HU.out (by omega))
  cases h2 : ordB l
  · have HN := hide' (CycIs.no h2)
    rw [h2] at C
    clear h2 HU
    go_enter Tryz.func19, Tryz.ntmps19
    go_wp2_with fail
    refine C.out.mono ?_
    rintro e w1 ⟨rfl, he1⟩
    have X1 := hide' he1
    clear he1
    go_wp2
    go_ret2
    exact ⟨[], _, [], rfl, HN.out, OwnVI.nil _ _, RowsI.nil _ _, X1.out⟩
  · rw [h2] at C
    have HYES : Hid (∀ cs, CycOf (stepN (toN l)) l.length cs → CycIs l cs) := fun cs h => CycIs.yes h2 h
    obtain ⟨hA, hP⟩ := ordB_cast h2
    obtain ⟨A, HA⟩ : ∃ A, Hid (toN l = A) := ⟨_, rfl⟩
    rw [HA.out] at hA hP HYES
    obtain ⟨n, HN⟩ : ∃ n, Hid (l.length = n) := ⟨_, rfl⟩
    have hAL : A.length = n := by rw [← HN.out, ← hA, natL_len]
    have hPP : A.Perm (List.range A.length) := by rw [hAL, ← HN.out]; exact hP
    have HLT : Hid (∀ x, x < n → stepN A x < n) := fun x hx => by
      have := perm_lt hPP (p := x) (by rw [hAL]; exact hx)
      rwa [hAL] at this
    have HINJ : Hid (∀ x y, x < n → y < n → stepN A x = stepN A y → x = y) := fun x y hx hy e => nodup_getN (hPP.nodup_iff.2 List.nodup_range) (by rw [hAL]; exact hx) (by rw [hAL]; exact hy) e
    have HU2 : Hid (Sl .i64 w (.slice ua n uc) (natL A)) := by have := HU.out; rw [← hA, natL_len, hAL] at this; exact this
    have HAL := hide' hAL
    rw [HN.out] at C hlen HYES ⊢
    clear hA hP hAL h2 HU HA hPP HN
    go_enter Tryz.func19, Tryz.ntmps19
    go_wp2_with fail
    refine C.out.mono ?_
    rintro e w1 ⟨rfl, he1⟩
    have X1 := hide' he1
    have hz1 := he1.size
    clear he1 C
    obtain ⟨w2, hmk, ho, he⟩ := make_bools w1 n (by omega)
    rw [← seenF_nil] at ho
    have HO := hide' (ho.low hz1)
    have HE := hide' (X1.out.trans he)
    clear ho he
    go_wp2
    clear hmk
    obtain ⟨g, HG⟩ : ∃ g, Hid (w1.heap.size = g) := ⟨_, rfl⟩
    rw [HG.out] at HO ⊢
    have Hg : Hid (w.heap.size ≤ g) := by show _ ≤ _; rw [← HG.out]; exact hz1
    clear HG hz1
    go_loopw [4, 15] (fun vo vi wr => ∃ (i : Nat) (cs : List (List Nat)) (us : List Value), i ≤ n ∧ vi = .int .i64 i ∧ Hid (CycTo (stepN A) n i cs) ∧ Hid (OwnB w.heap.size wr (.slice (some ⟨g, 0, none⟩) n n) (seenF n cs.flatten)) ∧
      Hid (OwnVI w.heap.size wr vo us) ∧ Hid (RowsI w.heap.size wr us (cs.map natL)) ∧ Hid (Ext w wr)) (fun _ vi _ => n - (intOf vi).toNat)
    case atStart => exact ⟨0, [], [], Nat.zero_le _, rfl, CycTo.start _ _, HO, OwnVI.nil _ _, RowsI.nil _ _, HE⟩
    case round =>
      clear HO HE
      obtain ⟨i, cs, us, hi, rfl, HT, HO, HV, HR, HE⟩ := hrel
      by_cases hlt : i < n
      · have hlt' : (i : Int) < n := by omega
        have hsz := HE.out.size
        have hcb := HO.out.cell (seenF_len _ _) i hlt
        rw [seenF_at _ hlt] at hcb
        by_cases hin : i ∈ cs.flatten
        · rw [decide_eq_true hin] at hcb
          have HT2 := hide' (HT.out.skip hin)
          clear hin
          go_wp2
          go_roundw
          case rel => exact ⟨i + 1, cs, us, by omega, by go_num, HT2, HO, HV, HR, HE⟩
          case measure => simp [intOf]; omega
        · rw [decide_eq_false hin] at hcb
          have HNI := hide' hin
          clear hin
          go_wp2_with fail
          refine (cycleFrom_any _ A cs n i g w.heap.size w wr HU2.out HE.out Hg.out HAL.out hlen HLT.out HINJ.out hlt HNI.out HT.out HO.out).mono ?_
          rintro e w2 ⟨c, s, rfl, ht, hob, how, hbt⟩
          have HT2 := hide' ht
          have HO2 := hide' hob
          have HBT := hide' hbt
          have HW2 := hide' (how.low hsz)
          have HEQ := hide' (Ext.but HE.out Hg.out hbt)
          have HV2 : Hid (OwnVI w.heap.size w2 u4 us) := OwnB.other HO.out HV.out (by decide) HBT.out
          have HR2 : Hid (RowsI w.heap.size w2 (us ++ [s]) ((cs ++ [c]).map natL)) := by
            show RowsI _ _ _ _
            rw [List.map_append]
            exact RowsI.app ⟨HR.out.1, fun j u hu => OwnB.other HO.out (HR.out.2 j u hu) (by decide) HBT.out⟩ (RowsI.single HW2.out)
          have LU : Hid (us.length + 1 ≤ 1000000) := by
            have h1 := HR.out.1
            rw [List.length_map] at h1
            have h3 := flatC_len HT.out.ne
            have h4 := nodup_permN_le HT.out.nodup HT.out.lt
            show _ ≤ _
            omega
          obtain ⟨ca, cc, hcs, _⟩ := id HW2.out.sl
          obtain ⟨m, HM⟩ : ∃ m, Hid ((natL c).length = m) := ⟨_, rfl⟩
          rw [HM.out] at hcs
          subst hcs
          have V2 := hide' (HV2.out.ext (ext_alloc w2 (.cells #[.slice ca m cc] 32)))
          have R2 := hide' (HR2.out.ext (ext_alloc w2 (.cells #[.slice ca m cc] 32)))
          have O2 := hide' (HO2.out.ext (ext_alloc w2 (.cells #[.slice ca m cc] 32)))
          have E2 := hide' (HEQ.out.trans (ext_alloc w2 (.cells #[.slice ca m cc] 32)))
          clear ht hob how hbt HV2 HR2 HO2 HEQ HBT HW2 HV HR HO HT HE
          go_wp2_with (at_builtin; refine wpList_snocVI _ rfl _ _ rfl w.heap.size _ us (.slice ca m cc) w2.heap.size rfl rfl ?c1 rfl V2.out LU.out E2.out.size ?_)
          case c1 => simp only [World.cell?, heap_alloc_top]; simp
          intro v1 w3 ho1 hg1
          have V3 := hide' ho1
          have R3 : Hid (RowsI w.heap.size w3 (us ++ [.slice ca m cc]) ((cs ++ [c]).map natL)) := RowsI.other R2.out V2.out hg1
          have O3 : Hid (OwnB w.heap.size w3 (.slice (some ⟨g, 0, none⟩) n n) (seenF n (cs ++ [c]).flatten)) := ownsI_other V2.out O2.out (by decide) hg1
          have E3 : Hid (Ext w w3) := Below.trans E2.out (ownsI_grown V2.out E2.out.size hg1)
          clear ho1 hg1 V2 R2 O2 E2
          go_wp2
          go_roundw
          case rel => exact ⟨i + 1, cs ++ [c], us ++ [.slice ca m cc], by omega, by go_num, HT2, O3, V3, R3, E3⟩
          case measure => simp [intOf]; omega
      · have hlt' : decide ((i : Int) < n) = false := by simp; omega
        have hin : n = i := by omega
        have HD := hide' (HYES.out _ (show CycOf (stepN A) n cs by have := HT.out; rw [← hin] at this; exact this.done))
        go_wp2
        go_ret2
        exact ⟨cs, _, us, rfl, HD.out, HV.out, HR.out, HE.out⟩
end Go.Proofs.YtlmbdafilboblaaGreat

/- Contract of bij.Back. -/
namespace Go.Proofs.YtlmbdafilboblaaGreat
set_option linter.unusedVariables false
set_option linter.unusedSimpArgs false
open Go.RowKit

set_option maxHeartbeats 4000000 in
theorem bjBack_any (v : Value) (l : List Int) (w : World) (hv : Sl .u8 w v l) (h8 : Bytes8 l) (hs : l.length ≤ 100000) :
    Calls Tryz.prog 8 #[v] w fun e w' => ∃ s r, e = .returned (.tuple #[r, .int .i64 0]) ∧ IsBack l s ∧ Own .u8 5 w.heap.size w' r s ∧ Ext w w' := by
  have HV := hide' hv
  have C := hide' (lfOf_any v l w hv h8 hs)
  have HOK := hide' (lf_ok l)
  have HCY := hide' (fun cs => lf_cyc (l := l) (cs := cs))
  have HIB : Hid (∀ cs, CycOf (rkN l) l.length cs → IsBack l (strB l cs).reverse) := fun cs h => ⟨cs, h, strB_rev l cs⟩
  have HLN : Hid ((natL (lfN l)).length ≤ 100000) := by show _ ≤ _; rw [natL_len, lfN_len]; exact hs
  have HLQ : Hid ((natL (lfN l)).length = l.length) := by show _ = _; rw [natL_len, lfN_len]
  obtain ⟨F, HF⟩ : ∃ F, Hid (natL (lfN l) = F) := ⟨_, rfl⟩
  rw [HF.out] at C HOK HCY HLN HLQ
  obtain ⟨a, c, rfl, _⟩ := hv
  obtain ⟨n, HN⟩ : ∃ n, Hid (l.length = n) := ⟨_, rfl⟩
  have d1 : decide ((100000 : Int) < (l.length : Int)) = false := by simp; omega
  rw [HN.out] at C HV HIB hs d1 HLQ HCY ⊢
  clear h8
  go_enter Tryz.func8, Tryz.ntmps8
  go_wp2_with fail
  refine C.out.mono ?_
  rintro e w1 ⟨r1, rfl, ho, he⟩
  have S1 := hide' ho.sl
  have X1 := hide' he
  clear ho he C
  go_wp2_with fail
  refine (lfCycles_any _ F w1 S1.out HLN.out).mono ?_
  rw [HOK.out]
  rintro e w2 ⟨cs, t, us, rfl, hcs, ho, hr, he⟩
  have V2 := hide' ho.sl
  have R2 := hide' hr.read
  have X2 := hide' (X1.out.trans he)
  have HC := hide' (HCY.out _ hcs)
  have HALL : Hid (cs.flatten.length = n) := by
    show _ = _
    rw [HC.out.all.length_eq, List.length_range]
  have hnum := hcs.num
  rw [List.length_map] at hnum
  clear ho hr he hcs S1 X1
  obtain ⟨ua, uc, hv2, _⟩ := id V2.out
  have hul : us.length = cs.length := by rw [R2.out.1, List.length_map]
  rw [hul] at hv2
  subst hv2
  obtain ⟨m, HM⟩ : ∃ m, Hid (cs.length = m) := ⟨_, rfl⟩
  have hm : m ≤ 100000 := by
    rw [← HM.out]
    exact Nat.le_trans hnum HLN.out
  have HROW : Hid (∀ k, k < m → ∃ g off u, ua = some ⟨g, off, none⟩ ∧ w2.cell? ⟨g, off + k, none⟩ = some u ∧ Sl .i64 w2 u (natL (cs.getD k []))) := fun k hk => by
    have := SlVI.row (hul ▸ V2.out) R2.out (k := k) (by rw [List.length_map, HM.out]; exact hk)
    rwa [getD_mapE] at this
  have HGOOD : Hid (∀ k, k < m → ∀ j, j < (cs.getD k []).length → (cs.getD k []).getD j 0 < n) := fun k hk j hj => by
    have hmem := getD_memL (cs := cs) (i := k) (by rw [HM.out]; exact hk)
    exact HC.out.ltC hmem (getN_mem hj)
  obtain ⟨O, HO⟩ : ∃ O : Nat → Nat, Hid (∀ i, (cs.take i).flatten.length = O i) := ⟨_, fun _ => rfl⟩
  have HOS : Hid (∀ i, i < m → O (i + 1) = O i + (cs.getD i []).length) := fun i hi => by
    have := take_flat_succ cs (i := i) (by rw [HM.out]; exact hi)
    rwa [HO.out, HO.out] at this
  have HOL : Hid (∀ i, O i ≤ n) := fun i => by rw [← HO.out, ← HALL.out]; exact take_flat_le cs i
  have HO0 : Hid (O 0 = 0) := by show _ = _; rw [← HO.out]; rfl
  have HOM : Hid (O m = n) := by show _ = _; rw [← HO.out, ← HM.out, List.take_length]; exact HALL.out
  have HXA : Hid (∀ i j, i < m → j < (cs.getD i []).length → (strB l cs).getD (O i + j) 0 = l.getD ((cs.getD i []).getD j 0) 0) := fun i j hi hj => by
    have := strB_at (l := l) (cs := cs) (i := i) (j := j) (by rw [HM.out]; exact hi) hj
    rwa [HO.out] at this
  have HI := hide' (HIB.out _ HC.out)
  have HXL : Hid ((strB l cs).length = n) := by show _ = _; rw [strB_len]; exact HALL.out
  obtain ⟨X, HX⟩ : ∃ X, Hid (strB l cs = X) := ⟨_, rfl⟩
  rw [HX.out] at HXA HI HXL
  have HR0 : Hid (List.replicate n 0 = fillR X n 0) := (fillR_zero X n).symm
  have HRN : Hid (∀ k, k < n → (fillR X n k).set (n - 1 - k) (X.getD k 0) = fillR X n (k + 1)) := fun k hk => fillR_next HXL.out hk
  have HRL : Hid (∀ k, k ≤ n → (fillR X n k).length = n) := fun k hk => fillR_len HXL.out hk
  have HRA : Hid (fillR X n n = X.reverse) := fillR_all HXL.out
  obtain ⟨R, HRR⟩ : ∃ R : Nat → List Int, Hid (∀ k, fillR X n k = R k) := ⟨_, fun _ => rfl⟩
  rw [HRR.out] at HR0 HRA
  have HRN2 : Hid (∀ k, k < n → (R k).set (n - 1 - k) (X.getD k 0) = R (k + 1)) := fun k hk => by have := HRN.out k hk; rwa [HRR.out, HRR.out] at this
  have HRL2 : Hid (∀ k, k ≤ n → (R k).length = n) := fun k hk => by have := HRL.out k hk; rwa [HRR.out] at this
  rw [HM.out]
  have VA : Hid (0 < n → ∃ b off, a = some ⟨b, off, none⟩ ∧ ∀ W j, Ext w W → j < n → W.cell? ⟨b, off + j, none⟩ = some (.int .u8 (l.getD j 0))) := fun h0 => by
    obtain ⟨_, b, off, h1, h2⟩ := HV.out.at (fun e => by have := HN.out; rw [e] at this; simp at this; omega)
    exact ⟨b, off, h1, fun W j he hj => he.cellOf (h2 j hj)⟩
  obtain ⟨w3, hmk, ho3, he3⟩ := make_bytes w2 n (by omega)
  rw [HR0.out] at ho3
  have O3 := hide' ho3
  have X3 := hide' he3
  clear ho3 he3 hul V2 R2 hnum HRN HRL HRR HCY HIB
  go_wp2
  clear hmk
  obtain ⟨g, HG⟩ : ∃ g, Hid (w2.heap.size = g) := ⟨_, rfl⟩
  rw [HG.out] at O3 ⊢
  go_loopw [7, 28] (fun ve vi wr => ∃ (i : Nat), i ≤ m ∧ vi = .int .i64 i ∧ ve = .int .i64 ((n - O i : Nat) : Int) ∧ Hid (Own .u8 5 g wr (.slice (some ⟨g, 0, none⟩) n n) (R (O i))) ∧ Hid (Ext w2 wr)) (fun _ vi _ => m - (intOf vi).toNat)
  case atStart => exact ⟨0, Nat.zero_le _, rfl, by rw [HO0.out]; rfl, (by show Own _ _ _ _ _ _; rw [HO0.out]; exact O3.out), X3⟩
  case round =>
    clear O3 X3
    obtain ⟨i, hi, rfl, rfl, HQ, HE⟩ := hrel
    by_cases hlt : i < m
    · have hlt' : (i : Int) < m := by omega
      obtain ⟨cg, coff, u, rfl, hc, hsl⟩ := HROW.out i hlt
      have hc := HE.out.cellOf hc
      have HSL := hide' hsl
      have HGI := hide' (HGOOD.out i hlt)
      have HXI := hide' (fun j => HXA.out i j hlt)
      have HSI := hide' (HOS.out i hlt)
      obtain ⟨C, HCC⟩ : ∃ C, Hid (cs.getD i [] = C) := ⟨_, rfl⟩
      rw [HCC.out] at HSL HGI HXI HSI
      obtain ⟨ca, cc, hu, _⟩ := id HSL.out
      obtain ⟨L, HL⟩ : ∃ L, Hid (C.length = L) := ⟨_, rfl⟩
      rw [natL_len, HL.out] at hu
      subst hu
      rw [HL.out] at HGI HXI HSI
      have hLn : O i + L ≤ n := by rw [← HSI.out]; exact HOL.out (i + 1)
      have CA : Hid (0 < L → ∃ b off, ca = some ⟨b, off, none⟩ ∧ ∀ W j, Ext w2 W → j < L → W.cell? ⟨b, off + j, none⟩ = some (.int .i64 ((C.getD j 0 : Nat) : Int))) := fun h0 => by
        obtain ⟨_, b, off, h1, h2⟩ := HSL.out.at (fun e => by have := congrArg List.length e; rw [natL_len, HL.out, List.length_nil] at this; omega)
        exact ⟨b, off, h1, fun W j he hj => by have := he.cellOf (h2 j hj); rwa [natL_at] at this⟩
      obtain ⟨K, HK⟩ : ∃ K, Hid (O i = K) := ⟨_, rfl⟩
      rw [HK.out] at HXI HSI hLn HQ ⊢
      have HQ0 : Hid (Own .u8 5 g wr (.slice (some ⟨g, 0, none⟩) n n) (R (K + 0))) := HQ.out
      clear hsl
      go_wp2
      go_loopw [7, 34] (fun ve vj wr => ∃ (j : Nat), j ≤ L ∧ vj = .int .i64 j ∧ ve = .int .i64 ((n - (K + j) : Nat) : Int) ∧ Hid (Own .u8 5 g wr (.slice (some ⟨g, 0, none⟩) n n) (R (K + j))) ∧ Hid (Ext w2 wr)) (fun _ vj _ => L - (intOf vj).toNat)
      case atStart => exact ⟨0, Nat.zero_le _, rfl, rfl, HQ0, HE⟩
      case round =>
        clear HQ HQ0 HE hc
        obtain ⟨j, hj, rfl, rfl, HQ, HE⟩ := hrel
        by_cases hlt3 : j < L
        · have hlt3' : (j : Int) < L := by omega
          obtain ⟨cb, cf, rfl, k1⟩ := CA.out (by omega)
          have c1 := k1 wr j HE.out hlt3
          have hp := HGI.out j hlt3
          have HXJ := hide' (HXI.out j hlt3)
          obtain ⟨b, o, rfl, k2⟩ := VA.out (by omega)
          obtain ⟨p, HPP⟩ : ∃ p, Hid (C.getD j 0 = p) := ⟨_, rfl⟩
          rw [HPP.out] at c1 hp HXJ
          have c2 := k2 wr p (X2.out.trans HE.out) hp
          have hp' : (p : Int) < n := by omega
          have HNX := hide' (HRN2.out (K + j) (by omega))
          rw [HXJ.out] at HNX
          obtain ⟨z, HZ⟩ : ∃ z, Hid (l.getD p 0 = z) := ⟨_, rfl⟩
          rw [HZ.out] at c2 HNX
          obtain ⟨J, HJ⟩ : ∃ J, Hid (n - 1 - (K + j) = J) := ⟨_, rfl⟩
          have hJ : J < n := by have := HJ.out; omega
          have hJ' : (J : Int) < n := by omega
          have hJ2 : ((n - (K + j) : Nat) : Int) - 1 = (J : Int) := by have := HJ.out; omega
          rw [HJ.out] at HNX
          have HLQ2 := hide' (HRL2.out (K + j) (by omega))
          have c3 := HQ.out.cell HLQ2.out J hJ
          have z3 := HQ.out.frozen HLQ2.out J
          have HQ2 : Hid (Own .u8 5 g (wr.setCell ⟨g, J, none⟩ (.int .u8 z)) (.slice (some ⟨g, 0, none⟩) n n) (R (K + (j + 1)))) := by
            show Own _ _ _ _ _ _
            rw [← Nat.add_assoc, ← HNX.out]
            exact HQ.out.store HLQ2.out J z
          have HE2 := hide' (Ext.but HE.out (Nat.le_of_eq HG.out) (but_set wr g J (.int .u8 z)))
          have hJ3 : (J : Int) = ((n - (K + (j + 1)) : Nat) : Int) := by have := HJ.out; omega
          have HJ3 := hide' hJ3
          obtain ⟨N1, HN1⟩ : ∃ N1 : Int, Hid (((n - (K + j) : Nat) : Int) = N1) := ⟨_, rfl⟩
          rw [HN1.out] at hJ2 ⊢
          clear k1 k2 HXJ HNX hJ3
          go_wp2
          go_roundw
          case rel => exact ⟨j + 1, by omega, by go_num, by rw [HJ3.out], HQ2, HE2⟩
          case measure => simp [intOf]; omega
        · have hlt3' : decide ((j : Int) < L) = false := by simp; omega
          have hjL : j = L := by omega
          have hRK : Hid (K + j = O (i + 1)) := by show _ = _; rw [hjL]; exact HSI.out.symm
          rw [hRK.out] at HQ
          have HV7 := hide' (congrArg (fun k : Nat => ((n - k : Nat) : Int)) hRK.out)
          clear hjL
          go_wp2
          go_roundw
          case rel => exact ⟨i + 1, by omega, by go_num, congrArg (Value.int .i64) HV7.out, HQ, HE⟩
          case measure => simp [intOf]; omega
    · have hlt' : decide ((i : Int) < m) = false := by simp; omega
      have hin : i = m := by omega
      have HF9 : Hid (Own .u8 5 w.heap.size wr (.slice (some ⟨g, 0, none⟩) n n) X.reverse) := by
        have := HQ.out
        rw [hin, HOM.out, HRA.out] at this
        exact this.low (by rw [← HG.out]; exact X2.out.size)
      have HE9 := hide' (X2.out.trans HE.out)
      clear hin
      go_wp2
      go_ret2
      exact ⟨_, _, rfl, HI.out, HF9.out, HE9.out⟩
theorem bjBack_long (v : Value) (s : List Int) (w : World) (hv : Sl .u8 w v s) (hs : 100000 < s.length) :
    Calls Tryz.prog 8 #[v] w fun e w' => e = .returned (.tuple #[.slice none 0 0, .int .i64 2]) ∧ Ext w w' := by
  obtain ⟨va, vc, rfl, _⟩ := hv
  have d1 : (100000 : Int) < (s.length : Int) := by omega
  clear hs
  go_enter Tryz.func8, Tryz.ntmps8
  go_wp2
  go_ret2
  exact ⟨rfl, Ext.refl _⟩
end Go.Proofs.YtlmbdafilboblaaGreat

/- Contracts of bij.Turn and bij.Back. -/
namespace Go.Proofs.YtlmbdafilboblaaGreat
end Go.Proofs.YtlmbdafilboblaaGreat

/- What is turned has the text's letters; of one that is less than all its endings the last one comes first. Plain numbers. -/
namespace Go.Proofs.YtlmbdafilboblaaGreat
set_option linter.unusedVariables false
set_option linter.unusedSimpArgs false

theorem bjMap_getI (l : List Int) : (List.range l.length).map (fun k => l.getD k 0) = l := by
  refine List.ext_getElem (by simp) fun i h1 h2 => ?_
  simp [List.getD_eq_getElem?_getD, List.getElem?_eq_getElem h2]
theorem IsBack.perm {l s : List Int} (h : IsBack l s) : s.Perm l := by
  obtain ⟨cs, h1, rfl⟩ := h
  have e1 : (cs.reverse.map (wordOf l)).flatten.Perm ((cs.reverse.flatten).map fun k => l.getD k 0) := by
    rw [← List.flatMap_def, List.map_flatten, ← List.flatMap_def]
    exact flatMap_permI fun c _ => (List.reverse_perm c).map _
  refine e1.trans ((((List.reverse_perm cs).flatten.map fun k => l.getD k 0).trans (h1.all.map _)).trans ?_)
  rw [bjMap_getI]
theorem IsTurn.isBack {s l : List Int} (h8 : ∀ z ∈ s, 0 ≤ z ∧ z ≤ 255) (h : IsTurn s l) : IsBack l s := by
  obtain ⟨x, hx⟩ := isBack_some l
  have := h.back h8 hx
  rwa [this] at hx
theorem IsTurn.perm {s l : List Int} (h8 : ∀ z ∈ s, 0 ≤ z ∧ z ≤ 255) (h : IsTurn s l) : l.Perm s := (h.isBack h8).perm.symm
theorem IsTurn.len {s l : List Int} (h8 : ∀ z ∈ s, 0 ≤ z ∧ z ≤ 255) (h : IsTurn s l) : l.length = s.length := (h.perm h8).length_eq
theorem facW_lyn {s : List Int} (h : Lyn s) : facW s = [s] := by
  rw [facW_cons h.1, (lyn_longI h.1).1 h, List.take_length, List.drop_length, facW_nil]
theorem IsTurn.first {s l : List Int} (h8 : ∀ z ∈ s, 0 ≤ z ∧ z ≤ 255) (h : IsTurn s l) (hs : Lyn s) : l.getD 0 0 = s.getD (s.length - 1) 0 := by
  obtain ⟨cs, h1, e1⟩ := h.isBack h8
  have h2 := back_fac h1
  rw [← e1, facW_lyn hs] at h2
  obtain ⟨c, hc⟩ : ∃ c, cs = [c] := by
    have := congrArg List.length h2
    rw [List.length_map, List.length_reverse] at this
    exact List.length_eq_one_iff.1 this.symm
  subst hc
  have hsc : s = wordOf l c := by simpa using h2
  have hmem : c ∈ [c] := List.mem_singleton.2 rfl
  have hlen : c.length = s.length := by rw [hsc, wordOf_len]
  have hll := h.len h8
  have hs0 := hs.1
  have hall := h1.all
  have h0 : 0 ∈ c := by
    have : 0 ∈ [c].flatten := hall.mem_iff.2 (List.mem_range.2 (by omega))
    simpa using this
  have hc0 : c.getD 0 0 = 0 := by
    have := h1.least c hmem 0 h0
    omega
  have h3 := wordOf_at l (c := c) (a := c.length - 1) (by omega)
  rw [← hsc, show c.length - 1 - (c.length - 1) = 0 by omega, hc0, hlen] at h3
  exact h3.symm
theorem perm_rep {l : List Int} {n : Nat} {c : Int} (h : l.Perm (List.replicate n c)) : l = List.replicate n c := by
  rw [List.eq_replicate_iff]
  refine ⟨by rw [h.length_eq, List.length_replicate], fun x hx => ?_⟩
  exact (List.mem_replicate.1 (h.mem_iff.1 hx)).2
end Go.Proofs.YtlmbdafilboblaaGreat

/- Contract of the document's own comparison of two words: whorlref4.Words. -/
namespace Go.Proofs.YtlmbdafilboblaaGreat
set_option linter.unusedVariables false
set_option linter.unusedSimpArgs false
open Go.RowKit

set_option maxHeartbeats 400000 in
theorem words_any (u v : Value) (x y : List Int) (w : World) (hu : Sl .u8 w u x) (hv : Sl .u8 w v y) (hx : x.length ≤ 1000000) (hy : y.length ≤ 1000000) :
    Calls Tryz.prog 40 #[u, v] w fun e w' => e = .returned (.int .i64 (cmpI x y)) ∧ ∃ m, w' = w.drewN m := by
  have HU := hide' hu
  have HV := hide' hv
  obtain ⟨a, c, rfl, _⟩ := hu
  obtain ⟨a', c', rfl, _⟩ := hv
  obtain ⟨n1, hn1⟩ : ∃ n, x.length = n := ⟨_, rfl⟩
  obtain ⟨n2, hn2⟩ : ∃ n, y.length = n := ⟨_, rfl⟩
  rw [hn1] at HU hx ⊢
  rw [hn2] at HV hy ⊢
  have HXL := hide' hn1
  have HYL := hide' hn2
  clear hn1 hn2
  go_enter Tryz.func40, Tryz.ntmps40
  go_wp2
  go_loopw [5] (fun vk wr => ∃ (k : Nat), k ≤ n1 ∧ k ≤ n2 ∧ vk = .int .i64 k ∧ Hid (cmpI x y = cmpI (x.drop k) (y.drop k)) ∧ ∃ m, wr = w.drewN m) (fun vk _ => n1 - (intOf vk).toNat)
  case atStart => exact ⟨0, Nat.zero_le _, Nat.zero_le _, rfl, (show _ = _ by simp), 0, rfl⟩
  case round =>
    obtain ⟨k, hk1, hk2, rfl, HK, m, rfl⟩ := hrel
    by_cases l1 : k < n1
    · by_cases l2 : k < n2
      · have hne1 : x ≠ [] := fun h => by have := HXL.out; rw [h] at this; simp at this; omega
        have hne2 : y ≠ [] := fun h => by have := HYL.out; rw [h] at this; simp at this; omega
        obtain ⟨_, b1, o1, e1, c1⟩ := HU.out.at hne1
        obtain ⟨_, b2, o2, e2, c2⟩ := HV.out.at hne2
        have c1' := c1 k l1
        have c2' := c2 k l2
        obtain ⟨p, HP⟩ : ∃ p, Hid (x.getD k 0 = p) := ⟨_, rfl⟩
        obtain ⟨q, HQ⟩ : ∃ q, Hid (y.getD k 0 = q) := ⟨_, rfl⟩
        rw [HP.out] at c1'
        rw [HQ.out] at c2'
        subst e1 e2
        clear c1 c2 hne1 hne2
        have l1' : (k : Int) < n1 := by omega
        have l2' : (k : Int) < n2 := by omega
        by_cases hpq : p = q
        · have HK' : Hid (cmpI x y = cmpI (x.drop (k + 1)) (y.drop (k + 1))) := by
            have h := cmpI_same (x := x) (y := y) (k := k) (by rw [HXL.out]; exact l1) (by rw [HYL.out]; exact l2) (by rw [HP.out, HQ.out, hpq])
            show _ = _
            rw [HK.out, h]
          subst hpq
          go_wp2_with fail
          go_quiet (fail)
          go_wp2
          go_roundw
          case rel => exact ⟨k + 1, by omega, by omega, by go_num, HK', _, rfl⟩
          case measure => simp [intOf]; omega
        · have hpq' : (p == q) = false := by simpa using hpq
          by_cases hlt : p < q
          · have HK' : Hid (cmpI x y = -1) := by
              show _ = _
              rw [HK.out, cmpI_lt (by rw [HXL.out]; exact l1) (by rw [HYL.out]; exact l2) (by rw [HP.out, HQ.out]; exact hlt)]
            clear hpq
            go_wp2_with fail
            go_quiet (fail)
            go_wp2_with fail
            go_quiet (fail)
            go_wp2
            go_ret
            rw [HK'.out]
            exact ⟨rfl, _, by rw [World.drewN_drewN, World.drewN_drewN]⟩
          · have HK' : Hid (cmpI x y = 1) := by
              show _ = _
              rw [HK.out, cmpI_gt (by rw [HXL.out]; exact l1) (by rw [HYL.out]; exact l2) (by rw [HP.out, HQ.out]; omega)]
            have hlt' : decide (p < q) = false := by simpa using hlt
            clear hpq hlt
            go_wp2_with fail
            go_quiet (fail)
            go_wp2_with fail
            go_quiet (fail)
            go_wp2
            go_ret
            rw [HK'.out]
            exact ⟨rfl, _, by rw [World.drewN_drewN, World.drewN_drewN]⟩
      · have l1' : (k : Int) < n1 := by omega
        have l2' : decide ((k : Int) < n2) = false := by simp; omega
        have e2 : k = n2 := by omega
        have HK' : Hid (cmpI x y = 1) := by
          show _ = _
          rw [HK.out, cmpI_long (by rw [HXL.out]; exact l1) (by rw [HYL.out]; omega)]
        have d1 : decide ((n1 : Int) < n2) = false := by simp; omega
        have d2 : (n2 : Int) < n1 := by omega
        go_wp2
        go_ret
        rw [HK'.out]
        exact ⟨rfl, _, rfl⟩
    · have l1' : decide ((k : Int) < n1) = false := by simp; omega
      by_cases l2 : k < n2
      · have HK' : Hid (cmpI x y = -1) := by
          show _ = _
          rw [HK.out, cmpI_short (by rw [HXL.out]; omega) (by rw [HYL.out]; exact l2)]
        have d1 : (n1 : Int) < n2 := by omega
        go_wp2
        go_ret
        rw [HK'.out]
        exact ⟨rfl, _, rfl⟩
      · have HK' : Hid (cmpI x y = 0) := by
          show _ = _
          rw [HK.out, cmpI_end (by rw [HXL.out]; omega) (by rw [HYL.out]; omega)]
        have d1 : decide ((n1 : Int) < n2) = false := by simp; omega
        have d2 : decide ((n2 : Int) < n1) = false := by simp; omega
        go_wp2
        go_ret
        rw [HK'.out]
        exact ⟨rfl, _, rfl⟩
end Go.Proofs.YtlmbdafilboblaaGreat

/- Contract of the document's own Endings: whorlref4.Endings. -/
namespace Go.Proofs.YtlmbdafilboblaaGreat
set_option linter.unusedVariables false
set_option linter.unusedSimpArgs false
open Go.RowKit

theorem rendings_any (v : Value) (zs : List Int) (i j : Int) (w : World) (hs : Sl .u8 w v zs) (hlen : zs.length ≤ 1000000) :
    Calls Tryz.prog 39 #[v, .int .i64 i, .int .i64 j] w fun e w' => e = .returned (.int .i64 (endL zs i j)) ∧ ∃ m, w' = w.drewN m := by
  have HS := hide' hs
  obtain ⟨a, c, rfl, h2, h3, _⟩ := hs
  unfold maxLen at h3
  by_cases g1 : i < 0
  · rw [endL_out (by omega)]
    go_enter Tryz.func39, Tryz.ntmps39
    go_wp2
    go_ret
    exact ⟨rfl, 0, rfl⟩
  have d1 : decide (i < 0) = false := by simpa using g1
  by_cases g2 : (zs.length : Int) < i
  · rw [endL_out (by omega)]
    go_enter Tryz.func39, Tryz.ntmps39
    go_wp2
    go_ret
    exact ⟨rfl, 0, rfl⟩
  have d2 : decide ((zs.length : Int) < i) = false := by simpa using g2
  by_cases g3 : j < 0
  · rw [endL_out (by omega)]
    go_enter Tryz.func39, Tryz.ntmps39
    go_wp2
    go_ret
    exact ⟨rfl, 0, rfl⟩
  have d3 : decide (j < 0) = false := by simpa using g3
  by_cases g4 : (zs.length : Int) < j
  · rw [endL_out (by omega)]
    go_enter Tryz.func39, Tryz.ntmps39
    go_wp2
    go_ret
    exact ⟨rfl, 0, rfl⟩
  have d4 : decide ((zs.length : Int) < j) = false := by simpa using g4
  obtain ⟨i, rfl⟩ := Int.eq_ofNat_of_zero_le (show 0 ≤ i by omega)
  obtain ⟨j, rfl⟩ := Int.eq_ofNat_of_zero_le (show 0 ≤ j by omega)
  have g2' : (i : Int) ≤ zs.length := by omega
  have g4' : (j : Int) ≤ zs.length := by omega
  clear g1 g2 g3 g4
  rw [endL_in (by omega) (by omega)]
  obtain ⟨a1, r1, s1, _⟩ := HS.out.runDrop (P := Tryz.prog) 22 5 Tryz.underlying22 size8 i (by omega)
  obtain ⟨a2, r2, s2, _⟩ := HS.out.runDrop (P := Tryz.prog) 22 5 Tryz.underlying22 size8 j (by omega)
  have S1 := hide' s1
  have S2 := hide' s2
  have L1 : Hid ((zs.drop i).length ≤ 1000000) := by show _ ≤ _; rw [List.length_drop]; omega
  have L2 : Hid ((zs.drop j).length ≤ 1000000) := by show _ ≤ _; rw [List.length_drop]; omega
  clear s1 s2
  go_enter Tryz.func39, Tryz.ntmps39
  go_wp2_with fail
  go_quiet ((go_at_call 40; exact Calls.quiet_of (words_any _ _ _ _ _ (S1.out.drewN _) (S2.out.drewN _) L1.out L2.out)))
  go_wp2
  go_ret
  exact ⟨rfl, _, rfl⟩
end Go.Proofs.YtlmbdafilboblaaGreat

/- Contracts of the document's own Is and Factors. -/
namespace Go.Proofs.YtlmbdafilboblaaGreat
set_option linter.unusedVariables false
set_option linter.unusedSimpArgs false
open Go.RowKit

set_option maxHeartbeats 400000 in
theorem rlynIs_any (v : Value) (zs : List Int) (w : World) (hs : Sl .u8 w v zs) (hlen : zs.length ≤ 1000000) :
    Calls Tryz.prog 24 #[v] w fun e w' => e = .returned (.bool (lynB zs)) ∧ ∃ m, w' = w.drewN m := by
  have HS := hide' hs
  obtain ⟨a, c, rfl, _⟩ := hs
  obtain ⟨n, hn⟩ : ∃ n, zs.length = n := ⟨_, rfl⟩
  have HN := hide' hn
  have HLN := hide' hlen
  rw [hn] at HS hlen ⊢
  clear hn
  go_enter Tryz.func24, Tryz.ntmps24
  go_wp2
  go_loopw [3] (fun vi wr => ∃ (i : Nat), 1 ≤ i ∧ i ≤ n + 1 ∧ vi = .int .i64 i ∧ Hid (∀ d, 1 ≤ d → d < i → d < n → cmpI zs (zs.drop d) < 0) ∧ ∃ m, wr = w.drewN m) (fun vi _ => n + 1 - (intOf vi).toNat)
  case atStart => exact ⟨1, Nat.le_refl _, by omega, rfl, (show ∀ d, 1 ≤ d → d < 1 → d < n → cmpI zs (zs.drop d) < 0 from fun d h1 h2 => by omega), 0, rfl⟩
  case round =>
    obtain ⟨i, hi1, hi2, rfl, HD, m, rfl⟩ := hrel
    by_cases hlt : i < n
    · have hlt' : (i : Int) < n := by omega
      have HEq : Hid (endL zs 0 (i : Int) = cmpI zs (zs.drop i)) := by
        show _ = _
        have := endL_in (s := zs) (i := 0) (j := i) (Nat.zero_le _) (by rw [HN.out]; omega)
        simpa using this
      obtain ⟨E, HE⟩ : ∃ E, Hid (cmpI zs (zs.drop i) = E) := ⟨_, rfl⟩
      rw [HE.out] at HEq
      go_wp2_with fail
      refine (rendings_any _ zs 0 (i : Int) _ (HS.out.drewN m) HLN.out).mono ?_
      rw [HEq.out]
      rintro e w1 ⟨rfl, m1, rfl⟩
      by_cases h0 : 0 ≤ E
      · have HR : Hid (lynB zs = false) := lynB_false fun h => by
          have := h.2 i (by rw [HN.out]; exact hlt) hi1
          rw [HE.out] at this
          omega
        go_wp2
        go_ret
        rw [HR.out]
        exact ⟨rfl, _, by first | rfl | rw [World.drewN_drewN]⟩
      · have d0 : decide (0 ≤ E) = false := by simpa using h0
        have HD2 : Hid (∀ d, 1 ≤ d → d < i + 1 → d < n → cmpI zs (zs.drop d) < 0) := fun d h1 h2 h3 => by
          by_cases hdi : d = i
          · subst hdi; rw [HE.out]; omega
          · exact HD.out d h1 (by omega) h3
        go_wp2
        go_roundw
        case rel => exact ⟨i + 1, by omega, by omega, by go_num, HD2, _, by first | rfl | rw [World.drewN_drewN]⟩
        case measure => simp [intOf]; omega
    · have hlt' : decide ((i : Int) < n) = false := by simp; omega
      by_cases h0 : n = 0
      · have HR : Hid (lynB zs = false) := lynB_false fun h => h.1 (by rw [HN.out]; exact h0)
        have d0 : decide ((0 : Int) < n) = false := by simp; omega
        go_wp2
        go_ret
        rw [HR.out]
        exact ⟨rfl, _, rfl⟩
      · have HR : Hid (lynB zs = true) := lynB_true ⟨by rw [HN.out]; exact h0, fun d h1 h2 => HD.out d h2 (by rw [HN.out] at h1; omega) (by rw [HN.out] at h1; exact h1)⟩
        have d0 : (0 : Int) < n := by omega
        have d1 : 0 < n := by omega
        go_wp2
        go_ret
        rw [HR.out]
        exact ⟨rfl, _, rfl⟩

theorem facL_at {zs : List Int} {k : Nat} (h : (zs.drop k).length ≠ 0) : facL (zs.drop k) = [(longI (zs.drop k) : Int)] ++ facL (zs.drop (k + longI (zs.drop k))) := by
  rw [facL_cons h, List.drop_drop]; rfl

set_option maxHeartbeats 800000 in
theorem rfactors_any (v : Value) (zs : List Int) (w : World) (hs : Sl .u8 w v zs) (hlen : zs.length ≤ 1000000) :
    Calls Tryz.prog 10 #[v] w fun e w' => ∃ s, e = .returned s ∧ Own .i64 3 w.heap.size w' s (facL zs) ∧ Ext w w' := by
  have HS := hide' hs
  have HLN : Hid ((facL zs).length ≤ 1000000) := Nat.le_trans (facL_len _ zs (Nat.le_refl _)) hlen
  obtain ⟨N, HN⟩ : ∃ n, Hid (zs.length = n) := ⟨_, rfl⟩
  rw [HN.out] at hlen
  clear hs
  go_enter Tryz.func10, Tryz.ntmps10
  go_wp2
  go_loopw [0, 3] (fun vs vo wr => ∃ (k : Nat) (out : List Int), k ≤ N ∧ Hid (Sl .u8 w vs (zs.drop k)) ∧ Hid (Own .i64 3 w.heap.size wr vo out) ∧ Hid (out ++ facL (zs.drop k) = facL zs) ∧ Hid (Ext w wr)) (fun vs _ _ => match vs with | .slice _ n _ => n | _ => 0)
  case atStart => exact ⟨0, [], Nat.zero_le _, HS, Own.nil _ _ _ _, (show _ = _ by simp), Ext.refl _⟩
  case round =>
    obtain ⟨k, out, hk, HV, HO, HF, HE⟩ := hrel
    have hv := HV.out
    obtain ⟨a, c, rfl, _⟩ := hv
    have hdl : (zs.drop k).length + k ≤ N := by rw [List.length_drop, HN.out]; omega
    obtain ⟨n, hn⟩ : ∃ n, (zs.drop k).length = n := ⟨_, rfl⟩
    have HnL := hide' hn
    rw [hn] at HV hdl ⊢
    clear hn
    by_cases h0 : n = 0
    · subst h0
      have HR : Hid (out = facL zs) := by
        show _ = _
        rw [← HF.out, facL_nil HnL.out, List.append_nil]
      go_wp2
      go_ret
      exact ⟨_, rfl, by rw [← HR.out]; exact HO.out, HE.out⟩
    · have hn0 : (0 : Int) < n := by omega
      have hn0' : 0 < n := by omega
      have hls := longI_spec (s := zs.drop k) (by rw [HnL.out]; exact h0)
      have HF2 := hide' HF.out
      rw [facL_at (by rw [HnL.out]; exact h0)] at HF2
      obtain ⟨L, HL⟩ : ∃ L, Hid (longI (zs.drop k) = L) := ⟨_, rfl⟩
      rw [HL.out] at HF2 hls
      have hL1 := hls.pos
      have hL2 := hls.le
      rw [HnL.out] at hL2
      have HLs := hide' hls
      clear hls
      have HVr := hide' (HV.out.ext HE.out)
      go_wp2
      go_loopw [4] (fun vn wk => ∃ (j : Nat), L ≤ j ∧ j ≤ n ∧ vn = .int .i64 j ∧ ∃ m, wk = wr.drewN m) (fun vn _ => (intOf vn).toNat)
      case atStart => exact ⟨n, hL2, Nat.le_refl _, rfl, 0, rfl⟩
      case round =>
        obtain ⟨j, hj1, hj2, rfl, m, rfl⟩ := hrel
        obtain ⟨t1, s1⟩ := HVr.out.runTake (P := Tryz.prog) 22 5 Tryz.underlying22 size8 j (by rw [HnL.out]; exact hj2)
        have S1 := hide' s1
        clear s1
        have HTL : Hid (((zs.drop k).take j).length ≤ 1000000) := by
          show _ ≤ _
          rw [List.length_take, HnL.out]; omega
        by_cases hjL : j = L
        · have HD : Hid (lynB ((zs.drop k).take j) = true) := lynB_true (by rw [hjL]; exact HLs.out.lyn)
          subst hjL
          obtain ⟨a1, t2, s2, _⟩ := HV.out.runDrop (P := Tryz.prog) 22 5 Tryz.underlying22 size8 j (by rw [HnL.out]; exact hj2)
          rw [List.drop_drop] at s2
          have S2 := hide' s2
          clear s2
          obtain ⟨n2, hn2⟩ : ∃ n2, n - j = n2 := ⟨_, rfl⟩
          rw [hn2] at t2 S2
          obtain ⟨c2, hc2⟩ : ∃ c2, c - j = c2 := ⟨_, rfl⟩
          rw [hc2] at t2 S2
          have hn2' : n2 < n := by omega
          clear hn2 hc2
          have hol : Hid (out.length + 1 ≤ 1000000) := by
            have h1 := congrArg List.length HF2.out
            have h2 := HLN.out
            simp only [List.length_append, List.length_cons, List.length_nil] at h1
            show _ ≤ _
            omega
          go_wp2_with fail
          refine (toExt (rlynIs_any _ _ _ (S1.out.drewN m) HTL.out)).mono ?_
          rw [HD.out]
          rintro e w2 ⟨rfl, he⟩
          have HE2 : Hid (Ext w w2) := (HE.out.trans (Ext.drewN _ _)).trans he
          have HO2 : Hid (Own .i64 3 w.heap.size w2 u3 out) := (HO.out.ext (Ext.drewN _ _)).ext he
          clear he
          have hsz := HE2.out.size
          go_wp2_with (at_builtin; refine wpList_snoc _ rfl _ _ 32 rfl 3 .i64 8 Tryz.underlying32 infoI64 w.heap.size _ out (j : Int) ⟨w2.heap.size, 0, none⟩ rfl rfl ?c4 (HO2.out.alloc _) ?c3 ?c5 ?_)
          case c4 => simp only [World.cell?, heap_alloc_top]; simp
          case c3 => have := hol.out; unfold maxLen; omega
          case c5 => simp; omega
          intro v1 w1 ho1 hb1
          have HO1 := hide' ho1
          have HE1 : Hid (Ext w w1) := Below.trans (HE2.out.trans (ext_alloc _ _)) hb1
          have HF3 : Hid (out ++ [(j : Int)] ++ facL (zs.drop (k + j)) = facL zs) := by
            show _ = _
            rw [List.append_assoc]; exact HF2.out
          clear ho1 hb1 t1
          go_wp2
          go_roundw
          case rel => exact ⟨k + j, _, by omega, S2, HO1, HF3, HE1⟩
          case measure => exact hn2'
        · have HD : Hid (lynB ((zs.drop k).take j) = false) := lynB_false (HLs.out.none j (by omega) (by rw [HnL.out]; exact hj2))
          go_wp2_with fail
          refine (rlynIs_any _ _ _ (S1.out.drewN m) HTL.out).mono ?_
          rw [HD.out]
          rintro e w1 ⟨rfl, m1, rfl⟩
          have hj0 : (j : Int) - 1 = ((j - 1 : Nat) : Int) := by omega
          go_wp2
          go_roundw
          case rel => exact ⟨j - 1, by omega, by omega, by go_num, _, by first | rfl | rw [World.drewN_drewN]⟩
          case measure => simp [intOf]; omega
end Go.Proofs.YtlmbdafilboblaaGreat

/- Contract of the document's own comparison without end: whorlref8.Compare. -/
namespace Go.Proofs.YtlmbdafilboblaaGreat
set_option linter.unusedVariables false
set_option linter.unusedSimpArgs false
open Go.RowKit

theorem omI_first {x y : List Int} (h : x.length = 0 ∨ y.length = 0) : cmpI (x.take (min x.length 1)) (y.take (min y.length 1)) = omI x y := by
  rcases h with h | h
  · have e := List.length_eq_zero_iff.1 h
    subst e
    cases y with
    | nil => rw [omI_nil]; rfl
    | cons b y => rw [omI_none_left (by simp)]; simp [cmpI]
  · have e := List.length_eq_zero_iff.1 h
    subst e
    cases x with
    | nil => rw [omI_nil]; rfl
    | cons b y => rw [omI_none_right (by simp)]; simp [cmpI]

set_option maxHeartbeats 1000000 in
theorem rcompare_any (u v : Value) (x y : List Int) (w : World) (hu : Sl .u8 w u x) (hv : Sl .u8 w v y) (hx : x.length ≤ 100000) (hy : y.length ≤ 100000) :
    Calls Tryz.prog 26 #[u, v] w fun e w' => e = .returned (.int .i64 (omI x y)) ∧ Ext w w' := by
  have HU := hide' hu
  have HV := hide' hv
  obtain ⟨a, c, rfl, _⟩ := hu
  obtain ⟨a', c', rfl, _⟩ := hv
  by_cases h0 : x.length = 0 ∨ y.length = 0
  · have HF := hide' (omI_first h0)
    obtain ⟨t1, s1⟩ := HU.out.runTake (P := Tryz.prog) 22 5 Tryz.underlying22 size8 (min x.length 1) (by omega)
    obtain ⟨t2, s2⟩ := HV.out.runTake (P := Tryz.prog) 22 5 Tryz.underlying22 size8 (min y.length 1) (by omega)
    have S1 := hide' s1
    have S2 := hide' s2
    have X1 : Hid ((x.take (min x.length 1)).length ≤ 1000000) := by show _ ≤ _; simp; omega
    have X2 : Hid ((y.take (min y.length 1)).length ≤ 1000000) := by show _ ≤ _; simp; omega
    have m1 : min (x.length : Int) 1 = ((min x.length 1 : Nat) : Int) := by omega
    have m2 : min (y.length : Int) 1 = ((min y.length 1 : Nat) : Int) := by omega
    have HE : Hid (((x.length : Int) == 0) = true ∨ ((x.length : Int) == 0) = false ∧ ((y.length : Int) == 0) = true) := by
      by_cases h1 : x.length = 0
      · exact .inl (by rw [h1]; rfl)
      · exact .inr ⟨by simp; exact fun h => h1 (by rw [h]; rfl), by rw [show y.length = 0 by omega]; rfl⟩
    clear s1 s2
    generalize min x.length 1 = k1 at *
    generalize min y.length 1 = k2 at *
    obtain ⟨n, HN1⟩ : ∃ n, Hid (x.length = n) := ⟨_, rfl⟩
    obtain ⟨n', HN2⟩ : ∃ n, Hid (y.length = n) := ⟨_, rfl⟩
    rw [HN1.out] at t1 m1 HE hx ⊢
    rw [HN2.out] at t2 m2 HE hy ⊢
    clear h0 HU HV
    obtain ⟨r, HR⟩ : ∃ r, Hid (omI x y = r) := ⟨_, rfl⟩
    rw [HR.out] at HF ⊢
    rcases HE.out with d1 | ⟨d1, d2⟩
    all_goals
      go_enter Tryz.func26, Tryz.ntmps26
      go_wp2_with fail
      have hne := later_some w
      refine wp_region_k (fun f args v w' => v = .int .i64 r) (by kernel_rfl) (by kernel_rfl) (by kernel_rfl) ?_
      refine lexK_take 10 (by kernel_rfl) ?_
      simp only [List.take_succ_cons, List.take_zero, List.drop_succ_cons, List.drop_zero]
      repeat (go_big_quiet_step (fail))
      refine wpQuiet_nil ?_
      refine lexK_call1 40 #[.slice a k1 c, .slice a' k2 c'] (.int .i64 r) (fun _ _ => Iff.rfl) rfl (fun w' => ?_) (fun w' he' _ => toExt (by rw [← HF.out]; exact words_any _ _ _ _ w' (S1.out.ext he') (S2.out.ext he') X1.out X2.out)) ?_
      · go_simp
      simp only [Act.put, List.setIfInBounds_toArray, List.set_cons_succ, List.set_cons_zero]
      refine lexK_take 1 (by kernel_rfl) ?_
      simp only [List.take_succ_cons, List.take_zero, List.drop_succ_cons, List.drop_zero]
      repeat (go_big_quiet_step (fail))
      refine wpQuiet_nil ?_
      refine lexK_nil ?_
      intro w7 he7 _
      clear hne t1 t2
      go_wp2
      go_ret
      exact ⟨rfl, he7⟩
  · have hx0 : 0 < x.length := by omega
    have hy0 : 0 < y.length := by omega
    have hne1 : x ≠ [] := fun h => by rw [h] at hx0; simp at hx0
    have hne2 : y ≠ [] := fun h => by rw [h] at hy0; simp at hy0
    obtain ⟨_, b1, o1, rfl, c1⟩ := HU.out.at hne1
    obtain ⟨_, b2, o2, rfl, c2⟩ := HV.out.at hne2
    have C1 := hide' c1
    have C2 := hide' c2
    obtain ⟨n1, HN1⟩ : ∃ n, Hid (x.length = n) := ⟨_, rfl⟩
    obtain ⟨n2, HN2⟩ : ∃ n, Hid (y.length = n) := ⟨_, rfl⟩
    have HX0 := hide' hx0
    have HY0 := hide' hy0
    rw [HN1.out] at hx hx0 C1 ⊢
    rw [HN2.out] at hy hy0 C2 ⊢
    clear c1 c2 hne1 hne2 h0 HU HV
    have d1 : ((n1 : Int) == 0) = false := by simp; omega
    have d2 : ((n2 : Int) == 0) = false := by simp; omega
    have z1 : (n1 : Int) ≠ 0 := by omega
    have z2 : (n2 : Int) ≠ 0 := by omega
    go_enter Tryz.func26, Tryz.ntmps26
    go_wp2
    go_loopw [5] (fun vk wr => ∃ (k : Nat), k ≤ n1 + n2 ∧ vk = .int .i64 k ∧ Hid (∀ l, l < k → atW x l = atW y l) ∧ ∃ m, wr = w.drewN m) (fun vk _ => n1 + n2 - (intOf vk).toNat)
    case atStart => exact ⟨0, Nat.zero_le _, rfl, (fun l hl => by omega), 0, rfl⟩
    case round =>
      obtain ⟨k, hk, rfl, HK, m, rfl⟩ := hrel
      by_cases hlt : k < n1 + n2
      · have hlt' : (k : Int) < (n1 : Int) + n2 := by omega
        have hi := Nat.mod_lt k hx0
        have hj := Nat.mod_lt k hy0
        have ci := C1.out (k % n1) hi
        have cj := C2.out (k % n2) hj
        have HP : Hid (x.getD (k % n1) 0 = atW x k) := by show _ = _; unfold atW; rw [HN1.out]
        have HQ : Hid (y.getD (k % n2) 0 = atW y k) := by show _ = _; unfold atW; rw [HN2.out]
        rw [HP.out] at ci
        rw [HQ.out] at cj
        have r1 : (k : Int).tmod (n1 : Int) = ((k % n1 : Nat) : Int) := by rw [Int.tmod_eq_emod_of_nonneg (by omega)]; simp
        have r2 : (k : Int) % (n1 : Int) = ((k % n1 : Nat) : Int) := by simp
        have r3 : (k : Int).tmod (n2 : Int) = ((k % n2 : Nat) : Int) := by rw [Int.tmod_eq_emod_of_nonneg (by omega)]; simp
        have r4 : (k : Int) % (n2 : Int) = ((k % n2 : Nat) : Int) := by simp
        obtain ⟨p, HPP⟩ : ∃ p, Hid (atW x k = p) := ⟨_, rfl⟩
        obtain ⟨q, HQQ⟩ : ∃ q, Hid (atW y k = q) := ⟨_, rfl⟩
        rw [HPP.out] at ci
        rw [HQQ.out] at cj
        clear HP HQ
        obtain ⟨i, hI⟩ : ∃ i, k % n1 = i := ⟨_, rfl⟩
        obtain ⟨j, hJ⟩ : ∃ j, k % n2 = j := ⟨_, rfl⟩
        rw [hI] at ci hi r1 r2
        rw [hJ] at cj hj r3 r4
        clear hI hJ
        have li : (i : Int) < n1 := by omega
        have lj : (j : Int) < n2 := by omega
        by_cases hpq : p = q
        · have HK' : Hid (∀ l, l < k + 1 → atW x l = atW y l) := fun l hl => by
            by_cases e : l = k
            · subst e; rw [HPP.out, HQQ.out, hpq]
            · exact HK.out l (by omega)
          subst hpq
          have e1 : decide (p < p) = false := by simp
          go_wp2_with fail
          go_quiet (fail)
          clear ci cj r1 r2 r3 r4
          go_wp2
          go_roundw
          case rel => exact ⟨k + 1, by omega, by go_num, HK', _, rfl⟩
          case measure => simp [intOf]; omega
        · have HR : Hid (omI x y = if p < q then -1 else 1) := by
            have := omI_other (u := x) (v := y) HX0.out HY0.out (m := k) (by rw [HN1.out, HN2.out]; exact hlt) HK.out (by rw [HPP.out, HQQ.out]; exact hpq)
            rw [HPP.out, HQQ.out] at this
            exact this
          by_cases hl2 : p < q
          · rw [if_pos hl2] at HR
            clear hpq
            go_wp2_with fail
            go_quiet (fail)
            clear ci cj r1 r2 r3 r4
            go_wp2
            go_ret
            rw [HR.out]
            exact ⟨rfl, Ext.drewN _ _⟩
          · rw [if_neg hl2] at HR
            have hl3 : q < p := by omega
            have e1 : decide (p < q) = false := by simpa using hl2
            clear hpq hl2
            go_wp2_with fail
            go_quiet (fail)
            clear ci cj r1 r2 r3 r4
            go_wp2
            go_ret
            rw [HR.out]
            exact ⟨rfl, Ext.drewN _ _⟩
      · have hlt' : decide ((k : Int) < (n1 : Int) + n2) = false := by simp; omega
        have HR : Hid (omI x y = 0) := omI_same HX0.out HY0.out (fun l hl => HK.out l (by rw [HN1.out, HN2.out] at hl; omega))
        go_wp2
        go_ret
        rw [HR.out]
        exact ⟨rfl, Ext.drewN _ _⟩
end Go.Proofs.YtlmbdafilboblaaGreat

/- As the text Krip, over whatever relation of worlds the operations keep: one walk in the order of the text serves every order. Over any program; no conditions. -/
namespace Go.Proofs.YtlmbdafilboblaaGreat
set_option linter.unusedVariables false
set_option linter.unusedSimpArgs false
open Go.RowKit

/-- A relation of worlds that what is known is stable under. -/
structure KRel where
  r : World → World → Prop
  refl : ∀ w, r w w
  trans : ∀ {a b c : World}, r a b → r b c → r a c
  drawn : ∀ w : World, r w { w with drawn := w.drawn + 1 }

namespace KR
def UpW (E : KRel) (G : World → Prop) : Prop := ∀ w w', E.r w w' → G w → G w'

section
variable {E : KRel} {P : Program} {ops : Array Oper} {md : Region.Mode} {S : FuncId → Array Value → Value → World → Prop} {w0 : World} {Q : Act → Facts → Prop}

def kUpon (E : KRel) (P : Program) (S : FuncId → Array Value → Value → World → Prop) (w : World) (R : Value → World → Prop) : Result Next → Prop
  | .ok (.value u) w' => E.r w w' ∧ R u w'
  | .ok .skip w' => E.r w w' ∧ R undef w'
  | .ok (.enter f args) w' => E.r w w' ∧ Calls P f args w' (fun e w'' => ∃ v, e = .returned v ∧ E.r w' w'' ∧ S f args v w'') ∧ (∀ v w'', S f args v w'' → R v w'')
  | _ => False

/-- From w0 on, whatever else has come: the operation yields a value of which R holds. -/
def KY (E : KRel) (P : Program) (ops : Array Oper) (S : FuncId → Array Value → Value → World → Prop) (w0 : World) (o : Oper) (a : Act) (F : Facts) (R : Value → World → Prop) : Prop :=
  (∀ v, UpW E (R v)) ∧
  ((Region.wanted o (yielded ops a.tmps) = true ∧ ∀ w, E.r w0 w → (∀ t ∈ o.looksAt ops, F t w) → kUpon E P S w R ((execOp a.eval o).run P w)) ∨
   (Region.wanted o (yielded ops a.tmps) = false ∧ R = fun v _ => v = undef))

def kStep (E : KRel) (P : Program) (ops : Array Oper) (S : FuncId → Array Value → Value → World → Prop) (w0 : World) (o : Oper) (a : Act) (F : Facts) (K : Act → Facts → Prop) : Prop :=
  ∃ R, KY E P ops S w0 o a F R ∧ ∀ v, (∃ w, E.r w0 w ∧ (∀ t, F t w) ∧ R v w) → K (a.put o.dst v) (F.add o.dst (R v))

def lexK (E : KRel) (P : Program) (ops : Array Oper) (S : FuncId → Array Value → Value → World → Prop) (w0 : World) (Q : Act → Facts → Prop) : List Oper → Act → Facts → Prop
  | [], a, F => Q a F
  | o :: rest, a, F => kStep E P ops S w0 o a F (lexK E P ops S w0 Q rest)

def kOp (E : KRel) (P : Program) (ops : Array Oper) (S : FuncId → Array Value → Value → World → Prop) (w0 : World) (i : Nat) (K : Act → Facts → Prop) (a : Act) (F : Facts) : Prop :=
  match ops[i]? with
  | none => K a F
  | some o => kStep E P ops S w0 o a F K

def anyK (E : KRel) (P : Program) (md : Region.Mode) (ops : Array Oper) (S : FuncId → Array Value → Value → World → Prop) (w0 : World) (Q : Act → Facts → Prop) : Nat → Array Bool → Act → Facts → Prop
  | 0, listed, a, F => Region.ready md ops listed = [] ∧ Q a F
  | fuel + 1, listed, a, F =>
    (Region.ready md ops listed = [] → Q a F) ∧
    ∀ i ∈ Region.ready md ops listed, kOp E P ops S w0 i (anyK E P md ops S w0 Q fuel (listed.setIfInBounds i true)) a F

theorem KY.anti {o : Oper} {a : Act} {F F' : Facts} (h : ∀ t w, F' t w → F t w) {R : Value → World → Prop} (hy : KY E P ops S w0 o a F R) : KY E P ops S w0 o a F' R := by
  refine ⟨hy.1, ?_⟩
  rcases hy.2 with ⟨hw, hk⟩ | hn
  · exact .inl ⟨hw, fun w he hf => hk w he fun t ht => h t w (hf t ht)⟩
  · exact .inr hn

theorem kStep_anti {o : Oper} {a : Act} {F F' : Facts} {K K' : Act → Facts → Prop} (hK : ∀ a F F', (∀ t w, F' t w → F t w) → K a F → K' a F') (h : ∀ t w, F' t w → F t w)
    (hh : kStep E P ops S w0 o a F K) : kStep E P ops S w0 o a F' K' := by
  obtain ⟨R, hy, hn⟩ := hh
  exact ⟨R, hy.anti h, fun v ⟨w, he, hf, hr⟩ => hK _ _ _ (Facts.add_anti h (fun _ x => x) _) (hn v ⟨w, he, fun t => h t w (hf t), hr⟩)⟩

theorem kOp_anti {i : Nat} {a : Act} {F F' : Facts} {K K' : Act → Facts → Prop} (hK : ∀ a F F', (∀ t w, F' t w → F t w) → K a F → K' a F') (h : ∀ t w, F' t w → F t w)
    (hh : kOp E P ops S w0 i K a F) : kOp E P ops S w0 i K' a F' := by
  unfold kOp at *
  cases ho : ops[i]? with
  | none => simp only [ho] at hh ⊢; exact hK _ _ _ h hh
  | some o => simp only [ho] at hh ⊢; exact kStep_anti hK h hh

theorem anyK_anti (hQ : ∀ a F F', (∀ t w, F' t w → F t w) → Q a F → Q a F') : ∀ (fuel : Nat) (listed : Array Bool) (a : Act) (F F' : Facts), (∀ t w, F' t w → F t w) →
    anyK E P md ops S w0 Q fuel listed a F → anyK E P md ops S w0 Q fuel listed a F'
  | 0, _, _, _, _, h, hh => ⟨hh.1, hQ _ _ _ h hh.2⟩
  | fuel + 1, _, _, _, _, h, hh => ⟨fun e => hQ _ _ _ h (hh.1 e), fun i hi => kOp_anti (fun a F F' h => anyK_anti hQ fuel _ a F F' h) h (hh.2 i hi)⟩

theorem wpAny_of_anyK {Q' : Exit → Act → World → Prop} (hQ : ∀ a F w, E.r w0 w → (∀ t, F t w) → Q a F → Q' .normal a w) : ∀ (fuel : Nat) (listed : Array Bool) (a : Act) (F : Facts) (w : World),
    E.r w0 w → (∀ t, UpW E (F t)) → (∀ t, F t w) → anyK E P md ops S w0 Q fuel listed a F → wpAny P md ops Q' fuel listed a w
  | 0, _, _, _, _, he, _, hf, h => ⟨h.1, hQ _ _ _ he hf h.2⟩
  | fuel + 1, listed, a, F, w, he, hup, hf, h => by
    refine ⟨fun e => hQ _ _ _ he hf (h.1 e), fun i hi => ?_⟩
    have h1 := h.2 i hi
    unfold kOp at h1
    unfold wpOp
    cases ho : ops[i]? with
    | none => simp only [ho] at h1 ⊢; exact wpAny_of_anyK hQ fuel _ _ _ _ he hup hf h1
    | some o =>
      simp only [ho] at h1 ⊢
      obtain ⟨R, ⟨hR, hy⟩, hn⟩ := h1
      have go : ∀ v w', E.r w w' → R v w' → wpAny P md ops Q' fuel (listed.setIfInBounds i true) (a.put o.dst v) w' := fun v w' hx hr =>
        wpAny_of_anyK hQ fuel _ _ _ _ (E.trans he hx) (fun t w1 w2 h12 hh => ⟨hup t w1 w2 h12 hh.1, fun e => hR v w1 w2 h12 (hh.2 e)⟩) (fun t => ⟨hup t w w' hx (hf t), fun _ => hr⟩)
          (hn v ⟨w', E.trans he hx, fun t => hup t w w' hx (hf t), hr⟩)
      rcases hy with ⟨hw, hk⟩ | ⟨hw, rfl⟩
      · rw [if_pos hw]
        refine .inl ?_
        have h2 := hk w he fun t _ => hf t
        unfold Oper.wp
        generalize (execOp a.eval o).run P w = r at *
        cases r with
        | ok n w' =>
          cases n <;> simp only [kUpon] at h2 <;> simp only [Oper.upon]
          case value u => exact go _ _ h2.1 h2.2
          case skip => exact go _ _ h2.1 h2.2
          case enter f args =>
            obtain ⟨h3, h4, h5⟩ := h2
            exact h4.mono fun e w'' ⟨v, hv, h6, h7⟩ => by subst hv; exact go _ _ (E.trans h3 h6) (h5 _ _ h7)
        | halt x w' => simp only [kUpon] at h2
      · rw [if_neg (by rw [hw]; exact Bool.false_ne_true)]
        exact go _ _ (E.refl _) rfl

theorem kUpon_all {ι : Type} (i0 : ι) {w : World} {R : ι → Value → World → Prop} {r : Result Next} (h : ∀ i, kUpon E P S w (R i) r) : kUpon E P S w (fun v w' => ∀ i, R i v w') r := by
  cases r with
  | halt x w' => exact (h i0).elim
  | ok n w' =>
    cases n with
    | value u => exact ⟨(h i0).1, fun i => (h i).2⟩
    | skip => exact ⟨(h i0).1, fun i => (h i).2⟩
    | enter f args => exact ⟨(h i0).1, (h i0).2.1, fun v w'' hs i => (h i).2.2 v w'' hs⟩
    | _ => exact (h i0).elim

theorem KY.of_same {o : Oper} {a a' : Act} {F F' : Facts} {R : Value → World → Prop} (hy : KY E P ops S w0 o a F R) (hF : ∀ w, ∀ t ∈ o.looksAt ops, F' t w → F t w) (he : execOp a'.eval o = execOp a.eval o)
    (hw : Region.wanted o (yielded ops a'.tmps) = Region.wanted o (yielded ops a.tmps)) : KY E P ops S w0 o a' F' R := by
  refine ⟨hy.1, ?_⟩
  rw [he, hw]
  rcases hy.2 with ⟨h1, h2⟩ | h1
  · exact .inl ⟨h1, fun w hx hf => h2 w hx fun t ht => hF w t ht (hf t ht)⟩
  · exact .inr h1

/-- In a world where all facts hold the operation yields some value. -/
theorem KY.some {o : Oper} {a : Act} {F : Facts} {R : Value → World → Prop} (hy : KY E P ops S w0 o a F R) (hup : ∀ t, UpW E (F t)) {w : World} (he : E.r w0 w) (hf : ∀ t, F t w) : ∃ v w', E.r w0 w' ∧ (∀ t, F t w') ∧ R v w' := by
  rcases hy.2 with ⟨_, h2⟩ | ⟨_, rfl⟩
  · have h3 := h2 w he fun t _ => hf t
    generalize (execOp a.eval o).run P w = r at *
    cases r with
    | halt x w' => exact h3.elim
    | ok n w' =>
      cases n with
      | value u => exact ⟨u, w', E.trans he h3.1, fun t => hup t _ _ h3.1 (hf t), h3.2⟩
      | skip => exact ⟨undef, w', E.trans he h3.1, fun t => hup t _ _ h3.1 (hf t), h3.2⟩
      | enter f args =>
        obtain ⟨h4, h5, h6⟩ := h3
        obtain ⟨e, w'', _, ⟨v, _, h7, h8⟩, _⟩ := h5 []
        exact ⟨v, w'', E.trans he (E.trans h4 h7), fun t => hup t _ _ (E.trans h4 h7) (hf t), h6 _ _ h8⟩
      | _ => exact h3.elim
  · exact ⟨undef, w, he, hf, rfl⟩

theorem anyK_first (hQ : ∀ a F F', (∀ t w, F' t w → F t w) → Q a F → Q a F') {i : Nat} {oi : Oper} (hi : ops[i]? = some oi) (hsel : ∀ (j : Nat) (o : Oper) cs b, ops[j]? = some o → o.op ≠ .select cs b)
    (hdst : ∀ (j : Nat) (o : Oper), ops[j]? = some o → ∃ d, o.dst = Option.some d) :
    ∀ (fuel : Nat) (listed : Array Bool) (a : Act) (F : Facts) (R : Value → World → Prop),
      (∀ j oj, ops[j]? = some oj → j ≠ i → listed.getD j true = false → (∀ e ∈ oj.after, Region.binds md e = true → e.on ≠ i) → oi.apart ops oj = true) →
      i ∈ Region.ready md ops listed → KY E P ops S w0 oi a F R → (∀ t, UpW E (F t)) → (∃ w, E.r w0 w ∧ ∀ t, F t w) →
      (∀ v, (∃ w, E.r w0 w ∧ (∀ t, F t w) ∧ R v w) → anyK E P md ops S w0 Q fuel (listed.setIfInBounds i true) (a.put oi.dst v) (F.add oi.dst (R v))) →
      anyK E P md ops S w0 Q (fuel + 1) listed a F := by
  intro fuel
  induction fuel with
  | zero =>
    intro listed a F R _ hr hy hup ⟨w, hw, hf⟩ H
    refine ⟨fun h => (by rw [h] at hr; cases hr), fun j hj => ?_⟩
    by_cases hji : j = i
    · subst hji; unfold kOp; simp only [hi]; exact ⟨R, hy, H⟩
    · obtain ⟨v, w', h1, h2, h3⟩ := hy.some hup hw hf
      have := ready_mono hj hji
      rw [(H v ⟨w', h1, h2, h3⟩).1] at this
      cases this
  | succ fuel ih =>
    intro listed a F R hfree hr hy hup ⟨w, hw, hf⟩ H
    refine ⟨fun h => (by rw [h] at hr; cases hr), fun j hj => ?_⟩
    by_cases hji : j = i
    · subst hji; unfold kOp; simp only [hi]; exact ⟨R, hy, H⟩
    · obtain ⟨hjun, oj, hoj, hall⟩ := mem_ready.1 hj
      have hnot : ∀ e ∈ oj.after, Region.binds md e = true → e.on ≠ i := fun e he hb heq => by
        have h1 := hall e he hb
        have h0 := (mem_ready.1 hr).1
        rw [heq] at h1
        rcases Nat.lt_or_ge i listed.size with h' | h'
        · simp [h'] at h0 h1; rw [h0] at h1; cases h1
        · simp [Array.getElem?_eq_none h'] at h1
      have hap := hfree j oj hoj hji hjun hnot
      obtain ⟨p1, p2, p3⟩ := Oper.apart_spec hap
      have hsi : ∀ cs b, oi.op ≠ .select cs b := fun cs b => hsel i oi cs b hi
      have hsj : ∀ cs b, oj.op ≠ .select cs b := fun cs b => hsel j oj cs b hoj
      -- what each value of 'oi' says of 'oj'
      have H1 : ∀ v : { v // ∃ w, E.r w0 w ∧ (∀ t, F t w) ∧ R v w }, kStep E P ops S w0 oj (a.put oi.dst v.1) (F.add oi.dst (R v.1)) (anyK E P md ops S w0 Q fuel ((listed.setIfInBounds i true).setIfInBounds j true)) := fun v => by
        have h1 := (H v.1 v.2).2 j (ready_mono hj hji)
        unfold kOp at h1
        simpa only [hoj] using h1
      obtain ⟨v0, w', e1, e2, e3⟩ := hy.some hup hw hf
      let i0 : { v // ∃ w, E.r w0 w ∧ (∀ t, F t w) ∧ R v w } := ⟨v0, w', e1, e2, e3⟩
      let Rj : { v // ∃ w, E.r w0 w ∧ (∀ t, F t w) ∧ R v w } → Value → World → Prop := fun v => Classical.choose (H1 v)
      have HRj : ∀ v, KY E P ops S w0 oj (a.put oi.dst v.1) (F.add oi.dst (R v.1)) (Rj v) ∧ ∀ u, (∃ w, E.r w0 w ∧ (∀ t, (F.add oi.dst (R v.1)) t w) ∧ Rj v u w) →
          anyK E P md ops S w0 Q fuel ((listed.setIfInBounds i true).setIfInBounds j true) ((a.put oi.dst v.1).put oj.dst u) ((F.add oi.dst (R v.1)).add oj.dst (Rj v u)) := fun v => Classical.choose_spec (H1 v)
      have hyj : ∀ v, KY E P ops S w0 oj a F (Rj v) := fun v => (HRj v).1.of_same (fun w t ht hft => ⟨hft, fun e => absurd ht (p1 t e)⟩) (execOp_put oj hsj a oi.dst v.1 p1).symm (wanted_put oj a oi.dst v.1 p1).symm
      unfold kOp
      simp only [hoj]
      refine ⟨fun u w => ∀ v, Rj v u w, ⟨fun u w1 w2 h12 hh v => (hyj v).1 u w1 w2 h12 (hh v), ?_⟩, fun u hu => ?_⟩
      · by_cases hwant : Region.wanted oj (yielded ops a.tmps) = true
        · refine .inl ⟨hwant, fun w1 hx hf1 => kUpon_all i0 fun v => ?_⟩
          rcases (hyj v).2 with ⟨_, h2⟩ | ⟨h2, _⟩
          · exact h2 w1 hx hf1
          · rw [hwant] at h2; cases h2
        · have hwf : Region.wanted oj (yielded ops a.tmps) = false := by simpa using hwant
          refine .inr ⟨hwf, ?_⟩
          funext u w1
          have : ∀ v, Rj v = fun v _ => v = undef := fun v => by
            rcases (hyj v).2 with ⟨h2, _⟩ | ⟨_, h2⟩
            · rw [hwf] at h2; cases h2
            · exact h2
          simp only [this, eq_iff_iff]
          exact ⟨fun h => h i0, fun h _ => h⟩
      · obtain ⟨w1, f1, f2, f3⟩ := hu
        have hfree' : ∀ k ok, ops[k]? = some ok → k ≠ i → (listed.setIfInBounds j true).getD k true = false →
            (∀ e ∈ ok.after, Region.binds md e = true → e.on ≠ i) → oi.apart ops ok = true := fun k ok hk hki hun hno => by
          refine hfree k ok hk hki ?_ hno
          by_cases hjk : j = k
          · subst hjk; exact hjun
          · rw [getD_set_ne true hjk] at hun; exact hun
        refine ih (listed.setIfInBounds j true) (a.put oj.dst u) (F.add oj.dst fun w => ∀ v, Rj v u w) R hfree' (ready_mono hr (Ne.symm hji)) ?_ ?_ ⟨w1, f1, fun t => ⟨f2 t, fun _ => f3⟩⟩ ?_
        · exact hy.of_same (fun w t ht hft => hft.1) (execOp_put oi hsi a oj.dst u p3) (wanted_put oi a oj.dst u p3)
        · exact fun t w2 w3 h23 hh => ⟨hup t w2 w3 h23 hh.1, fun e v => (hyj v).1 u w2 w3 h23 (hh.2 e v)⟩
        · intro v ⟨w2, g1, g2, g3⟩
          have hv : ∃ w, E.r w0 w ∧ (∀ t, F t w) ∧ R v w := ⟨w2, g1, fun t => (g2 t).1, g3⟩
          obtain ⟨d, hd⟩ := hdst j oj hoj
          have h3 := (HRj ⟨v, hv⟩).2 u ⟨w2, g1, fun t => ⟨(g2 t).1, fun _ => g3⟩, (g2 d).2 hd ⟨v, hv⟩⟩
          rw [Array.setIfInBounds_comm _ _ (Ne.symm hji), Act.put_comm a v u p2] at h3
          refine anyK_anti hQ _ _ _ _ _ ?_ h3
          intro t w3 hh
          exact ⟨⟨hh.1.1, hh.2⟩, fun e => hh.1.2 e ⟨v, hv⟩⟩

theorem anyK_lex (hQ : ∀ a F F', (∀ t w, F' t w → F t w) → Q a F → Q a F') (hs : Region.noSelect ops = true) (hdst : ∀ (j : Nat) (o : Oper), ops[j]? = some o → ∃ d, o.dst = Option.some d) :
    ∀ (l : List Oper) (k : Nat) (listed : Array Bool) (a : Act) (F : Facts), (∀ j, l[j]? = ops[k + j]?) → Region.lexFrom md ops l.length k listed = true → (∀ t, UpW E (F t)) → (∃ w, E.r w0 w ∧ ∀ t, F t w) →
      lexK E P ops S w0 Q l a F → anyK E P md ops S w0 Q l.length listed a F
  | [], _, _, _, _, _, hB, _, _, h => ⟨by simpa [Region.lexFrom] using hB, h⟩
  | o :: l, k, listed, a, F, hl, hB, hup, hcon, h => by
    have h0 : ops[k]? = Option.some o := by simpa using (hl 0).symm
    simp only [List.length_cons, Region.lexFrom, Bool.and_eq_true] at hB
    obtain ⟨⟨hr, hf⟩, hB'⟩ := hB
    obtain ⟨R, hy, hn⟩ := h
    refine anyK_first hQ h0 (Region.noSelect_spec hs) hdst l.length listed a F R (Region.free_spec h0 hf) (by simpa using hr) hy hup hcon fun v ⟨w, g1, g2, g3⟩ => ?_
    refine anyK_lex hQ hs hdst l (k + 1) _ _ _ (fun j => by have := hl (j + 1); simpa [Nat.add_assoc, Nat.add_comm 1 j] using this) hB' ?_ ⟨w, g1, fun t => ⟨g2 t, fun _ => g3⟩⟩ (hn v ⟨w, g1, g2, g3⟩)
    exact fun t w2 w3 h23 hh => ⟨hup t w2 w3 h23 hh.1, fun e => hy.1 v w2 w3 h23 (hh.2 e)⟩

/-- What stands behind a region. -/
def endK (E : KRel) (Q' : Exit → Act → World → Prop) (w : World) (a' : Act) (F : Facts) : Prop := ∀ w', E.r w w' → (∀ t, F t w') → Q' .normal a' w'

/-- ONE WALK IN THE ORDER OF THE TEXT: what stands behind is asked in every later world in which the facts hold. -/
theorem wp_region_k (S : FuncId → Array Value → Value → World → Prop) {id : Nat} {Q' : Exit → Act → World → Prop} {a : Act} {w : World} {l : List Oper} (hm : P.follows .mixedOrders = true)
    (hB : Region.lexB .any l.toArray = true) (hd : l.all (fun o => o.dst.isSome) = true)
    (h : lexK E P l.toArray S w (endK E Q' w) l a (fun _ _ => True)) : (Code.region id l.toArray true).wp P Q' a w := by
  simp only [Region.lexB, Bool.and_eq_true] at hB
  refine wp_region_any hm (wpAny_of_anyK (w0 := w) (Q := fun a' F => ∀ w', E.r w w' → (∀ t, F t w') → Q' .normal a' w') (S := S) (fun a F w' he hf hq => hq w' he hf) _ _ _ (fun _ _ => True) _ (E.drawn w) (fun _ _ _ _ _ => trivial) (fun _ => trivial) ?_)
  have hdst : ∀ (j : Nat) (o : Oper), l.toArray[j]? = Option.some o → ∃ d, o.dst = Option.some d := fun j o ho => by
    have := List.all_eq_true.1 hd o (by simpa using Array.mem_of_getElem? ho)
    exact Option.isSome_iff_exists.1 this
  have := anyK_lex (P := P) (S := S) (w0 := w) (md := .any) (Q := fun a' F => ∀ w', E.r w w' → (∀ t, F t w') → Q' .normal a' w') (fun a F F' hx hq w' he hf => hq w' he fun t => hx t w' (hf t)) hB.1 hdst l 0 (Array.replicate l.toArray.size false) a (fun _ _ => True)
    (by simp) (by simpa using hB.2) (fun _ _ _ _ _ => trivial) ⟨w, E.refl _, fun _ => trivial⟩ h
  simpa using this

theorem lexK_anti (hQ : ∀ a F F', (∀ t w, F' t w → F t w) → Q a F → Q a F') : ∀ (l : List Oper) (a : Act) (F F' : Facts), (∀ t w, F' t w → F t w) → lexK E P ops S w0 Q l a F → lexK E P ops S w0 Q l a F'
  | [], _, _, _, h, hh => hQ _ _ _ h hh
  | _ :: l, _, _, _, h, hh => kStep_anti (fun a F F' h => lexK_anti hQ l a F F' h) h hh

theorem endK_anti {Q' : Exit → Act → World → Prop} (a : Act) (F F' : Facts) (h : ∀ t w, F' t w → F t w) (hh : endK E Q' w0 a F) : endK E Q' w0 a F' :=
  fun w' he hf => hh w' he fun t => h t w' (hf t)

/-- A world later than w0. -/
structure Later (E : KRel) (w0 : World) where
  val : World
  ext : E.r w0 val

/-- One of the operations that only read or reckon. -/
def plainOp (o : Oper) : Bool :=
  match o.op with
  | .move _ | .assign _ | .pick .. | .load .. | .binOp .. | .unOp .. | .convert .. | .slice .. | .fieldAddr .. | .field .. | .indexAddr .. | .index .. | .extract .. | .lookup .. | .nilCheck .. => true
  | .call c => (match c.callee with | .builtin .len => true | .builtin .cap => true | .builtin .min => true | .builtin .max => true | _ => false)
  | _ => false

variable {Q' : Exit → Act → World → Prop}

/-- One operation whose value is known. -/
theorem lexK_val {o : Oper} {rest : List Oper} {a : Act} {F : Facts} (u : Value) (hw : Region.wanted o (yielded ops a.tmps) = true)
    (hrun : ∀ w, E.r w0 w → (∀ t ∈ o.looksAt ops, F t w) → (execOp a.eval o).run P w = .ok (.value u) w)
    (hn : lexK E P ops S w0 (endK E Q' w0) rest (a.put o.dst u) F) : lexK E P ops S w0 (endK E Q' w0) (o :: rest) a F := by
  refine ⟨fun v _ => v = u, ⟨fun _ _ _ _ h => h, .inl ⟨hw, fun w he hf => by rw [hrun w he hf]; exact ⟨E.refl _, rfl⟩⟩⟩, ?_⟩
  rintro v ⟨_, _, _, rfl⟩
  exact lexK_anti endK_anti _ _ _ _ (fun _ _ h => h.1) hn

theorem lexK_skip {o : Oper} {rest : List Oper} {a : Act} {F : Facts} (hw : Region.wanted o (yielded ops a.tmps) = false)
    (hn : lexK E P ops S w0 (endK E Q' w0) rest (a.put o.dst undef) F) : lexK E P ops S w0 (endK E Q' w0) (o :: rest) a F := by
  refine ⟨fun v _ => v = undef, ⟨fun _ _ _ _ h => h, .inr ⟨hw, rfl⟩⟩, ?_⟩
  rintro v ⟨_, _, _, rfl⟩
  exact lexK_anti endK_anti _ _ _ _ (fun _ _ h => h.1) hn

/-- One operation that leaves something of which R holds. -/
theorem lexK_some {o : Oper} {rest : List Oper} {a : Act} {F : Facts} (R : Value → World → Prop) (hR : ∀ v, UpW E (R v)) (hw : Region.wanted o (yielded ops a.tmps) = true)
    (hrun : ∀ w, E.r w0 w → (∀ t ∈ o.looksAt ops, F t w) → ∃ u w', (execOp a.eval o).run P w = .ok (.value u) w' ∧ E.r w w' ∧ R u w')
    (hn : ∀ v w, E.r w0 w → (∀ t, F t w) → R v w → lexK E P ops S w0 (endK E Q' w0) rest (a.put o.dst v) (F.add o.dst (R v))) : lexK E P ops S w0 (endK E Q' w0) (o :: rest) a F := by
  refine ⟨R, ⟨hR, .inl ⟨hw, fun w he hf => ?_⟩⟩, fun v ⟨w, h1, h2, h3⟩ => hn v w h1 h2 h3⟩
  obtain ⟨u, w', h1, h2, h3⟩ := hrun w he hf
  rw [h1]
  exact ⟨h2, h3⟩

/-- A call of a Go function. -/
theorem lexK_call {o : Oper} {rest : List Oper} {a : Act} {F : Facts} (f : FuncId) (args : Array Value) (hS : ∀ v, UpW E (S f args v)) (hw : Region.wanted o (yielded ops a.tmps) = true)
    (hrun : ∀ w, (execOp a.eval o).run P w = .ok (.enter f args) w)
    (hc : ∀ w, E.r w0 w → (∀ t ∈ o.looksAt ops, F t w) → Calls P f args w fun e w'' => ∃ v, e = .returned v ∧ E.r w w'' ∧ S f args v w'')
    (hn : ∀ v w, E.r w0 w → (∀ t, F t w) → S f args v w → lexK E P ops S w0 (endK E Q' w0) rest (a.put o.dst v) (F.add o.dst (S f args v))) : lexK E P ops S w0 (endK E Q' w0) (o :: rest) a F := by
  refine ⟨S f args, ⟨hS, .inl ⟨hw, fun w he hf => ?_⟩⟩, fun v ⟨w, h1, h2, h3⟩ => hn v w h1 h2 h3⟩
  rw [hrun w]
  exact ⟨E.refl _, hc w he hf, fun _ _ h => h⟩

/-- A call of a Go function that hands back one known value. -/
theorem lexK_call1 {o : Oper} {rest : List Oper} {a : Act} {F : Facts} (f : FuncId) (args : Array Value) (u : Value) (hS : ∀ v w, S f args v w ↔ v = u) (hw : Region.wanted o (yielded ops a.tmps) = true)
    (hrun : ∀ w, (execOp a.eval o).run P w = .ok (.enter f args) w)
    (hc : ∀ w, E.r w0 w → (∀ t ∈ o.looksAt ops, F t w) → Calls P f args w fun e w'' => e = .returned u ∧ E.r w w'')
    (hn : lexK E P ops S w0 (endK E Q' w0) rest (a.put o.dst u) F) : lexK E P ops S w0 (endK E Q' w0) (o :: rest) a F := by
  refine lexK_call f args (fun v w w' _ h => (hS v w').2 ((hS v w).1 h)) hw hrun (fun w he hf => (hc w he hf).mono fun e w'' ⟨h1, h2⟩ => ⟨u, h1, h2, (hS u w'').2 rfl⟩) ?_
  intro v w _ _ h
  rw [(hS v w).1 h]
  exact lexK_anti endK_anti _ _ _ _ (fun _ _ h => h.1) hn

theorem bind_value_ne {s : Sem Value} {w w' : World} {f : FuncId} {args : Array Value} : (do pure (Next.value (← s)) : Sem Next).run P w ≠ .ok (.enter f args) w' := by
  simp only [Sem.run_bind]
  cases s.run P w with
  | ok a w1 => simp [Result.andThen]
  | halt x w1 => simp [Result.andThen]

theorem andThen_ne {α β : Type} {r : Result α} {g : α → World → Result β} {b : β} {w' : World} (h : ∀ a w1, g a w1 ≠ .ok b w') : r.andThen g ≠ .ok b w' := by
  cases r with
  | ok a w1 => exact h a w1
  | halt x w1 => simp [Result.andThen]

theorem run_value_of_plain {o : Oper} {ρ : Operand → Value} {w w' : World} {f : FuncId} {args : Array Value} (h : plainOp o = true) : (execOp ρ o).run P w ≠ .ok (.enter f args) w' := by
  unfold plainOp at h
  unfold execOp
  cases ho : o.op <;> simp only [ho] at h <;> simp only [] <;> first | exact bind_value_ne | (simp; done) | skip
  case call c =>
    cases hc : c.callee <;> simp only [hc] at h
    case builtin b =>
      simp only [resolve, hc, invoke]
      cases b <;> simp at h <;> simp only [builtin] <;> exact bind_value_ne
    all_goals simp at h
  case pick c a b =>
    simp only [Sem.run_bind]
    cases (asBool (ρ c)).run P w with
    | ok a w1 => simp [Result.andThen]
    | halt x w1 => simp [Result.andThen]
  case nilCheck x =>
    have hp : (runtimePanic (α := Next) .nilDeref).run P w ≠ .ok (.enter f args) w' := by simp [runtimePanic, goPanic]
    split
    · exact hp
    · exact hp
    · exact hp
    · split
      · exact hp
      · simp only [Sem.run_bind]
        refine andThen_ne fun a1 w1 => andThen_ne fun a2 w2 => ?_
        split
        · simp [unsupported]
        · simp
      · simp
    · simp
  all_goals simp at h

/-- So many operations that only read: the kit's quiet walk, over all later worlds. -/
theorem lexK_quiet {F : Facts} : ∀ (l rest : List Oper) (a : Act), l.all plainOp = true →
    wpQuiet P ops (fun w' => ∃ l : Later E w0, w' = l.val) (fun a' => lexK E P ops S w0 (endK E Q' w0) rest a' F) l a → lexK E P ops S w0 (endK E Q' w0) (l ++ rest) a F
  | [], _, _, _, h => h
  | o :: l, rest, a, hp, h => by
    simp only [List.all_cons, Bool.and_eq_true] at hp
    unfold wpQuiet at h
    split at h
    · rename_i hw
      obtain ⟨u, h1, h2⟩ := h
      refine ⟨fun v _ => v = u, ⟨fun _ _ _ _ h => h, .inl ⟨hw, fun w he hf => ?_⟩⟩, fun v ⟨_, _, _, hv⟩ => by subst hv; exact lexK_anti endK_anti _ _ _ _ (fun _ _ h => h.1) (lexK_quiet l rest _ hp.2 h2)⟩
      have h3 := h1 w ⟨⟨w, he⟩, rfl⟩
      unfold Oper.quietAt at h3
      have hne := fun f args w' => run_value_of_plain (P := P) (o := o) (ρ := a.eval) (w := w) (w' := w') (f := f) (args := args) hp.1
      generalize (execOp a.eval o).run P w = r at *
      cases r with
      | halt x w' => simp only [Oper.quietUpon] at h3
      | ok n w' =>
        cases n <;> simp only [Oper.quietUpon] at h3
        case value v => obtain ⟨rfl, rfl⟩ := h3; exact ⟨E.refl _, rfl⟩
        case skip => obtain ⟨rfl, rfl⟩ := h3; exact ⟨E.refl _, rfl⟩
        case enter f args => exact absurd rfl (hne f args w')
    · rename_i hw
      exact lexK_skip (by simpa using hw) (lexK_quiet l rest _ hp.2 h)

theorem lexK_take (n : Nat) {F : Facts} {l : List Oper} {a : Act} (hp : (l.take n).all plainOp = true)
    (h : wpQuiet P ops (fun w' => ∃ l : Later E w0, w' = l.val) (fun a' => lexK E P ops S w0 (endK E Q' w0) (l.drop n) a' F) (l.take n) a) : lexK E P ops S w0 (endK E Q' w0) l a F := by
  have := lexK_quiet (l.take n) (l.drop n) a hp h
  rwa [List.take_append_drop] at this

theorem lexK_nil {F : Facts} {a : Act} (h : ∀ w', E.r w0 w' → (∀ t, F t w') → Q' .normal a w') : lexK E P ops S w0 (endK E Q' w0) [] a F := h

end

theorem later_some (E : KRel) (w : World) : Nonempty (Later E w) := ⟨⟨w, E.refl _⟩⟩
end KR
end Go.Proofs.YtlmbdafilboblaaGreat

/- An append within a region that draws its order: one block may turn into one known row, once; all else that there was is as it was. Over any program; no conditions. -/
namespace Go.Proofs.YtlmbdafilboblaaGreat
set_option linter.unusedVariables false
set_option linter.unusedSimpArgs false
open Go.RowKit

/-- All that there was is as it was, but that the block of 'go' may have become what 'go' says. -/
structure ExtG (go : Option (Nat × Obj)) (w w' : World) : Prop where
  os : w'.os = w.os
  tape : w'.tape = w.tape
  output : w'.output = w.output
  size : w.heap.size ≤ w'.heap.size
  block : ∀ k, k < w.heap.size → w'.heap[k]? = w.heap[k]? ∨ ∃ o, go = some (k, o) ∧ w'.heap[k]? = some o

section
variable {go : Option (Nat × Obj)} {a b c w w' : World}
theorem ExtG.refl (w : World) : ExtG go w w := ⟨rfl, rfl, rfl, Nat.le_refl _, fun _ _ => .inl rfl⟩
theorem ExtG.trans (h : ExtG go a b) (k : ExtG go b c) : ExtG go a c := by
  refine ⟨k.os.trans h.os, k.tape.trans h.tape, k.output.trans h.output, Nat.le_trans h.size k.size, fun i hi => ?_⟩
  rcases k.block i (Nat.lt_of_lt_of_le hi h.size) with e | e
  · rcases h.block i hi with e' | ⟨o, h1, h2⟩
    · exact .inl (e.trans e')
    · exact .inr ⟨o, h1, e.trans h2⟩
  · exact .inr e
def grel (go : Option (Nat × Obj)) : KRel := ⟨ExtG go, ExtG.refl, ExtG.trans, fun w => ⟨rfl, rfl, rfl, Nat.le_refl _, fun _ _ => .inl rfl⟩⟩
theorem ExtG.ofExt (h : Ext w w') : ExtG go w w' := ⟨h.os, h.tape, h.output, h.size, fun k hk => .inl (h.block k hk)⟩
theorem ExtG.below {B : Nat} (h : ExtG go w w') (hgo : ∀ k o, go = some (k, o) → B ≤ k) (hB : B ≤ w.heap.size) : Below B w w' :=
  ⟨h.os, h.tape, h.output, h.size, fun k hk => by
    rcases h.block k (by omega) with e | ⟨o, h1, _⟩
    · exact e
    · have := hgo k o h1; omega⟩
theorem ExtG.ext (h : ExtG none w w') : Ext w w' := ⟨h.os, h.tape, h.output, h.size, fun k hk => by
    rcases h.block k hk with e | ⟨o, h1, _⟩
    · exact e
    · cases h1⟩
end

theorem Sl.newRow {k : IntKind} {e : TypeId} (w : World) (zs : List Int) (r : Array Value) (n c : Nat) (hn : n = zs.length) (hc : n ≤ c) (hm : c ≤ maxLen) :
    Sl k (w.drew.alloc (.cells ((zs.map (Value.int k)).toArray ++ r) e)) (.slice (some ⟨w.heap.size, 0, none⟩) n c) zs := by
  subst hn
  refine ⟨_, c, rfl, hc, hm, (fun h => by cases h), .inr ⟨w.heap.size, 0, rfl, fun i hi => ?_⟩⟩
  have h : (w.drew.alloc (.cells ((zs.map (Value.int k)).toArray ++ r) e)).heap[w.heap.size]? = some (.cells ((zs.map (Value.int k)).toArray ++ r) e) := heap_alloc_new w.drew _
  simp only [World.cell?, h]
  rw [Nat.zero_add, Array.getElem?_append_left (by simpa using hi)]
  simp [hi]

theorem Sl.newsOf {k : IntKind} {w : World} {ad : Addr} {n c : Nat} {ys : List Int} (h : Sl k w (.slice (some ad) n c) ys) : ys.length = n ∧ ∀ j u, (ys.map (Value.int k))[j]? = some u → w.cell? (ad.add j) = some u := by
  obtain ⟨a', c', h1, h2, h3, h4, h5⟩ := h
  simp only [Value.slice.injEq] at h1
  obtain ⟨rfl, rfl, rfl⟩ := h1
  refine ⟨rfl, fun j u hj => ?_⟩
  rcases h5 with rfl | ⟨b, off, hb, h6⟩
  · simp at hj
  · simp only [Option.some.injEq] at hb
    subst hb
    have hjl : j < ys.length := by
      rcases Nat.lt_or_ge j ys.length with g | g
      · exact g
      · simp [List.getElem?_eq_none (show (ys.map (Value.int k)).length ≤ j by simpa using g)] at hj
    rw [Go.WideShapes.add_plain, h6 j hjl]
    simp [List.getElem?_eq_getElem hjl] at hj
    subst hj
    simp [List.getD, List.getElem?_eq_getElem hjl]

/-- 'append(v, x...)', v the call's own, in whatever order with what else the region does. -/
theorem append_G {P : Program} {k : IntKind} (w0 : World) (B : Nat) (t e : TypeId) (bytes : Nat) (ht : P.underlying t = some (.slice e))
    (hinfo : (P.info? e).map (fun i => (i.zero, i.size, i.bytes)) = some (some (.int k 0), 1, bytes)) (v x : Value) (acc ys : List Int)
    (hown : Own k e B w0 v acc) (hx : Sl k w0 x ys) (hap : ys = [] ∨ ∀ g ad n c, v.ownBlock = some g → x = .slice (some ad) n c → ad.block ≠ g)
    (hlen : (acc.length + ys.length) * bytes ≤ 140737488355328 ∧ acc.length + ys.length ≤ maxLen) (hB : B ≤ w0.heap.size) :
    ∃ go, (∀ k o, go = some (k, o) → B ≤ k) ∧ ∀ ty w, ExtG go w0 w → ∃ u w', (Builtin.append_ #[t, t] ty #[v, x]).run P w = .ok u w' ∧ ExtG go w w' ∧ ∀ w'', ExtG go w' w'' → Sl k w'' u (acc ++ ys) := by
  obtain ⟨i0, hi, hz0, hz1, hz2⟩ := info_parts hinfo
  have hsmall : acc.length + ys.length ≤ 9223372036854775807 := by have := hlen.2; simp only [maxLen] at this; omega
  obtain ⟨ad, c, hxs, hx1, hx2, hx3, hx4⟩ := id hx
  cases ad with
  | none =>
    have hc := hx3 rfl
    subst hc
    have hy : ys = [] := List.length_eq_zero_iff.1 (by omega)
    subst hy
    subst hxs
    refine ⟨none, fun k o h => (by cases h), fun ty w hw => ⟨v, w, ?_, ExtG.refl _, fun w'' hw'' => ?_⟩⟩
    · exact run_append_owned_none (P := P) (w := w) B t ty e i0 1 ht hi v _ _ (hown.ext hw.ext)
    · rw [List.append_nil]; exact ((hown.ext hw.ext).ext hw''.ext).sl
  | some ad =>
    subst hxs
    have keep : ∀ w : World, Ext w0 w → ∀ j u, (ys.map (Value.int k))[j]? = some u → w.cell? (ad.add j) = some u := fun w hw => (hx.ext hw).newsOf.2
    have news : ∀ w : World, (∀ j u, (ys.map (Value.int k))[j]? = some u → w.cell? (ad.add j) = some u) → True := fun _ _ => trivial
    have hmap : (acc ++ ys).map (Value.int k) = acc.map (Value.int k) ++ ys.map (Value.int k) := List.map_append
    -- a new row
    have new : ∀ (w : World) (cap : Nat), acc.length + ys.length ≤ cap → cap ≤ maxLen → ∀ r : Array Value, ∀ w'', Ext (w.drew.alloc (.cells ((acc.map (Value.int k)).toArray ++ (ys.map (Value.int k)).toArray ++ r) e)) w'' →
        Sl k w'' (.slice (some ⟨w.heap.size, 0, none⟩) (acc.length + ys.length) cap) (acc ++ ys) := fun w cap h1 h2 r w'' hw'' => by
      have := Sl.newRow (k := k) (e := e) w (acc ++ ys) r (acc.length + ys.length) cap (by simp) h1 h2
      rw [hmap, show ((acc.map (Value.int k) ++ ys.map (Value.int k)).toArray : Array Value) = (acc.map (Value.int k)).toArray ++ (ys.map (Value.int k)).toArray by simp] at this
      exact this.ext hw''
    rcases hown.2 with ⟨rfl, h0⟩ | ⟨g, cap, cur, rfl, hbg, hg, hnc, hcm, hcs, htake⟩
    · have ha : acc = [] := List.length_eq_zero_iff.1 h0
      subst ha
      by_cases hm : ys.length = 0
      · have hy : ys = [] := List.length_eq_zero_iff.1 hm
        subst hy
        refine ⟨none, fun k o h => (by cases h), fun ty w hw => ⟨.slice none 0 0, w, ?_, ExtG.refl _, fun w'' hw'' => ?_⟩⟩
        · simp [Builtin.append_, run_underlying ht, sizeOf, typeInfo, hi, Builtin.lenOf, Builtin.firstCells, loadCells, loadCellsFrom]
        · exact (Own.nil k e B w'').sl
      · refine ⟨none, fun k o h => (by cases h), fun ty w hw => ?_⟩
        have hr := run_append_nil (P := P) w t ty e i0 (.int k 0) ht hi hz0 ad ys.length c (ys.map (Value.int k)) (by simp [hz1]) (keep w hw.ext) (by omega) (by simp at hsmall; omega) (by rw [hz2]; have := hlen.1; simp at this; omega)
        refine ⟨_, _, hr, ExtG.ofExt ⟨rfl, rfl, rfl, by simp, fun j hj => heap_alloc_old w.drew _ hj⟩, fun w'' hw'' => ?_⟩
        have hge := grownCap_ge w ys.length 0 e
        have hcm : grownCap w ys.length 0 e ≤ maxLen := grownCap_le_maxLen w ys.length 0 e (by have := hlen.2; simpa using this)
        have := new w (grownCap w ys.length 0 e) (by simpa using hge) hcm (Builtin.zeroCells (Value.int k 0).cells (grownCap w ys.length 0 e - ys.length)) w'' (by simpa using hw''.ext)
        simpa using this
    · by_cases hroom : acc.length + ys.length ≤ cap
      · -- there is room: the row becomes one known row
        have hne : ys = [] ∨ ad.block ≠ g := by
          rcases hap with h | h
          · exact .inl h
          · exact .inr (h g ad _ _ rfl rfl)
        have hrow : ∀ cur' : Array Value, (cur'.toList.take acc.length ++ ys.map (Value.int k) ++ cur'.toList.drop (acc.length + ys.length)) = (cur'.toList.take acc.length ++ (ys.map (Value.int k) ++ cur'.toList.drop (acc.length + ys.length))) := fun _ => List.append_assoc _ _ _
        have hcs' : cur.size = cap := by simpa using hcs
        have htk : cur.toList.take acc.length = acc.map (Value.int k) := by simpa using htake
        let row : List Value := acc.map (Value.int k) ++ ys.map (Value.int k) ++ cur.toList.drop (acc.length + ys.length)
        have hrl : row.length = cap := by simp [row]; omega
        refine ⟨some (g, .cells row.toArray e (0, 0)), fun j o h => ?_, fun ty w hw => ?_⟩
        · simp only [Option.some.injEq, Prod.mk.injEq] at h; omega
        have hgl : g < w0.heap.size := (Array.getElem?_eq_some_iff.1 hg).1
        obtain ⟨cur', hg', hs', ht', hd'⟩ : ∃ cur' : Array Value, w.heap[g]? = some (.cells cur' e (0, 0)) ∧ cur'.size = cap ∧ cur'.toList.take acc.length = acc.map (Value.int k) ∧ cur'.toList.drop (acc.length + ys.length) = cur.toList.drop (acc.length + ys.length) := by
          rcases hw.block g hgl with h | ⟨o, h1, h2⟩
          · exact ⟨cur, h.trans hg, hcs', htk, rfl⟩
          · simp only [Option.some.injEq, Prod.mk.injEq, true_and] at h1
            rw [← h1] at h2
            refine ⟨_, h2, by simpa using hrl, ?_, ?_⟩
            · show row.take acc.length = _
              have e1 : acc.length = (acc.map (Value.int k)).length := by simp
              simp only [row, List.append_assoc]
              rw [e1]; exact List.take_left
            · show row.drop (acc.length + ys.length) = _
              have e1 : acc.length + ys.length = (acc.map (Value.int k) ++ ys.map (Value.int k)).length := by simp
              simp only [row]
              rw [e1]; exact List.drop_left
        have hnews : ∀ j u, (ys.map (Value.int k))[j]? = some u → w.cell? (ad.add j) = some u := fun j u hj => by
          have h0 := hx.newsOf.2 j u hj
          rcases hne with h | h
          · subst h; simp at hj
          · have hb : (ad.add j).block = ad.block := by unfold Addr.add; split <;> rfl
            have hlt := World.block_lt_of_cell? _ _ h0
            rcases hw.block (ad.add j).block hlt with h1 | ⟨o, h1, _⟩
            · exact (World.cell?_of_block h1).trans h0
            · simp only [Option.some.injEq, Prod.mk.injEq] at h1
              exact absurd (h1.1.trans hb).symm h
        have hr := run_append_room (P := P) w t ty e i0 ht hi g acc.length cap cur' hg' ad ys.length c (ys.map (Value.int k)) (by simp [hz1]) hnews (ints_one ys) hroom (by simp [hz1]; omega)
        rw [hz1, Nat.mul_one, ht', List.length_map, hd'] at hr
        have hset := setRow_heap w g cur' row.toArray e (0, 0) hg'
        refine ⟨_, _, hr, ⟨rfl, rfl, rfl, by simp [World.setRow], fun j hj => ?_⟩, fun w'' hw'' => ?_⟩
        · by_cases hjg : j = g
          · subst hjg; exact .inr ⟨_, rfl, hset⟩
          · exact .inl (setRow_other w g j _ hjg)
        · have hgl' : g < (w.setRow g row.toArray).heap.size := (Array.getElem?_eq_some_iff.1 hset).1
          have hfin : w''.heap[g]? = some (.cells row.toArray e (0, 0)) := by
            rcases hw''.block g hgl' with h | ⟨o, h1, h2⟩
            · exact h.trans hset
            · simp only [Option.some.injEq, Prod.mk.injEq, true_and] at h1
              rw [h1]; exact h2
          have hl : (acc ++ ys).length = acc.length + ys.length := List.length_append
          refine ⟨_, cap, by rw [hl], by omega, hcm, (fun h => by cases h), .inr ⟨g, 0, rfl, fun i hi => ?_⟩⟩
          simp only [World.cell?, hfin, Nat.zero_add]
          have e1 : row = (acc ++ ys).map (Value.int k) ++ cur.toList.drop (acc.length + ys.length) := by simp [row]
          rw [e1]
          simp only [List.getElem?_toArray]
          rw [List.getElem?_append_left (by rw [List.length_map]; exact hi), List.getElem?_map, List.getElem?_eq_getElem hi, List.getD_eq_getElem?_getD, List.getElem?_eq_getElem hi]
          rfl
      · refine ⟨none, fun k o h => (by cases h), fun ty w hw => ?_⟩
        have hown' := hown.ext hw.ext
        have holds : ∀ j u, (acc.map (Value.int k))[j]? = some u → w.cell? ((⟨g, 0, none⟩ : Addr).add j) = some u := World.ownsRow.cells hown' (g := g) rfl
        have hr := run_append_grow (P := P) w t ty e i0 (.int k 0) ht hi hz0 ⟨g, 0, none⟩ acc.length cap (acc.map (Value.int k)) (by simp [hz1]) holds ad ys.length c (ys.map (Value.int k)) (by simp [hz1]) (keep w hw.ext) (by omega) (by omega) (by rw [hz2]; exact growslice_fits (by omega) hlen.1)
        refine ⟨_, _, hr, ExtG.ofExt ⟨rfl, rfl, rfl, by simp, fun j hj => heap_alloc_old w.drew _ hj⟩, fun w'' hw'' => ?_⟩
        exact new w _ (grownCap_ge w _ cap e) (grownCap_le_maxLen w _ cap e hlen.2) _ w'' hw''.ext

theorem run_append_op {P : Program} {w w' : World} {ρ : Operand → Value} {o : Oper} {s x : Operand} {t : TypeId} {v u r : Value} (ho : o.op = .call { callee := .builtin .append, args := #[s, x], argTypes := #[t, t] }) (hs : ρ s = v) (hx : ρ x = u)
    (h : (Builtin.append_ #[t, t] o.type #[v, u]).run P w = .ok r w') : (execOp ρ o).run P w = .ok (.value r) w' := by
  unfold execOp
  simp only [ho, resolve, invoke, builtin, Sem.run_bind, Sem.run_pure, Result.andThen_ok, List.map_toArray, List.map_cons, List.map_nil, hs, hx, h]

theorem Own.but {k : IntKind} {e : TypeId} {B b : Nat} {w w' : World} {s : Value} {zs : List Int} (h : Own k e B w s zs) (hB : But b w w') (hb : b < B) : Own k e B w' s zs := by
  refine World.ownsRow.kept h hB ?_
  cases hv : s.ownBlock with
  | none => exact .inl rfl
  | some g =>
    refine .inr fun e => ?_
    have := (World.ownsRow.lt h g hv).1
    simp only [Option.some.injEq] at e
    omega

theorem Own.apart {k k' : IntKind} {e e' : TypeId} {B : Nat} {w w' : World} {v x : Value} {zs ys : List Int} (hv : Own k e B w v zs) (hx : Own k' e' w.heap.size w' x ys) : ∀ g ad n c, v.ownBlock = some g → x = .slice (some ad) n c → ad.block ≠ g := by
  intro g ad n c hg hxe
  have h1 := (World.ownsRow.lt hv g hg).2
  have h2 := (World.ownsRow.lt hx ad.block (by
    rcases hx.2 with ⟨h, _⟩ | ⟨g', cap, cur, h, _⟩
    · rw [h] at hxe; cases hxe
    · rw [hxe] at h; cases h; rw [hxe]; rfl)).1
  omega
end Go.Proofs.YtlmbdafilboblaaGreat

/- 'append([]T{}, x...)' within a region that draws its order: an empty row without room grows into a new one; all that there was is as it was. Over any program. -/
namespace Go.Proofs.YtlmbdafilboblaaGreat
set_option linter.unusedVariables false
set_option linter.unusedSimpArgs false
open Go.RowKit

/-- An empty row without room, just made. -/
def Bare (e : TypeId) (B : Nat) (w : World) (v : Value) : Prop := ∃ g, v = .slice (some ⟨g, 0, none⟩) 0 0 ∧ B ≤ g ∧ w.heap[g]? = some (.cells #[] e (0, 0))

theorem Bare.up {e : TypeId} {B : Nat} {v : Value} : UpW (fun w => Bare e B w v) := by
  rintro w w' he ⟨g, h1, h2, h3⟩
  exact ⟨g, h1, h2, (he.block g (Array.getElem?_eq_some_iff.1 h3).1).trans h3⟩

theorem Bare.own {k : IntKind} {e : TypeId} {B : Nat} {w : World} {v : Value} (h : Bare e B w v) : Own k e B w v [] := by
  obtain ⟨g, rfl, h2, h3⟩ := h
  exact ⟨by simp, .inr ⟨g, 0, #[], rfl, h2, h3, by simp, by simp [maxLen], by simp, by simp⟩⟩

theorem Own.up {k : IntKind} {e : TypeId} {B : Nat} {v : Value} {zs : List Int} : UpW (fun w => Own k e B w v zs) := fun w w' he h => Own.ext h he

theorem append_new {P : Program} {k : IntKind} (w : World) (B : Nat) (t ty e : TypeId) (bytes : Nat) (ht : P.underlying t = some (.slice e))
    (hinfo : (P.info? e).map (fun i => (i.zero, i.size, i.bytes)) = some (some (.int k 0), 1, bytes)) (v x : Value) (ys : List Int)
    (hv : Bare e B w v) (hx : Sl k w x ys) (hlen : ys.length * bytes ≤ 140737488355328 ∧ ys.length ≤ maxLen) (hB : B ≤ w.heap.size) :
    ∃ u w', (Builtin.append_ #[t, t] ty #[v, x]).run P w = .ok u w' ∧ Ext w w' ∧ Own k e B w' u ys := by
  obtain ⟨i0, hi, hz0, hz1, hz2⟩ := info_parts hinfo
  have hown := hv.own (k := k)
  obtain ⟨g, rfl, hBg, hg⟩ := hv
  obtain ⟨ad, c, hxs, hx1, hx2, hx3, hx4⟩ := id hx
  cases ad with
  | none =>
    have hc := hx3 rfl
    subst hc
    have hy : ys = [] := List.length_eq_zero_iff.1 (by omega)
    subst hy
    subst hxs
    exact ⟨_, w, run_append_owned_none (P := P) (w := w) B t ty e i0 1 ht hi _ _ _ hown, Ext.refl _, hown⟩
  | some ad =>
    subst hxs
    obtain ⟨v', w', r1, r2, r3, _⟩ := run_append_own (P := P) w B t ty e i0 (.int k 0) 1 bytes ht hi hz0 hz1 hz2 rfl (by decide) _ _ _ hown ad ys.length c (ys.map (Value.int k)) (by simp) hx.newsOf.2 (ints_one ys) (by simpa using hlen.2) (by simpa using hlen.1) hB
    refine ⟨v', w', r1, ?_, by unfold Own; simpa using r2⟩
    by_cases h0 : ys.length = 0
    · have hr := run_append_room (P := P) w t ty e i0 ht hi g 0 0 #[] hg ad ys.length c (ys.map (Value.int k)) (by simp [hz1]) hx.newsOf.2 (ints_one ys) (by omega) (by simp; exact List.length_eq_zero_iff.1 h0)
      have e1 : ys = [] := List.length_eq_zero_iff.1 h0
      subst e1
      have e2 := r1.symm.trans hr
      simp only [Result.ok.injEq] at e2
      rw [e2.2]
      refine ⟨rfl, rfl, rfl, by simp [World.setRow], fun j hj => ?_⟩
      by_cases hjg : j = g
      · subst hjg
        rw [setRow_heap w j #[] _ e (0, 0) hg, hg]
        simp
      · exact setRow_other w g j _ hjg
    · have hr := run_append_grow (P := P) w t ty e i0 (.int k 0) ht hi hz0 ⟨g, 0, none⟩ 0 0 [] (by simp) (fun j v hj => by simp at hj) ad ys.length c (ys.map (Value.int k)) (by simp [hz1]) hx.newsOf.2 (by omega) (by have := hlen.2; unfold maxLen at this; omega) (by rw [hz2]; exact growslice_fits (by omega) (by simpa using hlen.1))
      have e2 := r1.symm.trans hr
      simp only [Result.ok.injEq] at e2
      rw [e2.2]
      exact ⟨rfl, rfl, rfl, by simp, fun j hj => heap_alloc_old w.drew _ hj⟩
end Go.Proofs.YtlmbdafilboblaaGreat

/- Contracts of the document's own Turn: whorlref4.Turn. -/
namespace Go.Proofs.YtlmbdafilboblaaGreat
set_option linter.unusedVariables false
set_option linter.unusedSimpArgs false
open Go.RowKit

theorem rturn_any (v : Value) (zs : List Int) (i : Nat) (w : World) (hs : Sl .u8 w v zs) (hi : i ≤ zs.length) (hlen : zs.length ≤ 1000000) :
    Calls Tryz.prog 25 #[v, .int .i64 (i : Int)] w fun e w' => ∃ s, e = .returned s ∧ Own .u8 5 w.heap.size w' s (turnI zs i) ∧ Ext w w' := by
  have HS := hide' hs
  obtain ⟨a, c, rfl, h2, h3, _⟩ := hs
  unfold maxLen at h3
  obtain ⟨a1, r1, s1, _⟩ := HS.out.runDrop (P := Tryz.prog) 22 5 Tryz.underlying22 size8 i hi
  obtain ⟨r2, s2⟩ := HS.out.runTake (P := Tryz.prog) 22 5 Tryz.underlying22 size8 i hi
  have S1 := hide' s1
  have S2 := hide' s2
  have L1 : Hid ((zs.drop i).length = zs.length - i) := List.length_drop
  have L2 : Hid ((zs.take i).length = i) := by show _ = _; rw [List.length_take]; omega
  clear s1 s2
  go_enter Tryz.func25, Tryz.ntmps25
  go_wp2_with fail
  refine wp_region_kt (fun _ _ _ _ => True) 8 (by kernel_rfl) (by kernel_rfl) (by kernel_rfl) ?_
  have hne := later_some w
  simp only [List.take_succ_cons, List.take_zero, List.drop_succ_cons, List.drop_zero]
  refine lexK_some (fun u w' => Bare 5 w.heap.size w' u) (fun u => Bare.up) rfl (fun w1 he1 _ => ?_) ?_
  · exact ⟨.slice (some ⟨w1.heap.size, 0, none⟩) 0 0, w1.alloc (.cells #[] 5), by kernel_rfl, ext_alloc _ _, _, rfl, he1.size, heap_alloc_top _ _⟩
  intro u w1 he1 _ hu
  clear he1 hu
  simp only [Act.put, List.setIfInBounds_toArray, List.set_cons_succ, List.set_cons_zero]
  refine lexK_take 3 (by kernel_rfl) ?_
  simp only [List.take_succ_cons, List.take_zero, List.drop_succ_cons, List.drop_zero]
  repeat (go_big_quiet_step (fail))
  refine wpQuiet_nil ?_
  refine lexK_some (fun u w' => Own .u8 5 w.heap.size w' u (zs.drop i)) (fun u => Own.up) rfl (fun w2 he2 hf2 => ?_) ?_
  · obtain ⟨u2, w3, q1, q2, q3⟩ := append_new (P := Tryz.prog) w2 w.heap.size 22 22 5 1 Tryz.underlying22 infoU8 _ _ _ ((hf2 5 (by decide)).2 rfl) (S1.out.ext he2) (by rw [L1.out]; unfold maxLen; omega) he2.size
    exact ⟨u2, w3, run_append_op rfl rfl rfl q1, q2, q3⟩
  intro u2 w2 he2 _ hu2
  clear he2 hu2
  simp only [Act.put, List.setIfInBounds_toArray, List.set_cons_succ, List.set_cons_zero]
  refine lexK_take 3 (by kernel_rfl) ?_
  simp only [List.take_succ_cons, List.take_zero, List.drop_succ_cons, List.drop_zero]
  repeat (go_big_quiet_step (fail))
  refine wpQuiet_nil ?_
  refine lexK_nil ?_
  intro w3 he3 hf3
  have HE := hide' he3
  have HO := hide' ((hf3 9).2 rfl)
  have hsz := he3.size
  clear he3 hf3 r1 r2 hne
  go_wp2_with (at_builtin; refine wpList_join _ rfl _ _ 22 rfl 5 .u8 1 Tryz.underlying22 infoU8 w.heap.size _ _ (zs.drop i) (zs.take i) rfl rfl HO.out (S2.out.ext HE.out) ?c1 hsz ?_)
  case c1 => unfold maxLen; omega
  intro v4 w4 ho4 hb4
  have HO4 := hide' ho4
  have HB4 := hide' hb4
  clear ho4 hb4
  go_wp2
  go_ret
  exact ⟨_, rfl, HO4.out, Below.trans HE.out HB4.out⟩
end Go.Proofs.YtlmbdafilboblaaGreat

/- Appends one within the other in a region that draws its order: 'append(append(append([]T{}, a...), x), b...)'. Whatever is written into a new row is what it is at last. Over any program; no conditions. -/
namespace Go.Proofs.YtlmbdafilboblaaGreat
set_option linter.unusedVariables false
set_option linter.unusedSimpArgs false
open Go.RowKit

/-- All that there was is as it was, but that cells of new rows (of e, of more than 'lo' cells) may have become what F has at their places. -/
structure ExtF (B : Nat) (e : TypeId) (F : List Value) (lo : Nat) (w w' : World) : Prop where
  os : w'.os = w.os
  tape : w'.tape = w.tape
  output : w'.output = w.output
  size : w.heap.size ≤ w'.heap.size
  block : ∀ k, k < w.heap.size → w'.heap[k]? = w.heap[k]? ∨ (B ≤ k ∧ ∃ cs cs' : Array Value, w.heap[k]? = some (.cells cs e (0, 0)) ∧ w'.heap[k]? = some (.cells cs' e (0, 0)) ∧ cs'.size = cs.size ∧ lo < cs.size ∧ ∀ i : Nat, cs'[i]? = cs[i]? ∨ cs'[i]? = F[i]?)

section
variable {B : Nat} {e : TypeId} {F : List Value} {lo : Nat} {a b c w w' : World}
theorem ExtF.refl (w : World) : ExtF B e F lo w w := ⟨rfl, rfl, rfl, Nat.le_refl _, fun _ _ => .inl rfl⟩
theorem ExtF.trans (h : ExtF B e F lo a b) (k : ExtF B e F lo b c) : ExtF B e F lo a c := by
  refine ⟨k.os.trans h.os, k.tape.trans h.tape, k.output.trans h.output, Nat.le_trans h.size k.size, fun i hi => ?_⟩
  rcases k.block i (Nat.lt_of_lt_of_le hi h.size) with e1 | ⟨hb, cs, cs', e1, e2, e3, e4, e5⟩
  · rcases h.block i hi with f1 | ⟨hb, ds, ds', f1, f2, f3⟩
    · exact .inl (e1.trans f1)
    · exact .inr ⟨hb, ds, ds', f1, e1.trans f2, f3⟩
  · rcases h.block i hi with f1 | ⟨hb', ds, ds', f1, f2, f3, f4, f5⟩
    · exact .inr ⟨hb, cs, cs', f1 ▸ e1, e2, e3, e4, e5⟩
    · rw [f2] at e1
      simp only [Option.some.injEq, Obj.cells.injEq, and_true] at e1
      subst e1
      refine .inr ⟨hb, ds, cs', f1, e2, by omega, f4, fun j => ?_⟩
      rcases e5 j with g | g
      · rcases f5 j with g' | g'
        · exact .inl (g.trans g')
        · exact .inr (g.trans g')
      · exact .inr g
def frel (B : Nat) (e : TypeId) (F : List Value) (lo : Nat) : KRel := ⟨ExtF B e F lo, ExtF.refl, ExtF.trans, fun w => ⟨rfl, rfl, rfl, Nat.le_refl _, fun _ _ => .inl rfl⟩⟩
theorem ExtF.ofExt (h : Ext w w') : ExtF B e F lo w w' := ⟨h.os, h.tape, h.output, h.size, fun k hk => .inl (h.block k hk)⟩
/-- From a world with B blocks on: all that was there is as it was. -/
theorem ExtF.below (h : ExtF B e F lo w w') (hB : B ≤ w.heap.size) : Below B w w' :=
  ⟨h.os, h.tape, h.output, h.size, fun k hk => by
    rcases h.block k (by omega) with e1 | ⟨hb, _⟩
    · exact e1
    · omega⟩
theorem ExtF.ext (h : ExtF w.heap.size e F lo w w') : Ext w w' := h.below (Nat.le_refl _)

/-- A new row whose first n elements are F's. -/
def OwnF (B : Nat) (e : TypeId) (F : List Value) (sz : Nat) (w : World) (v : Value) (n : Nat) : Prop :=
  ∃ g cap cur, v = .slice (some ⟨g, 0, none⟩) n cap ∧ B ≤ g ∧ w.heap[g]? = some (.cells cur e (0, 0)) ∧ n ≤ cap ∧ cap ≤ maxLen ∧ cur.size = cap * sz ∧ ∀ i : Nat, i < n * sz → cur[i]? = F[i]?
theorem OwnF.up {sz n : Nat} {v : Value} : KR.UpW (frel B e F lo) (fun w => OwnF B e F sz w v n) := by
  rintro w w' he ⟨g, cap, cur, h1, h2, h3, h4, h5, h6, h7⟩
  have hg : g < w.heap.size := (Array.getElem?_eq_some_iff.1 h3).1
  rcases he.block g hg with f1 | ⟨_, cs, cs', f1, f2, f3, f4, f5⟩
  · exact ⟨g, cap, cur, h1, h2, f1.trans h3, h4, h5, h6, h7⟩
  · rw [h3] at f1
    simp only [Option.some.injEq, Obj.cells.injEq, and_true] at f1
    subst f1
    refine ⟨g, cap, cs', h1, h2, f2, h4, h5, by omega, fun i hi => ?_⟩
    rcases f5 i with g | g
    · exact g.trans (h7 i hi)
    · exact g
theorem OwnF.owns {sz n : Nat} {v : Value} (h : OwnF B e F sz w v n) (hF : n * sz ≤ F.length) : w.ownsRow B e sz v n (F.take (n * sz)) := by
  obtain ⟨g, cap, cur, h1, h2, h3, h4, h5, h6, h7⟩ := h
  refine ⟨by rw [List.length_take]; omega, .inr ⟨g, cap, cur, h1, h2, h3, h4, h5, h6, ?_⟩⟩
  refine List.ext_getElem? fun i => ?_
  simp only [List.getElem?_take]
  by_cases hi : i < n * sz
  · rw [if_pos hi, if_pos hi, ← h7 i hi]; simp
  · rw [if_neg hi, if_neg hi]

/-- A literal row that no more is written to: it has no more than 'lo' cells. -/
def LitF (B : Nat) (e : TypeId) (w : World) (v : Value) (n : Nat) (cs : Array Value) : Prop := ∃ g, v = .slice (some ⟨g, 0, none⟩) n n ∧ B ≤ g ∧ w.heap[g]? = some (.cells cs e (0, 0))
theorem LitF.up {v : Value} {n : Nat} {cs : Array Value} (hlo : cs.size ≤ lo) : KR.UpW (frel B e F lo) (fun w => LitF B e w v n cs) := by
  rintro w w' he ⟨g, h1, h2, h3⟩
  have hg : g < w.heap.size := (Array.getElem?_eq_some_iff.1 h3).1
  rcases he.block g hg with f1 | ⟨_, cs1, cs', f1, f2, f3, f4, f5⟩
  · exact ⟨g, h1, h2, f1.trans h3⟩
  · rw [h3] at f1
    simp only [Option.some.injEq, Obj.cells.injEq, and_true] at f1
    subst f1
    omega
theorem LitF.own {v : Value} {sz : Nat} (h : LitF B e w v 0 #[]) : OwnF B e F sz w v 0 := by
  obtain ⟨g, h1, h2, h3⟩ := h
  exact ⟨g, 0, #[], h1, h2, h3, Nat.le_refl _, by simp, by simp, fun i hi => by omega⟩
theorem LitF.news {v : Value} {n : Nat} {cs : Array Value} (h : LitF B e w v n cs) : ∃ ad, v = .slice (some ad) n n ∧ ∀ j u, cs.toList[j]? = some u → w.cell? (ad.add j) = some u := by
  obtain ⟨g, h1, h2, h3⟩ := h
  refine ⟨_, h1, fun j u hj => ?_⟩
  rw [Go.WideShapes.add_plain]
  have : cs[j]? = some u := by simpa using hj
  simp [World.cell?, h3, this]
end

/-- 'append(v, x...)' that makes more of F. -/
theorem append_F {P : Program} {w : World} {B : Nat} {e : TypeId} {F : List Value} {lo sz bytes : Nat} (t ty : TypeId) (z : Value) (ht : P.underlying t = some (.slice e))
    (hinfo : (P.info? e).map (fun i => (i.zero, i.size, i.bytes)) = some (some z, sz, bytes)) (hzs : z.cells.size = sz) (hsz : 0 < sz) (v x : Value) (n m : Nat) (a : Option Addr) (c : Nat) (news : List Value)
    (hv : OwnF B e F sz w v n) (hx : x = .slice a m c) (ha : a = none → c = 0 ∧ m = 0) (hl : news.length = m * sz) (hn : ∀ ad, a = some ad → ∀ j u, news[j]? = some u → w.cell? (ad.add j) = some u) (h1 : ∀ u ∈ news, u.oneCell' = true)
    (hF : ∀ j, j < m * sz → news[j]? = F[n * sz + j]?) (hlo : m = 0 ∨ lo < (n + m) * sz ∨ ∀ a c, v = .slice a n c → c < n + m) (hlen : (n + m) * bytes ≤ 140737488355328 ∧ n + m ≤ maxLen) (hFl : n * sz ≤ F.length) (hB : B ≤ w.heap.size) :
    ∃ u w', (Builtin.append_ #[t, t] ty #[v, x]).run P w = .ok u w' ∧ ExtF B e F lo w w' ∧ OwnF B e F sz w' u (n + m) ∧ ∀ a c, v = .slice a n c → n + m ≤ c → ∃ a', u = .slice a' (n + m) c := by
  obtain ⟨i0, hi, hz0, hz1, hz2⟩ : ∃ i, P.info? e = some i ∧ i.zero = some z ∧ i.size = sz ∧ i.bytes = bytes := by
    cases hi : P.info? e with
    | none => simp [hi] at hinfo
    | some i =>
      simp only [hi, Option.map_some, Option.some.injEq, Prod.mk.injEq] at hinfo
      exact ⟨i, rfl, hinfo.1, hinfo.2.1, hinfo.2.2⟩
  subst hx
  have hown := hv.owns hFl
  cases a with
  | none =>
    obtain ⟨rfl, rfl⟩ := ha rfl
    exact ⟨v, w, run_append_owned_none (P := P) (w := w) B t ty e i0 sz ht hi _ _ _ hown, ExtF.refl _, hv, fun a c hv _ => ⟨a, hv⟩⟩
  | some ad =>
    have hnews := hn ad rfl
    obtain ⟨g, cap, cur, rfl, hBg, hg, hnc, hcm, hcs, hcur⟩ := hv
    have hsmall : n + m ≤ 9223372036854775807 := by have := hlen.2; simp only [maxLen] at this; omega
    have hmul : (n + m) * sz = n * sz + m * sz := Nat.add_mul _ _ _
    by_cases hroom : n + m ≤ cap
    · have hcap : (n + m) * sz ≤ cap * sz := Nat.mul_le_mul_right _ hroom
      have hr := run_append_room (P := P) w t ty e i0 ht hi g n cap cur hg ad m c news (by rw [hz1]; exact hl) hnews h1 hroom (by rw [hz1]; omega)
      rw [hz1] at hr
      have hset := setRow_heap w g cur (cur.toList.take (n * sz) ++ news ++ cur.toList.drop (n * sz + news.length)).toArray e (0, 0) hg
      have hcell : ∀ i : Nat, (cur.toList.take (n * sz) ++ news ++ cur.toList.drop (n * sz + news.length)).toArray[i]? = if i < n * sz then cur[i]? else if i < n * sz + m * sz then F[i]? else cur[i]? := fun i => by
        have htl : (cur.toList.take (n * sz)).length = n * sz := by rw [List.length_take, Array.length_toList]; omega
        simp only [List.getElem?_toArray]
        by_cases g1 : i < n * sz
        · rw [if_pos g1, List.append_assoc, List.getElem?_append_left (by omega), List.getElem?_take, if_pos g1]; simp
        · rw [if_neg g1]
          by_cases g2 : i < n * sz + m * sz
          · rw [if_pos g2, List.getElem?_append_left (by rw [List.length_append]; omega), List.getElem?_append_right (by omega), htl, hF _ (by omega)]
            congr 1; omega
          · rw [if_neg g2, List.getElem?_append_right (by rw [List.length_append]; omega), List.length_append, htl, List.getElem?_drop]
            rw [show n * sz + news.length + (i - (n * sz + news.length)) = i by omega]; simp
      refine ⟨_, _, hr, ?_, ?_, fun a' c' hv _ => ?_⟩
      · refine ⟨rfl, rfl, rfl, by simp [World.setRow], fun j hj => ?_⟩
        by_cases hjg : j = g
        · subst hjg
          by_cases hm : m = 0
          · left
            rw [hset, hg]
            congr 1
            congr 1
            apply Array.ext_getElem?
            intro i
            rw [hcell i]
            subst hm
            split
            · rfl
            · rw [if_neg (by omega)]
          · right
            refine ⟨hBg, cur, _, hg, hset, ?_, ?_, fun i => ?_⟩
            · simp [hl]; omega
            · rcases hlo with h | h | h
              · exact absurd h hm
              · omega
              · have := h _ _ rfl; omega
            · rw [hcell i]
              split
              · exact .inl rfl
              · split
                · exact .inr rfl
                · exact .inl rfl
        · exact .inl (setRow_other w g j _ hjg)
      · refine ⟨g, cap, _, rfl, hBg, hset, hroom, hcm, by simp [hl]; omega, fun i hi2 => ?_⟩
        rw [hcell i]
        split
        · exact hcur i (by assumption)
        · rw [if_pos (by omega)]
      · simp only [Value.slice.injEq, true_and] at hv
        exact ⟨_, by rw [hv.2]⟩
    · have holds : ∀ j u, (F.take (n * sz))[j]? = some u → w.cell? ((⟨g, 0, none⟩ : Addr).add j) = some u := World.ownsRow.cells hown (g := g) rfl
      have hr := run_append_grow (P := P) w t ty e i0 z ht hi hz0 ⟨g, 0, none⟩ n cap (F.take (n * sz)) (by rw [hz1, List.length_take]; omega) holds ad m c news (by rw [hz1]; exact hl) hnews (by omega) (by omega) (by rw [hz2]; exact growslice_fits (by omega) hlen.1)
      have hge := grownCap_ge w (n + m) cap e
      refine ⟨_, _, hr, ExtF.ofExt ⟨rfl, rfl, rfl, by simp, fun j hj => heap_alloc_old w.drew _ hj⟩, ?_, fun a' c' hv h => ?_⟩
      rotate_left
      · simp only [Value.slice.injEq, true_and] at hv
        exact absurd h (by omega)
      refine ⟨w.heap.size, _, _, rfl, hB, heap_alloc_new w.drew _, hge, grownCap_le_maxLen w _ cap e hlen.2, ?_, fun i hi2 => ?_⟩
      · have h3 : (Builtin.zeroCells z.cells (grownCap w (n + m) cap e - (n + m))).size = (grownCap w (n + m) cap e - (n + m)) * sz := by rw [size_zeroCells, hzs]
        simp only [Array.size_append, List.size_toArray, h3, List.length_take, hl]
        rw [Nat.min_eq_left hFl]
        obtain ⟨q, hq⟩ : ∃ q, grownCap w (n + m) cap e = n + m + q := ⟨grownCap w (n + m) cap e - (n + m), by omega⟩
        rw [hq, show n + m + q - (n + m) = q by omega, Nat.add_mul, hmul]
      · have htl : (F.take (n * sz)).length = n * sz := by rw [List.length_take]; omega
        rw [Array.getElem?_append_left (by simp only [Array.size_append, List.size_toArray, htl, hl]; omega)]
        by_cases g1 : i < n * sz
        · rw [Array.getElem?_append_left (by simp only [List.size_toArray, htl]; exact g1)]
          simp only [List.getElem?_toArray, List.getElem?_take, if_pos g1]
        · rw [Array.getElem?_append_right (by simp only [List.size_toArray, htl]; omega)]
          simp only [List.getElem?_toArray, List.size_toArray, htl]
          rw [hF _ (by omega)]
          congr 1; omega
end Go.Proofs.YtlmbdafilboblaaGreat

/- Contract of the document's own Turns of words: whorlref8.Turns. -/
namespace Go.Proofs.YtlmbdafilboblaaGreat
set_option linter.unusedVariables false
set_option linter.unusedSimpArgs false
open Go.RowKit

theorem omI_turns {zss : List (List Int)} {t u : Nat × Nat} (ht : t.2 < (wordAt zss t.1).length) (hu : u.2 < (wordAt zss u.1).length) :
    omI (turnI (wordAt zss t.1) t.2) (turnI (wordAt zss u.1) u.2) < 0 ↔ LtF (sqP zss t) (sqP zss u) := by
  rw [omI_neg (by rw [turnI_len (by omega)]; omega) (by rw [turnI_len (by omega)]; omega)]
  have e1 : atW (turnI (wordAt zss t.1) t.2) = sqP zss t := by funext k; exact sqP_turn ht k
  have e2 : atW (turnI (wordAt zss u.1) u.2) = sqP zss u := by funext k; exact sqP_turn hu k
  rw [e1, e2]

/-- What the calls of the loop's test hand back. -/
def testS (x : List Int) (r : Int) (h0 : Nat) (f : FuncId) (v : Value) (w : World) : Prop :=
  match f with
  | 25 => Own .u8 5 h0 w v x
  | _ => v = .int .i64 r
theorem testS_1 {x : List Int} {r : Int} {h0 : Nat} {v : Value} {w : World} : testS x r h0 25 v w ↔ Own .u8 5 h0 w v x := Iff.rfl
theorem testS_2 {x : List Int} {r : Int} {h0 : Nat} {v : Value} {w : World} : testS x r h0 26 v w ↔ v = .int .i64 r := Iff.rfl

set_option maxHeartbeats 4000000 in
theorem rturns8_any (v : Value) (zss : List (List Int)) (w : World) (hs : Sls w v zss) (hlen : zss.length ≤ 100000) (htot : offP zss zss.length ≤ 100000) :
    Calls Tryz.prog 11 #[v] w fun e w' => ∃ s l, e = .returned s ∧ l.Perm (listP zss) ∧ l.Pairwise (RP zss) ∧ OwnP w.heap.size w' s l ∧ Ext w w' := by
  have HS := hide' hs
  obtain ⟨a, c, rfl, _⟩ := hs
  obtain ⟨n, HN⟩ : ∃ n, Hid (zss.length = n) := ⟨_, rfl⟩
  have HTOT := hide' htot
  have WL : Hid (∀ i, i < zss.length → (wordAt zss i).length ≤ 100000 ∧ offP zss i + (wordAt zss i).length ≤ 100000) := fun i hi => by
    have h1 := offP_mono zss (show i + 1 ≤ zss.length from hi)
    rw [offP_succ] at h1
    omega
  clear htot
  rw [HN.out] at HS hlen ⊢
  go_enter Tryz.func11, Tryz.ntmps11
  go_wp2
  go_loopw [3, 4] (fun sv vi wr => ∃ (i : Nat) (out : List (Nat × Nat)), i ≤ n ∧ vi = .int .i64 i ∧ Hid (out.Perm (listK zss i)) ∧ Hid (out.Pairwise (RP zss)) ∧ Hid (OwnP w.heap.size wr sv out) ∧ Hid (Ext w wr)) (fun _ vi _ => n - (intOf vi).toNat)
  case atStart => exact ⟨0, [], Nat.zero_le _, rfl, List.Perm.refl _, List.Pairwise.nil, OwnP.nil _ _, Ext.refl _⟩
  case round =>
    obtain ⟨i, out, hi, rfl, PM, PW, HO, HE⟩ := hrel
    by_cases hlt : i < n
    · have hlt' : (i : Int) < n := by omega
      have HI : Hid (i < zss.length) := by show _ < _; rw [HN.out]; exact hlt
      have PM0 : Hid (out.Perm (listK zss i ++ rowP i 0)) := by show List.Perm _ _; simpa [rowP] using PM.out
      have wl := WL.out i HI.out
      go_wp2
      go_loopw [3, 5] (fun sv vk wr => ∃ (k : Nat) (out : List (Nat × Nat)), k ≤ (wordAt zss i).length ∧ vk = .int .i64 k ∧ Hid (out.Perm (listK zss i ++ rowP i k)) ∧ Hid (out.Pairwise (RP zss)) ∧ Hid (OwnP w.heap.size wr sv out) ∧ Hid (Ext w wr)) (fun _ vk _ => (wordAt zss i).length - (intOf vk).toNat)
      case atStart => exact ⟨0, out, Nat.zero_le _, rfl, PM0, PW, HO, HE⟩
      case round =>
        clear PM0 PM PW HO HE
        obtain ⟨k, out, hk, rfl, PM, PW, HO, HE⟩ := hrel
        obtain ⟨sg, soff, a2, c2, rfl, hwc, hm1, hm2, hws⟩ := (HS.out.ext HE.out).word (k := i) HI.out
        unfold maxLen at hm1
        have HWS := hide' hws
        clear hws
        obtain ⟨m, HM⟩ : ∃ m, Hid ((wordAt zss i).length = m) := ⟨_, rfl⟩
        rw [HM.out] at hk hwc hm2 wl HWS ⊢
        by_cases hlt2 : k < m
        · have hlt2' : (k : Int) < m := by omega
          have BEF : Hid (∀ u ∈ out, Bef u (i, k)) := fun u hu => listed_bef (PM.out.mem_iff.1 hu)
          have INS : Hid (∀ u ∈ out, u.1 < zss.length ∧ u.2 < (wordAt zss u.1).length) := fun u hu => listed_in HI.out (by rw [HM.out]; exact hk) (PM.out.mem_iff.1 hu)
          have OL : Hid (out.length + 1 ≤ 100000) := by
            have h1 := PM.out.length_eq
            rw [List.length_append, rowP_len] at h1
            have h2 := wl.2
            unfold offP at h2
            show _ ≤ _
            omega
          obtain ⟨oa, oc, hov, hoc1, hoc2, _⟩ := HO.out.shape
          unfold maxLen at hoc2
          subst hov
          go_wp2_with fail
          refine (rturn_any _ (wordAt zss i) k wr HWS.out (by rw [HM.out]; omega) (by rw [HM.out]; omega)).mono ?_
          rintro e w1 ⟨st, rfl, ho, he⟩
          have T1 := hide' ho.sl
          have E1 := hide' (HE.out.trans he)
          have O1 := hide' (HO.out.ext he)
          obtain ⟨ta, tc, hst, _⟩ := ho.sl
          have TL : Hid ((turnI (wordAt zss i) k).length = m) := by show _ = _; rw [turnI_len (by rw [HM.out]; omega), HM.out]
          rw [TL.out] at hst
          subst hst
          clear ho he HO hwc HWS HE
          have S1 := hide' O1.out.sl
          obtain ⟨L, HL⟩ : ∃ L, Hid (out.length = L) := ⟨_, rfl⟩
          have ol := OL.out
          rw [HL.out] at ol S1 O1 hoc1 ⊢
          have CO := hide' S1.out.at.2.2.2
          go_wp2
          go_loopw [7] (fun vj wr => ∃ (j : Nat), j ≤ L ∧ vj = .int .i64 j ∧ Hid (Ins zss out (i, k) j) ∧ Hid (Ext w1 wr)) (fun vj _ => (intOf vj).toNat)
          case atStart => exact ⟨L, Nat.le_refl _, rfl, (fun q h1 h2 => by rw [HL.out] at h2; omega), Ext.refl _⟩
          case round =>
            obtain ⟨j, hj, rfl, IN, EW⟩ := hrel
            by_cases hj0 : j = 0
            · have STOP : Hid (j = 0 ∨ ¬ LtF (sqP zss (i, k)) (sqP zss (out.getD (j - 1) (0, 0)))) := .inl hj0
              have d0 : decide ((0 : Int) < (j : Int)) = false := by simp; omega
              have d1 : decide (0 < j) = false := by simp; omega
              clear hj0
              go_wp2_with fail
              go_quiet (fail)
              have EX2 : Ext w1 (wr.drewN nq) := EW.out.trans (Ext.drewN _ _)
              have HEX := hide' EX2
              clear EX2
              generalize wr.drewN nq = W at *
              clear EW d0 d1
              have SW := hide' (S1.out.ext HEX.out)
              obtain ⟨r1, s1⟩ := SW.out.runTake j (by rw [HL.out]; omega)
              obtain ⟨da, r2, s2⟩ := SW.out.runDrop j (by rw [HL.out]; omega)
              have N1 := hide' s1.news
              have N2 := hide' s2.news
              clear s1 s2
              have AL : Hid ((out.take j).length = j) := by show _ = _; rw [List.length_take, HL.out]; omega
              have DL : Hid ((out.drop j).length = L - j) := by show _ = _; rw [List.length_drop, HL.out]
              have PW2 := hide' (IN.out.place (by rw [HL.out]; exact hj) PW.out BEF.out STOP.out)
              have PM2 : Hid ((out.take j ++ [(i, k)] ++ out.drop j).Perm (listK zss i ++ rowP i (k + 1))) := by
                have := ins_perm (t := (i, k)) (j := j) PM.out
                show List.Perm _ _
                rw [rowP_succ, ← List.append_assoc]
                exact this
              obtain ⟨A, HAA⟩ : ∃ A, Hid (out.take j = A) := ⟨_, rfl⟩
              obtain ⟨D, HDD⟩ : ∃ D, Hid (out.drop j = D) := ⟨_, rfl⟩
              rw [HAA.out] at N1 AL PW2 PM2
              rw [HDD.out] at N2 DL PW2 PM2
              obtain ⟨Z, HZ⟩ : ∃ Z, Hid (A ++ [(i, k)] ++ D = Z) := ⟨_, rfl⟩
              obtain ⟨FF, HFF⟩ : ∃ FF, Hid (cellsP Z = FF) := ⟨_, rfl⟩
              have F1 : Hid (∀ q, q < j * 2 → (cellsP A)[q]? = FF[0 * 2 + q]?) := fun q hq => by rw [← HFF.out, ← HZ.out]; exact finP_1 A D (i, k) j q AL.out hq
              have F2 : Hid (∀ q, q < 1 * 2 → (cellsP [(i, k)])[q]? = FF[j * 2 + q]?) := fun q hq => by rw [← HFF.out, ← HZ.out]; exact finP_2 A D (i, k) j q AL.out hq
              have F3 : Hid (∀ q, (cellsP D)[q]? = FF[(j + 1) * 2 + q]?) := fun q => by rw [← HFF.out, ← HZ.out]; exact finP_3 A D (i, k) j q AL.out
              have ZL : Hid (Z.length = j + 1 + (L - j)) := by show _ = _; rw [← HZ.out, List.length_append, List.length_append, AL.out, DL.out]; rfl
              have FL : Hid (FF.length = (j + 1 + (L - j)) * 2) := by show _ = _; rw [← HFF.out, cellsP_len, ZL.out]
              rw [HZ.out] at PW2 PM2
              go_wp2_with fail
              have hne := KR.later_some (frel W.heap.size 36 FF 2) W
              refine KR.wp_region_k (E := frel W.heap.size 36 FF 2) (fun _ _ _ _ => True) (by kernel_rfl) (by kernel_rfl) (by kernel_rfl) ?_
              refine KR.lexK_some (fun u w' => LitF W.heap.size 36 w' u 0 #[]) (fun u => LitF.up (by simp)) rfl (fun w1' he1 _ => ?_) ?_
              · exact ⟨.slice (some ⟨w1'.heap.size, 0, none⟩) 0 0, w1'.alloc (.cells #[] 36), by kernel_rfl, ExtF.ofExt (ext_alloc _ _), _, rfl, he1.size, heap_alloc_top _ _⟩
              intro u56 w56 _ _ _
              simp only [Act.put, List.setIfInBounds_toArray, List.set_cons_succ, List.set_cons_zero]
              refine KR.lexK_take 3 (by kernel_rfl) ?_
              simp only [List.take_succ_cons, List.take_zero, List.drop_succ_cons, List.drop_zero]
              repeat (go_big_quiet_step (fail))
              refine wpQuiet_nil ?_
              refine KR.lexK_some (fun u w' => OwnF W.heap.size 36 FF 2 w' u j ∧ (j = 0 → ∃ a', u = .slice a' 0 0)) (fun u w1' w2' h12 h => ⟨OwnF.up _ _ h12 h.1, h.2⟩) rfl (fun w2' he2 hf2 => ?_) ?_
              · have hb := (hf2 56 (by decide)).2 rfl
                have e2 : Ext W w2' := he2.ext
                obtain ⟨g56, hg56, _⟩ := id hb
                obtain ⟨u2, w3', q1, q2, q3, q4⟩ := append_F (P := Tryz.prog) (lo := 2) 34 34 _ Tryz.underlying34 infoP rfl (by decide) _ _ 0 j _ _ (cellsP A) hb.own rfl N1.out.2.1 (by rw [cellsP_len, AL.out]) (fun ad hd q u hq => e2.cellOf (N1.out.2.2 ad hd q u hq)) (cellsP_one A) F1.out
                  (by
                    by_cases h0 : j = 0
                    · exact .inl h0
                    · refine .inr (.inr fun a' c' hv => ?_)
                      rw [hg56] at hv
                      simp only [Value.slice.injEq] at hv
                      omega) (by unfold maxLen; omega) (by omega) he2.size
                rw [Nat.zero_add] at q3
                refine ⟨u2, w3', run_append_op rfl rfl rfl q1, q2, q3, fun h0 => ?_⟩
                have := q4 _ _ hg56 (by omega)
                rw [h0] at this
                exact this
              intro u60 w60 _ _ _
              simp only [Act.put, List.setIfInBounds_toArray, List.set_cons_succ, List.set_cons_zero]
              refine KR.lexK_take 2 (by kernel_rfl) ?_
              simp only [List.take_succ_cons, List.take_zero, List.drop_succ_cons, List.drop_zero]
              repeat (go_big_quiet_step (fail))
              refine wpQuiet_nil ?_
              refine KR.lexK_val (.agg #[.int .i64 (i : Int), .int .i64 (k : Int)]) rfl (fun w' _ _ => by kernel_rfl) ?_
              simp only [Act.put, List.setIfInBounds_toArray, List.set_cons_succ, List.set_cons_zero]
              refine KR.lexK_some (fun u w' => LitF W.heap.size 36 w' u 1 #[.int .i64 (i : Int), .int .i64 (k : Int)]) (fun u => LitF.up (by simp)) rfl (fun w1' he1 _ => ?_) ?_
              · exact ⟨.slice (some ⟨w1'.heap.size, 0, none⟩) 1 1, w1'.alloc (.cells #[.int .i64 (i : Int), .int .i64 (k : Int)] 36), by kernel_rfl, ExtF.ofExt (ext_alloc _ _), _, rfl, he1.size, heap_alloc_top _ _⟩
              intro u64 w64 _ _ _
              simp only [Act.put, List.setIfInBounds_toArray, List.set_cons_succ, List.set_cons_zero]
              refine KR.lexK_some (fun u w' => OwnF W.heap.size 36 FF 2 w' u (j + 1)) (fun u => OwnF.up) rfl (fun w2' he2 hf2 => ?_) ?_
              · have hb := (hf2 60 (by decide)).1.2 rfl
                have hl := (hf2 64 (by decide)).2 rfl
                obtain ⟨ad, had, hnew⟩ := hl.news
                obtain ⟨u2, w3', q1, q2, q3, q4⟩ := append_F (P := Tryz.prog) (lo := 2) 34 34 _ Tryz.underlying34 infoP rfl (by decide) _ _ j 1 (some ad) 1 (cellsP [(i, k)]) hb.1 had (fun h => by cases h) rfl (fun ad' hd q u hq => by
                    simp only [Option.some.injEq] at hd
                    subst hd
                    exact hnew q u hq) (cellsP_one _) F2.out
                  (by
                    by_cases h0 : j = 0
                    · refine .inr (.inr fun a' c' hv => ?_)
                      obtain ⟨a'', h1⟩ := hb.2 h0
                      rw [h1] at hv
                      simp only [Value.slice.injEq] at hv
                      omega
                    · exact .inr (.inl (by omega))) (by unfold maxLen; omega) (by rw [FL.out]; omega) he2.size
                exact ⟨u2, w3', run_append_op rfl rfl rfl q1, q2, q3⟩
              intro u65 w65 _ _ _
              simp only [Act.put, List.setIfInBounds_toArray, List.set_cons_succ, List.set_cons_zero]
              refine KR.lexK_take 3 (by kernel_rfl) ?_
              simp only [List.take_succ_cons, List.take_zero, List.drop_succ_cons, List.drop_zero]
              repeat (go_big_quiet_step (fail))
              refine wpQuiet_nil ?_
              refine KR.lexK_some (fun u w' => OwnF W.heap.size 36 FF 2 w' u (j + 1 + (L - j))) (fun u => OwnF.up) rfl (fun w2' he2 hf2 => ?_) ?_
              · have hb := (hf2 65 (by decide)).2 rfl
                have e2 : Ext W w2' := he2.ext
                obtain ⟨u2, w3', q1, q2, q3, q4⟩ := append_F (P := Tryz.prog) (lo := 2) 34 34 _ Tryz.underlying34 infoP rfl (by decide) _ _ (j + 1) (L - j) _ _ (cellsP D) hb rfl N2.out.2.1 (by rw [cellsP_len, DL.out]) (fun ad hd q u hq => e2.cellOf (N2.out.2.2 ad hd q u hq)) (cellsP_one D) (fun q _ => F3.out q)
                  (by
                    by_cases h0 : L - j = 0
                    · exact .inl h0
                    · exact .inr (.inl (by omega))) (by unfold maxLen; omega) (by rw [FL.out]; omega) he2.size
                exact ⟨u2, w3', run_append_op rfl rfl rfl q1, q2, q3⟩
              intro u69 w69 _ _ _
              simp only [Act.put, List.setIfInBounds_toArray, List.set_cons_succ, List.set_cons_zero]
              refine KR.lexK_take 1 (by kernel_rfl) ?_
              simp only [List.take_succ_cons, List.take_zero, List.drop_succ_cons, List.drop_zero]
              repeat (go_big_quiet_step (fail))
              refine wpQuiet_nil ?_
              refine KR.lexK_nil ?_
              intro w5 he5 hf5
              have OF := (hf5 69).2 rfl
              have EF : Ext W w5 := he5.ext
              have OP : Hid (OwnP w.heap.size w5 u69 Z) := by
                have h1 := OF.owns (by rw [FL.out]; omega)
                rw [List.take_of_length_le (by rw [FL.out]; omega)] at h1
                have h2 : OwnP W.heap.size w5 u69 Z := by
                  unfold OwnP
                  rw [ZL.out, HFF.out]
                  exact h1
                exact h2.low (E1.out.trans HEX.out).size
              have XE : Hid (Ext w w5) := (E1.out.trans HEX.out).trans EF
              clear hne r1 r2 he5 hf5 OF EF
              go_wp2
              go_roundw
              case rel => exact ⟨k + 1, Z, by omega, by go_num, PM2, PW2, OP, XE⟩
              case measure => simp [intOf]; omega
            · obtain ⟨J, HJ⟩ : ∃ J, Hid (j = J + 1) := ⟨j - 1, by show _ = _; omega⟩
              have hJL : J < L := by have := HJ.out; omega
              have hJL' : (J : Int) < L := by omega
              have hJj : (j : Int) - 1 = (J : Int) := by have := HJ.out; omega
              have wJ : IntKind.i64.wrap (J : Int) = (J : Int) := by rw [IntKind.wrap_i64]; omega
              have d0 : decide ((0 : Int) < (j : Int)) = true := by simp; omega
              have d1 : (0 : Int) < (j : Int) := by omega
              have d2 : 0 < j := by omega
              obtain ⟨og, ooff, hoa, ocell⟩ := CO.out (by omega)
              obtain ⟨oc1, oc2⟩ := ocell J hJL
              have OI := hide' (INS.out (out.getD J (0, 0)) (getP_mem (by rw [HL.out]; exact hJL)))
              have HSJ : Hid (j - 1 = J) := by show _ = _; have := HJ.out; omega
              obtain ⟨o, HO'⟩ : ∃ o, Hid (out.getD J (0, 0) = o) := ⟨_, rfl⟩
              rw [HO'.out] at oc1 oc2 OI
              obtain ⟨o1, o2⟩ := o
              simp only [] at oc1 oc2
              have OI1 : Hid (o1 < zss.length) := OI.out.1
              have OI2 : Hid (o2 < (wordAt zss o1).length) := OI.out.2
              have wl2 := WL.out o1 OI1.out
              have hol := OI1.out
              rw [HN.out] at hol
              have hol' : (o1 : Int) < n := by omega
              obtain ⟨sg2, soff2, a3, c3, hsa, hwc, hm3, hm4, hws⟩ := (HS.out.ext (E1.out.trans EW.out)).word (k := o1) OI1.out
              simp only [Option.some.injEq, Addr.mk.injEq, and_true] at hsa
              obtain ⟨hsa1, hsa2⟩ := hsa
              subst hsa1 hsa2
              unfold maxLen at hm3
              have HWS := hide' hws
              have CMP := hide' (omI_turns (zss := zss) (t := (i, k)) (u := (o1, o2)) (by show k < (wordAt zss i).length; rw [HM.out]; exact hlt2) OI2.out)
              have TL2 : Hid ((turnI (wordAt zss o1) o2).length = (wordAt zss o1).length) := turnI_len (Nat.le_of_lt OI2.out)
              have T2 := hide' (T1.out.ext EW.out)
              have RT : Hid (∀ W, Ext wr W → Calls Tryz.prog 25 #[.slice a3 (wordAt zss o1).length c3, .int .i64 (o2 : Int)] W fun e w' => ∃ s, e = .returned s ∧ Own .u8 5 W.heap.size w' s (turnI (wordAt zss o1) o2) ∧ Ext W w') := fun W hW => rturn_any _ (wordAt zss o1) o2 W (HWS.out.ext hW) (Nat.le_of_lt OI2.out) (by omega)
              have hlo2 := OI2.out
              have LX : Hid ((turnI (wordAt zss i) k).length ≤ 100000) := by show _ ≤ _; rw [TL.out]; omega
              have LY : Hid ((turnI (wordAt zss o1) o2).length ≤ 100000) := by show _ ≤ _; rw [TL2.out]; omega
              clear TL2 hws
              simp only [] at CMP
              obtain ⟨X, HX⟩ : ∃ X, Hid (turnI (wordAt zss i) k = X) := ⟨_, rfl⟩
              obtain ⟨Y, HY⟩ : ∃ Y, Hid (turnI (wordAt zss o1) o2 = Y) := ⟨_, rfl⟩
              rw [HX.out] at CMP T2 LX
              rw [HY.out] at CMP RT LY
              obtain ⟨r, HR⟩ : ∃ r, Hid (omI X Y = r) := ⟨_, rfl⟩
              rw [HR.out] at CMP
              generalize (wordAt zss o1).length = mo at *
              subst hoa
              have oc1' := EW.out.cellOf oc1
              have oc2' := EW.out.cellOf oc2
              have l1 := later_cell oc1'
              have l2 := later_cell oc2'
              have l3 := later_cell hwc
              have hne := later_some wr
              clear hj0 oc1 oc2 oc1' oc2' hwc ocell
              go_wp2_with fail
              refine wp_region_k (fun f args v w' => testS Y r wr.heap.size f v w') (by kernel_rfl) (by kernel_rfl) (by kernel_rfl) ?_
              refine lexK_take 19 (by kernel_rfl) ?_
              simp only [List.take_succ_cons, List.take_zero, List.drop_succ_cons, List.drop_zero]
              repeat (go_big_quiet_step (fail))
              refine wpQuiet_nil ?_
              refine lexK_call 25 #[.slice a3 mo c3, .int .i64 (o2 : Int)] (fun v w1' w2' h12 h => Own.ext h h12) rfl (fun w' => ?_) (fun w' he' _ => (RT.out w' he').mono fun e w'' ⟨s, h1, h2, h3⟩ => ⟨s, h1, h3, testS_1.2 (h2.low he'.size)⟩) ?_
              · go_simp
              intro s50 w50 _ _ _
              simp only [Act.put, List.setIfInBounds_toArray, List.set_cons_succ, List.set_cons_zero]
              refine lexK_call1 26 #[.slice ta m tc, s50] (.int .i64 r) (fun _ _ => testS_2) rfl (fun w' => ?_) (fun w' he' hf => ?_) ?_
              · go_simp
              · have o50 := (testS_1.1 ((hf 50 (by decide)).2 rfl)).sl
                have := rcompare_any _ _ X Y w' (T2.out.ext he') o50 LX.out LY.out
                rw [HR.out] at this
                exact this
              simp only [Act.put, List.setIfInBounds_toArray, List.set_cons_succ, List.set_cons_zero]
              refine lexK_take 2 (by kernel_rfl) ?_
              simp only [List.take_succ_cons, List.take_zero, List.drop_succ_cons, List.drop_zero]
              repeat (go_big_quiet_step (fail))
              refine wpQuiet_nil ?_
              refine lexK_nil ?_
              intro W heW _
              have HEX := hide' (EW.out.trans heW)
              clear l1 l2 l3 hne heW
              by_cases hr : r < 0
              · have IN2 : Hid (Ins zss out (i, k) J) := fun q h1 h2 => by
                  by_cases hq : q = J
                  · subst hq; rw [HO'.out]; exact CMP.out.1 hr
                  · exact IN.out q (by have := HJ.out; omega) h2
                go_wp2
                go_roundw
                case rel => exact ⟨J, by omega, by first | rfl | go_num, IN2, HEX⟩
                case measure => simp [intOf]; omega
              · have STOP : Hid (j = 0 ∨ ¬ LtF (sqP zss (i, k)) (sqP zss (out.getD (j - 1) (0, 0)))) := .inr (fun h => hr (CMP.out.2 (by rw [HSJ.out, HO'.out] at h; exact h)))
                have dr : decide (r < 0) = false := by simpa using hr
                have dr2 : 0 ≤ r := by omega
                have SW := hide' (S1.out.ext HEX.out)
                obtain ⟨r1, s1⟩ := SW.out.runTake j (by rw [HL.out]; omega)
                obtain ⟨da, r2, s2⟩ := SW.out.runDrop j (by rw [HL.out]; omega)
                have N1 := hide' s1.news
                have N2 := hide' s2.news
                clear s1 s2
                have AL : Hid ((out.take j).length = j) := by show _ = _; rw [List.length_take, HL.out]; omega
                have DL : Hid ((out.drop j).length = L - j) := by show _ = _; rw [List.length_drop, HL.out]
                have PW2 := hide' (IN.out.place (by rw [HL.out]; exact hj) PW.out BEF.out STOP.out)
                have PM2 : Hid ((out.take j ++ [(i, k)] ++ out.drop j).Perm (listK zss i ++ rowP i (k + 1))) := by
                  have := ins_perm (t := (i, k)) (j := j) PM.out
                  show List.Perm _ _
                  rw [rowP_succ, ← List.append_assoc]
                  exact this
                obtain ⟨A, HAA⟩ : ∃ A, Hid (out.take j = A) := ⟨_, rfl⟩
                obtain ⟨D, HDD⟩ : ∃ D, Hid (out.drop j = D) := ⟨_, rfl⟩
                rw [HAA.out] at N1 AL PW2 PM2
                rw [HDD.out] at N2 DL PW2 PM2
                obtain ⟨Z, HZ⟩ : ∃ Z, Hid (A ++ [(i, k)] ++ D = Z) := ⟨_, rfl⟩
                obtain ⟨FF, HFF⟩ : ∃ FF, Hid (cellsP Z = FF) := ⟨_, rfl⟩
                have F1 : Hid (∀ q, q < j * 2 → (cellsP A)[q]? = FF[0 * 2 + q]?) := fun q hq => by rw [← HFF.out, ← HZ.out]; exact finP_1 A D (i, k) j q AL.out hq
                have F2 : Hid (∀ q, q < 1 * 2 → (cellsP [(i, k)])[q]? = FF[j * 2 + q]?) := fun q hq => by rw [← HFF.out, ← HZ.out]; exact finP_2 A D (i, k) j q AL.out hq
                have F3 : Hid (∀ q, (cellsP D)[q]? = FF[(j + 1) * 2 + q]?) := fun q => by rw [← HFF.out, ← HZ.out]; exact finP_3 A D (i, k) j q AL.out
                have ZL : Hid (Z.length = j + 1 + (L - j)) := by show _ = _; rw [← HZ.out, List.length_append, List.length_append, AL.out, DL.out]; rfl
                have FL : Hid (FF.length = (j + 1 + (L - j)) * 2) := by show _ = _; rw [← HFF.out, cellsP_len, ZL.out]
                rw [HZ.out] at PW2 PM2
                go_wp2_with fail
                have hne := KR.later_some (frel W.heap.size 36 FF 2) W
                refine KR.wp_region_k (E := frel W.heap.size 36 FF 2) (fun _ _ _ _ => True) (by kernel_rfl) (by kernel_rfl) (by kernel_rfl) ?_
                refine KR.lexK_some (fun u w' => LitF W.heap.size 36 w' u 0 #[]) (fun u => LitF.up (by simp)) rfl (fun w1' he1 _ => ?_) ?_
                · exact ⟨.slice (some ⟨w1'.heap.size, 0, none⟩) 0 0, w1'.alloc (.cells #[] 36), by kernel_rfl, ExtF.ofExt (ext_alloc _ _), _, rfl, he1.size, heap_alloc_top _ _⟩
                intro u56 w56 _ _ _
                simp only [Act.put, List.setIfInBounds_toArray, List.set_cons_succ, List.set_cons_zero]
                refine KR.lexK_take 3 (by kernel_rfl) ?_
                simp only [List.take_succ_cons, List.take_zero, List.drop_succ_cons, List.drop_zero]
                repeat (go_big_quiet_step (fail))
                refine wpQuiet_nil ?_
                refine KR.lexK_some (fun u w' => OwnF W.heap.size 36 FF 2 w' u j ∧ (j = 0 → ∃ a', u = .slice a' 0 0)) (fun u w1' w2' h12 h => ⟨OwnF.up _ _ h12 h.1, h.2⟩) rfl (fun w2' he2 hf2 => ?_) ?_
                · have hb := (hf2 56 (by decide)).2 rfl
                  have e2 : Ext W w2' := he2.ext
                  obtain ⟨g56, hg56, _⟩ := id hb
                  obtain ⟨u2, w3', q1, q2, q3, q4⟩ := append_F (P := Tryz.prog) (lo := 2) 34 34 _ Tryz.underlying34 infoP rfl (by decide) _ _ 0 j _ _ (cellsP A) hb.own rfl N1.out.2.1 (by rw [cellsP_len, AL.out]) (fun ad hd q u hq => e2.cellOf (N1.out.2.2 ad hd q u hq)) (cellsP_one A) F1.out
                    (by
                      by_cases h0 : j = 0
                      · exact .inl h0
                      · refine .inr (.inr fun a' c' hv => ?_)
                        rw [hg56] at hv
                        simp only [Value.slice.injEq] at hv
                        omega) (by unfold maxLen; omega) (by omega) he2.size
                  rw [Nat.zero_add] at q3
                  refine ⟨u2, w3', run_append_op rfl rfl rfl q1, q2, q3, fun h0 => ?_⟩
                  have := q4 _ _ hg56 (by omega)
                  rw [h0] at this
                  exact this
                intro u60 w60 _ _ _
                simp only [Act.put, List.setIfInBounds_toArray, List.set_cons_succ, List.set_cons_zero]
                refine KR.lexK_take 2 (by kernel_rfl) ?_
                simp only [List.take_succ_cons, List.take_zero, List.drop_succ_cons, List.drop_zero]
                repeat (go_big_quiet_step (fail))
                refine wpQuiet_nil ?_
                refine KR.lexK_val (.agg #[.int .i64 (i : Int), .int .i64 (k : Int)]) rfl (fun w' _ _ => by kernel_rfl) ?_
                simp only [Act.put, List.setIfInBounds_toArray, List.set_cons_succ, List.set_cons_zero]
                refine KR.lexK_some (fun u w' => LitF W.heap.size 36 w' u 1 #[.int .i64 (i : Int), .int .i64 (k : Int)]) (fun u => LitF.up (by simp)) rfl (fun w1' he1 _ => ?_) ?_
                · exact ⟨.slice (some ⟨w1'.heap.size, 0, none⟩) 1 1, w1'.alloc (.cells #[.int .i64 (i : Int), .int .i64 (k : Int)] 36), by kernel_rfl, ExtF.ofExt (ext_alloc _ _), _, rfl, he1.size, heap_alloc_top _ _⟩
                intro u64 w64 _ _ _
                simp only [Act.put, List.setIfInBounds_toArray, List.set_cons_succ, List.set_cons_zero]
                refine KR.lexK_some (fun u w' => OwnF W.heap.size 36 FF 2 w' u (j + 1)) (fun u => OwnF.up) rfl (fun w2' he2 hf2 => ?_) ?_
                · have hb := (hf2 60 (by decide)).1.2 rfl
                  have hl := (hf2 64 (by decide)).2 rfl
                  obtain ⟨ad, had, hnew⟩ := hl.news
                  obtain ⟨u2, w3', q1, q2, q3, q4⟩ := append_F (P := Tryz.prog) (lo := 2) 34 34 _ Tryz.underlying34 infoP rfl (by decide) _ _ j 1 (some ad) 1 (cellsP [(i, k)]) hb.1 had (fun h => by cases h) rfl (fun ad' hd q u hq => by
                      simp only [Option.some.injEq] at hd
                      subst hd
                      exact hnew q u hq) (cellsP_one _) F2.out
                    (by
                      by_cases h0 : j = 0
                      · refine .inr (.inr fun a' c' hv => ?_)
                        obtain ⟨a'', h1⟩ := hb.2 h0
                        rw [h1] at hv
                        simp only [Value.slice.injEq] at hv
                        omega
                      · exact .inr (.inl (by omega))) (by unfold maxLen; omega) (by rw [FL.out]; omega) he2.size
                  exact ⟨u2, w3', run_append_op rfl rfl rfl q1, q2, q3⟩
                intro u65 w65 _ _ _
                simp only [Act.put, List.setIfInBounds_toArray, List.set_cons_succ, List.set_cons_zero]
                refine KR.lexK_take 3 (by kernel_rfl) ?_
                simp only [List.take_succ_cons, List.take_zero, List.drop_succ_cons, List.drop_zero]
                repeat (go_big_quiet_step (fail))
                refine wpQuiet_nil ?_
                refine KR.lexK_some (fun u w' => OwnF W.heap.size 36 FF 2 w' u (j + 1 + (L - j))) (fun u => OwnF.up) rfl (fun w2' he2 hf2 => ?_) ?_
                · have hb := (hf2 65 (by decide)).2 rfl
                  have e2 : Ext W w2' := he2.ext
                  obtain ⟨u2, w3', q1, q2, q3, q4⟩ := append_F (P := Tryz.prog) (lo := 2) 34 34 _ Tryz.underlying34 infoP rfl (by decide) _ _ (j + 1) (L - j) _ _ (cellsP D) hb rfl N2.out.2.1 (by rw [cellsP_len, DL.out]) (fun ad hd q u hq => e2.cellOf (N2.out.2.2 ad hd q u hq)) (cellsP_one D) (fun q _ => F3.out q)
                    (by
                      by_cases h0 : L - j = 0
                      · exact .inl h0
                      · exact .inr (.inl (by omega))) (by unfold maxLen; omega) (by rw [FL.out]; omega) he2.size
                  exact ⟨u2, w3', run_append_op rfl rfl rfl q1, q2, q3⟩
                intro u69 w69 _ _ _
                simp only [Act.put, List.setIfInBounds_toArray, List.set_cons_succ, List.set_cons_zero]
                refine KR.lexK_take 1 (by kernel_rfl) ?_
                simp only [List.take_succ_cons, List.take_zero, List.drop_succ_cons, List.drop_zero]
                repeat (go_big_quiet_step (fail))
                refine wpQuiet_nil ?_
                refine KR.lexK_nil ?_
                intro w5 he5 hf5
                have OF := (hf5 69).2 rfl
                have EF : Ext W w5 := he5.ext
                have OP : Hid (OwnP w.heap.size w5 u69 Z) := by
                  have h1 := OF.owns (by rw [FL.out]; omega)
                  rw [List.take_of_length_le (by rw [FL.out]; omega)] at h1
                  have h2 : OwnP W.heap.size w5 u69 Z := by
                    unfold OwnP
                    rw [ZL.out, HFF.out]
                    exact h1
                  exact h2.low (E1.out.trans HEX.out).size
                have XE : Hid (Ext w w5) := (E1.out.trans HEX.out).trans EF
                clear hne r1 r2 he5 hf5 OF EF
                go_wp2
                go_roundw
                case rel => exact ⟨k + 1, Z, by omega, by go_num, PM2, PW2, OP, XE⟩
                case measure => simp [intOf]; omega
        · have hlt2' : decide ((k : Int) < m) = false := by simp; omega
          have hkm : k = m := by omega
          subst hkm
          have PM2 : Hid (out.Perm (listK zss (i + 1))) := by show List.Perm _ _; rw [listK_succ, HM.out]; exact PM.out
          go_wp2
          go_roundw
          case rel => exact ⟨i + 1, out, by omega, by go_num, PM2, PW, HO, HE⟩
          case measure => simp [intOf]; omega
    · have hlt' : decide ((i : Int) < n) = false := by simp; omega
      have hin : i = n := by omega
      subst hin
      have HQ : Hid (listP zss = listK zss i) := by show _ = _; unfold listP; rw [HN.out]
      go_wp2
      go_ret
      exact ⟨_, out, rfl, by rw [HQ.out]; exact PM.out, PW.out, HO.out, HE.out⟩
end Go.Proofs.YtlmbdafilboblaaGreat
