/- Contracts of skew.restInOrder and ranksOf. -/
import Derived.Test.YtnacjmkconabdaaSkBy
namespace Go.Proofs.Ytnacjmkconabdaa
set_option linter.unusedVariables false
set_option linter.unusedSimpArgs false
open Go.RowKit

theorem rest_pass {s : List Int} (hs : NonNeg s) {k : Nat} (h : fitB (tailI s) (k : Int) = true) {G : List Nat} (hG : InSamp s G) : ∃ T, passI (natL (restOf G)) (tailI s) (k : Int) = natL T ∧ InRest s T := by
  have h1 := pas_pass h (P := restOf G) (a := 0) (by omega) (fun p hp => by have := (restOf_mem hG).1 hp; omega)
  rw [List.drop_zero] at h1
  exact ⟨_, h1, rest_ord hs (tail_lt h) hG⟩

set_option maxHeartbeats 1000000 in
theorem rest_any (sv pv : Value) (s : List Int) (G : List Nat) (k : Nat) (w : World) (hs : Sl .i64 w sv (tailI s)) (hp : Sl .i64 w pv (natL G)) (hnn : NonNeg s) (hfit : fitB (tailI s) (k : Int) = true) (hG : InSamp s G) (hlen : s.length ≤ 200000) :
    Calls Try.prog 27 #[sv, .int .i64 (k : Int), pv] w fun e w' => ∃ u T, e = .returned u ∧ InRest s T ∧ Own .i64 3 w.heap.size w' u (natL T) ∧ Ext w w' := by
  have HV := hide' hs
  have HLEN := hide' hlen
  obtain ⟨T, ht1, ht2⟩ := rest_pass hnn hfit hG
  have HT1 := hide' ht1
  have HT2 := hide' ht2
  have hml := sampM_le s.length
  have hgl := hG.len
  have HMM : Hid (∀ i, i < G.length → G.getD i 0 ≤ s.length) := fun i hi => by
    have := hG.mem.1 (getN_mem hi)
    omega
  obtain ⟨pa, pc, hpe, _⟩ := id hp
  subst hpe
  rw [natL_len] at hp ⊢
  obtain ⟨_, _, _, hcp⟩ := hp.nat
  have CP := hide' hcp
  have HTL : Hid ((tailI s).length ≤ 1000000) := by show _ ≤ _; rw [tailI_len]; omega
  obtain ⟨m, HM⟩ : ∃ m, Hid (G.length = m) := ⟨_, rfl⟩
  have hm : m ≤ 200000 := by rw [← HM.out, hgl]; omega
  rw [HM.out] at CP HMM ⊢
  clear hs hp hnn hfit hG ht1 ht2 hml hgl hcp
  go_enter Try.func27, Try.ntmps27
  go_wp2
  go_loopw [7, 12] (fun ov vi wr => ∃ (i : Nat), i ≤ m ∧ vi = .int .i64 i ∧ Hid (Own .i64 3 w.heap.size wr ov (natL (restOf (G.take i)))) ∧ Hid (Ext w wr)) (fun _ vi _ => m - (intOf vi).toNat)
  case atStart => exact ⟨0, Nat.zero_le _, rfl, Own.nil _ _ _ _, Ext.refl _⟩
  case round =>
    obtain ⟨i, hi, rfl, HO, HE⟩ := hrel
    have hsz := HE.out.size
    by_cases hlt : i < m
    · have hlt' : (i : Int) < m := by omega
      obtain ⟨g1, o1, rfl, k1⟩ := CP.out (by omega)
      have c1 := HE.out.cellOf (k1 i hlt)
      have hpn := HMM.out i hlt
      have hiG : i < G.length := by rw [HM.out]; exact hlt
      have HY := hide' (fun h => restOf_yes (G := G) (i := i) hiG h)
      have HNO := hide' (fun h => restOf_no (G := G) (i := i) hiG h)
      obtain ⟨p, HP⟩ : ∃ p, Hid (G.getD i 0 = p) := ⟨_, rfl⟩
      rw [HP.out] at c1 hpn HY HNO
      have hpl : p ≤ 200000 := by have := HLEN.out; omega
      have m1 : (p : Int).tmod 3 = ((p % 3 : Nat) : Int) := by rw [Int.tmod_eq_emod_of_nonneg (by omega)]; omega
      obtain ⟨r, HR⟩ : ∃ r, Hid (p % 3 = r) := ⟨_, rfl⟩
      rw [HR.out] at m1 HY HNO
      clear k1 hiG
      by_cases hr : r = 1
      · have d1 : ((r : Int) == 1) = true := by simp; omega
        have HZ := hide' (HY.out hr)
        have hp1 : (p : Int) - 1 = ((p - 1 : Nat) : Int) := by have := HR.out; omega
        obtain ⟨y, HYY⟩ : ∃ y, Hid (p - 1 = y) := ⟨_, rfl⟩
        rw [HYY.out] at hp1 HZ
        have HL : Hid ((natL (restOf (G.take i))).length ≤ 1000000) := by
          show _ ≤ _
          rw [natL_len]
          have := restOf_len (G.take i)
          rw [List.length_take] at this
          omega
        clear hr HY HNO
        go_wp2_with (at_builtin; refine wpList_snoc _ rfl _ _ 22 rfl 3 .i64 8 Try.underlying22 infoI64 w.heap.size _ (natL (restOf (G.take i))) (y : Int) ⟨wr.heap.size, 0, none⟩ rfl rfl ?c4 (HO.out.alloc _) ?c3 ?c5 ?_)
        case c3 => have := HL.out; unfold maxLen; omega
        case c5 => simp; omega
        case c4 => simp only [World.cell?, heap_alloc_top]; simp
        intro v1 w4 ho1 hb1
        have HO1 : Hid (Own .i64 3 w.heap.size w4 v1 (natL (restOf (G.take (i + 1))))) := by rw [HZ.out, ← natL_snoc]; exact ho1
        have HE1 : Hid (Ext w w4) := Below.trans (HE.out.trans (ext_alloc _ _)) hb1
        clear ho1 hb1
        go_wp2
        go_roundw
        case rel => exact ⟨i + 1, by omega, by go_num, HO1, HE1⟩
        case measure => simp [intOf] <;> omega
      · have d1 : ((r : Int) == 1) = false := by simp; omega
        have HZ := hide' (HNO.out hr)
        rw [← HZ.out] at HO
        clear hr HY HNO
        go_wp2
        go_roundw
        case rel => exact ⟨i + 1, by omega, by go_num, HO, HE⟩
        case measure => simp [intOf] <;> omega
    · have d1 : decide ((i : Int) < m) = false := by simp; omega
      have hin : i = m := by omega
      have HG : Hid (restOf (G.take i) = restOf G) := by
        show _ = _
        rw [List.take_of_length_le (by rw [HM.out]; omega)]
      rw [HG.out] at HO
      have HL : Hid ((natL (restOf G)).length ≤ 1000000) := by
        show _ ≤ _
        rw [natL_len]
        have := restOf_len G
        rw [HM.out] at this
        omega
      have C := hide' (pass_any _ _ _ _ (k : Int) wr HO.out.sl (HV.out.ext HE.out) HL.out HTL.out)
      rw [HT1.out] at C
      go_wp2_with fail
      refine C.out.mono ?_
      rintro e w1 ⟨u, rfl, ho, he⟩
      have O1 := hide' (ho.low hsz)
      have X1 := hide' (HE.out.trans he)
      clear ho he C
      go_wp2
      go_ret
      exact ⟨_, T, rfl, HT2.out, O1.out, X1.out⟩

set_option maxHeartbeats 1000000 in
theorem ranks_any (pv : Value) (s : List Int) (G : List Nat) (w : World) (hp : Sl .i64 w pv (natL G)) (hG : InSamp s G) (hlen : s.length ≤ 200000) :
    Calls Try.prog 28 #[pv, .int .i64 ((s.length + 3 : Nat) : Int)] w fun e w' => ∃ u r, e = .returned u ∧ RankT G (s.length + 3) G.length r ∧ Own .i64 3 w.heap.size w' u r ∧ Ext w w' := by
  have hml := sampM_le s.length
  have hgl := hG.len
  have HND : Hid G.Nodup := hG.ord.imp fun h e => by
    rw [e] at h
    exact ltE_irrefl h
  have HMM : Hid (∀ i, i < G.length → G.getD i 0 ≤ s.length) := fun i hi => by
    have := hG.mem.1 (getN_mem hi)
    omega
  obtain ⟨pa, pc, hpe, _⟩ := id hp
  subst hpe
  rw [natL_len] at hp ⊢
  obtain ⟨_, _, _, hcp⟩ := hp.nat
  have CP := hide' hcp
  obtain ⟨m, HM⟩ : ∃ m, Hid (G.length = m) := ⟨_, rfl⟩
  have hm : m ≤ 200000 := by rw [← HM.out, hgl]; omega
  rw [HM.out] at CP HMM ⊢
  obtain ⟨L, HL⟩ : ∃ L, Hid (s.length + 3 = L) := ⟨_, rfl⟩
  have hL : L ≤ 200003 := by rw [← HL.out]; omega
  have HML : Hid (∀ i, i < m → G.getD i 0 < L) := fun i hi => by
    have := HMM.out i hi
    have := HL.out
    omega
  rw [HL.out]
  obtain ⟨w1, hmk, ho, he⟩ := make_ints w L (by omega)
  obtain ⟨g, HG⟩ : ∃ g, Hid (w.heap.size = g) := ⟨_, rfl⟩
  have hgw : w.heap.size ≤ g := by rw [HG.out]; exact Nat.le_refl _
  rw [HG.out] at ho hmk ⊢
  have O1 := hide' ho
  have X1 := hide' he
  have N0 : Hid (RankT G L 0 (List.replicate L 0)) := RankT.start G L
  clear ho he hp hcp hG hml hgl
  go_enter Try.func28, Try.ntmps28
  go_wp2
  go_loopw [12] (fun vi wr => ∃ (i : Nat) (r : List Int), i ≤ m ∧ vi = .int .i64 i ∧ Hid (RankT G L i r) ∧ Hid (Own .i64 3 g wr (.slice (some ⟨g, 0, none⟩) L L) r) ∧ Hid (Ext w wr)) (fun vi _ => m - (intOf vi).toNat)
  case atStart => exact ⟨0, _, Nat.zero_le _, rfl, N0, O1, X1⟩
  case round =>
    clear O1 X1 N0 hmk
    obtain ⟨i, r, hi, rfl, HR, HO, HE⟩ := hrel
    have HRL : Hid (r.length = L) := HR.out.len
    by_cases hlt : i < m
    · have hlt' : (i : Int) < m := by omega
      have hiG : i < G.length := by rw [HM.out]; exact hlt
      have hp1 := HML.out i hlt
      have N1 := hide' (HR.out.next HND.out hiG hp1)
      obtain ⟨g1, o1, rfl, k1⟩ := CP.out (by omega)
      have c1 := HE.out.cellOf (k1 i hlt)
      obtain ⟨p, HP⟩ : ∃ p, Hid (G.getD i 0 = p) := ⟨_, rfl⟩
      rw [HP.out] at c1 N1 hp1
      have hp1' : (p : Int) < L := by omega
      have c3 := HO.out.cell HRL.out p hp1
      have z3 := HO.out.frozen HRL.out p
      have O6 := hide' (HO.out.store HRL.out p ((i : Int) + 1))
      have X6 : Hid (Ext w (wr.setCell ⟨g, p, none⟩ (.int .i64 ((i : Int) + 1)))) := Ext.but HE.out hgw (but_set _ _ _ _)
      clear k1 HO HE HR hiG
      go_wp2
      go_roundw
      case rel => exact ⟨i + 1, _, by omega, by go_num, N1, O6, X6⟩
      case measure => simp [intOf] <;> omega
    · have d1 : decide ((i : Int) < m) = false := by simp; omega
      have hin : m = i := by omega
      have HF : Hid (RankT G L m r) := by have := HR.out; rw [← hin] at this; exact this
      go_wp2
      go_ret
      exact ⟨_, r, rfl, HF.out, HO.out, HE.out⟩
end Go.Proofs.Ytnacjmkconabdaa
