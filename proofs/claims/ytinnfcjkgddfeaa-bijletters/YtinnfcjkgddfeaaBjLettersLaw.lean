/- BijLetters: the walk. -/
import Derived.Test.YtinnfcjkgddfeaaPart3
import Derived.Test.YtinnfcjkgddfeaaBjBothLaw
import Derived.Test.YtinnfcjkgddfeaaPart4
namespace Go.Proofs.Ytinnfcjkgddfeaa
set_option linter.unusedVariables false
set_option linter.unusedSimpArgs false
open Go.RowKit

/-- What the calls of the last region hand back. -/
def letS (b : Bool) (f : FuncId) (v : Value) : Prop :=
  match f with
  | 13 => v = .bool b
  | _ => v = .bool true
theorem letS_1 {b : Bool} {v : Value} : letS b 13 v ↔ v = .bool b := Iff.rfl
theorem letS_2 {b : Bool} {v : Value} : letS b 10 v ↔ v = .bool true := Iff.rfl

set_option maxRecDepth 100000 in
set_option maxHeartbeats 2000000 in
theorem lawLetters (v : Value) (s : List Int) (w : World) (hv : Sl .u8 w v s) (h8 : Bytes8 s) :
    Calls Try.prog 6 #[v] w fun e w' => e = .returned (.bool true) ∧ Ext w w' := by
  have HV := hide' hv
  have H8 := hide' h8
  obtain ⟨va, vc, rfl, _⟩ := hv
  clear h8
  by_cases h1 : (100 : Int) < (s.length : Int)
  · go_enter Try.func6, Try.ntmps6
    go_wp2
    go_ret
    exact ⟨rfl, Ext.refl _⟩
  have d1 : decide ((100 : Int) < (s.length : Int)) = false := by simpa using h1
  have HS5 : Hid (s.length ≤ 100000) := by show _ ≤ _; omega
  obtain ⟨n, HN⟩ : ∃ n, Hid (s.length = n) := ⟨_, rfl⟩
  have hn : n ≤ 100 := by rw [← HN.out]; omega
  rw [HN.out] at HV d1 ⊢
  clear h1
  have e3 : ((n : Int) != (n : Int)) = false := by simp
  have hzt := zero_tab6
  go_enter Try.func6, Try.ntmps6
  go_wp2_with fail
  refine (bjTurn_any _ s w HV.out H8.out HS5.out).mono ?_
  rintro e w1 ⟨L, u1, rfl, hl, ho, he⟩
  have HPM : Hid (L.Perm s) := hl.perm H8.out
  have HLL : Hid (L.length = n) := by show _ = _; rw [hl.len H8.out, HN.out]
  have HL8 : Hid (Bytes8 L) := H8.out.perm HPM.out
  have HFI : Hid (lynB s = true → L.getD 0 0 = s.getD (n - 1) 0) := fun h => by
    have := hl.first H8.out (of_decide_eq_true h)
    rwa [HN.out] at this
  have HLY : Hid (Lyn s → 0 < n) := fun h => by have := h.1; have := HN.out; omega
  clear hl
  have O1 := hide' ho.sl
  have X1 := hide' he
  have V1 := hide' (HV.out.ext he)
  clear ho he
  obtain ⟨la, lc, hs0, _⟩ := O1.out
  rw [HLL.out] at hs0
  subst hs0
  have HO := hide' (Own.lit (k := .i64) (e := 29) (B := w1.heap.size) w1 (List.replicate 256 0) 256 List.length_replicate (by decide) (Nat.le_refl _))
  have HE := hide' (ext_alloc w1 (.cells (tab6 (List.replicate 256 0)) 29))
  have HOT : Hid (Own .i64 29 w1.heap.size (w1.alloc (.cells (tab6 (List.replicate 256 0)) 29)) (.slice (some ⟨w1.heap.size, 0, none⟩) 256 256) (List.replicate 256 0)) := HO.out
  have VA : Hid (0 < n → ∃ g off, va = some ⟨g, off, none⟩ ∧ ∀ W j, Ext w1 W → j < n → W.cell? ⟨g, off + j, none⟩ = some (.int .u8 (s.getD j 0))) := fun h0 => by
    obtain ⟨_, g, off, h1, h2⟩ := V1.out.at (fun e => by have := HN.out; rw [e] at this; simp at this; omega)
    exact ⟨g, off, h1, fun W j he hj => he.cellOf (h2 j (by first | exact hj | (rw [HN.out]; exact hj)))⟩
  have LA : Hid (0 < n → ∃ g off, la = some ⟨g, off, none⟩ ∧ ∀ W j, Ext w1 W → j < n → W.cell? ⟨g, off + j, none⟩ = some (.int .u8 (L.getD j 0))) := fun h0 => by
    obtain ⟨_, g, off, h1, h2⟩ := O1.out.at (fun e => by have := HLL.out; rw [e] at this; simp at this; omega)
    exact ⟨g, off, h1, fun W j he hj => he.cellOf (h2 j (by first | exact hj | (rw [HLL.out]; exact hj)))⟩
  clear HO
  go_wp2
  clear hzt
  obtain ⟨g, HG⟩ : ∃ g, Hid (w1.heap.size = g) := ⟨_, rfl⟩
  rw [HG.out] at HOT ⊢
  go_loopw [6] (fun vi wr => ∃ (i : Nat) (R : List Int), i ≤ n ∧ vi = .int .i64 i ∧ Hid (Cnt s L i R) ∧ Hid (Own .i64 29 g wr (.slice (some ⟨g, 0, none⟩) 256 256) R) ∧ Hid (Ext w1 wr)) (fun vi _ => n - (intOf vi).toNat)
  case atStart => exact ⟨0, _, Nat.zero_le _, rfl, Cnt.start s L, HOT, HE⟩
  case round =>
    clear HOT HE
    obtain ⟨i, R, hi, rfl, HC, HO, HE⟩ := hrel
    by_cases hlt : i < n
    · have hlt' : (i : Int) < n := by omega
      obtain ⟨g1, o1, rfl, k1⟩ := VA.out (by omega)
      obtain ⟨g2, o2, rfl, k2⟩ := LA.out (by omega)
      have K2 := hide' k2
      have c1 := k1 wr i HE.out hlt
      clear k1 k2
      have z1 := H8.out.get i
      have z2 := HL8.out.get i
      have HNX : Hid (∀ p q : Nat, s.getD i 0 = (p : Int) → L.getD i 0 = (q : Int) → p < 256 → q < 256 → Cnt s L (i + 1) ((R.set p (R.getD p 0 + 1)).set q ((R.set p (R.getD p 0 + 1)).getD q 0 - 1))) := fun p q h1 h2 h3 h4 => HC.out.next (by rw [HN.out]; exact hlt) (by rw [HLL.out]; exact hlt) h1 h2 h3 h4
      obtain ⟨p, hp⟩ : ∃ p : Nat, s.getD i 0 = (p : Int) := Int.eq_ofNat_of_zero_le z1.1
      obtain ⟨q, hq⟩ : ∃ p : Nat, L.getD i 0 = (p : Int) := Int.eq_ofNat_of_zero_le z2.1
      have HNX2 := hide' (HNX.out p q hp hq (by omega) (by omega))
      have hp6 : p < 256 := by omega
      have hq6 : q < 256 := by omega
      rw [hp] at c1
      have HQ2 := hide' hq
      clear hp hq z1 z2 HNX
      have hp6' : (p : Int) < 256 := by omega
      have hq6' : (q : Int) < 256 := by omega
      have b1 := HC.out.bd hp6
      have c3 := HO.out.cell HC.out.len p hp6
      have f3 := HO.out.frozen HC.out.len p
      obtain ⟨A, HA⟩ : ∃ z, Hid (R.getD p 0 = z) := ⟨_, rfl⟩
      rw [HA.out] at c3 b1 HNX2
      have wA : IntKind.i64.wrap (A + 1) = A + 1 := by rw [IntKind.wrap_i64]; omega
      have HO1 := hide' (HO.out.store HC.out.len p (A + 1))
      have HL1 : Hid ((R.set p (A + 1)).length = 256) := by show _ = _; rw [List.length_set]; exact HC.out.len
      have hgw : w1.heap.size ≤ g := by rw [← HG.out]; exact Nat.le_refl _
      have HE1 := hide' (Ext.but HE.out hgw (but_set wr g p (.int .i64 (A + 1))))
      have c2 := K2.out _ i HE1.out hlt
      rw [HQ2.out] at c2
      have c4 := HO1.out.cell HL1.out q hq6
      have f4 := HO1.out.frozen HL1.out q
      have b2 : -(i : Int) - 1 ≤ (R.set p (A + 1)).getD q 0 ∧ (R.set p (A + 1)).getD q 0 ≤ i + 1 := by
        have := HC.out.bd hq6
        by_cases e : p = q
        · subst e; rw [setI_same (by rw [HC.out.len]; exact hp6)]; omega
        · rw [setI_other e]; omega
      obtain ⟨B, HB⟩ : ∃ z, Hid ((R.set p (A + 1)).getD q 0 = z) := ⟨_, rfl⟩
      rw [HB.out] at c4 b2 HNX2
      have wB : IntKind.i64.wrap (B - 1) = B - 1 := by rw [IntKind.wrap_i64]; omega
      have HO2 := hide' (HO1.out.store HL1.out q (B - 1))
      have HE2 := hide' (Ext.but HE1.out hgw (but_set _ g q (.int .i64 (B - 1))))
      clear HO HO1 HE HE1 hgw
      go_wp2
      go_roundw
      case rel => exact ⟨i + 1, _, by omega, by go_num, HNX2, HO2, HE2⟩
      case measure => simp [intOf] <;> omega
    · have d7 : decide ((i : Int) < n) = false := by simp; omega
      have HZ := hide' (HC.out.done (by rw [HN.out]; omega) HPM.out.symm)
      have HRL := hide' HC.out.len
      clear HC
      go_wp2
      go_loopw [7] (fun vi wq => ∃ (j : Nat), j ≤ 256 ∧ vi = .int .i64 j ∧ wq = wr) (fun vi _ => 256 - (intOf vi).toNat)
      case atStart => exact ⟨0, Nat.zero_le _, rfl, rfl⟩
      case round =>
        obtain ⟨j, hj, rfl, hw⟩ := hrel
        subst hw
        by_cases hjt : j < 256
        · have hjt' : (j : Int) < 256 := by omega
          have c5 := HO.out.cell HRL.out j hjt
          rw [HZ.out j hjt] at c5
          go_wp2
          go_roundw
          case rel => exact ⟨j + 1, by omega, by go_num, by first | rfl | trivial⟩
          case measure => simp [intOf] <;> omega
        · have d8 : decide ((j : Int) < 256) = false := by simp; omega
          have d8' : decide (j < 256) = false := by simp; omega
          have HEW := hide' (X1.out.trans HE.out)
          have hne := later_some wr
          have CIS : Hid (∀ w', Ext wr w' → Calls Try.prog 13 #[.slice va n vc] w' fun e w'' => e = .returned (.bool (lynB s)) ∧ Ext w' w'') := fun w' he => toExt (rlynIs_any _ s w' (HV.out.ext (HEW.out.trans he)) (by have := HN.out; omega))
          cases hb : lynB s
          · rw [hb] at CIS
            clear hb
            go_wp2_with fail
            refine wp_region_k (fun f _ v _ => letS false f v) (by kernel_rfl) (by kernel_rfl) (by kernel_rfl) ?_
            refine lexK_take 1 (by kernel_rfl) ?_
            simp only [List.take_succ_cons, List.take_zero, List.drop_succ_cons, List.drop_zero]
            repeat (go_big_quiet_step (fail))
            refine wpQuiet_nil ?_
            refine lexK_call1 13 #[.slice va n vc] (.bool false) (fun _ _ => letS_1) rfl (fun w' => ?_) (fun w' he _ => CIS.out w' he) ?_
            · go_simp
            simp only [Act.put, List.setIfInBounds_toArray, List.set_cons_succ, List.set_cons_zero]
            refine lexK_take 19 (by kernel_rfl) ?_
            simp only [List.take_succ_cons, List.take_zero, List.drop_succ_cons, List.drop_zero]
            repeat (go_big_quiet_step (fail))
            refine wpQuiet_nil ?_
            refine lexK_call1 10 #[] (.bool true) (fun _ _ => letS_2) rfl (fun w' => ?_) (fun w' he _ => known_any w') ?_
            · go_simp
            simp only [Act.put, List.setIfInBounds_toArray, List.set_cons_succ, List.set_cons_zero]
            refine lexK_take 2 (by kernel_rfl) ?_
            simp only [List.take_succ_cons, List.take_zero, List.drop_succ_cons, List.drop_zero, List.take_nil, List.drop_nil]
            repeat (go_big_quiet_step (fail))
            refine wpQuiet_nil ?_
            refine lexK_nil ?_
            intro w5 he5 _
            have X5 := hide' (HEW.out.trans he5)
            clear he5 hne
            go_wp2
            go_ret
            exact ⟨rfl, X5.out⟩
          · have hf1 := HFI.out hb
            have h0n' : 0 < n := HLY.out (of_decide_eq_true hb)
            rw [hb] at CIS
            obtain ⟨g1, o1, rfl, k1⟩ := VA.out h0n'
            obtain ⟨g2, o2, rfl, k2⟩ := LA.out h0n'
            obtain ⟨N, HNN⟩ : ∃ N, Hid (n = N + 1) := ⟨n - 1, by show _ = _; omega⟩
            have hN1 : (n : Int) - 1 = (N : Int) := by have := HNN.out; omega
            have wN : IntKind.i64.wrap (N : Int) = (N : Int) := by rw [IntKind.wrap_i64]; omega
            have hNn : N < n := by have := HNN.out; omega
            have hNn' : (N : Int) < n := by omega
            have h0n : (0 : Int) < n := by omega
            have d9 : decide ((n : Int) < 1) = false := by simp; omega
            have d9' : decide (n < 1) = false := by simp; omega
            have c6 := k1 wr N HE.out hNn
            have c7 := k2 wr 0 HE.out h0n'
            rw [Nat.add_zero, hf1, show n - 1 = N by have := HNN.out; omega] at c7
            obtain ⟨y, HY⟩ : ∃ y, Hid (s.getD N 0 = y) := ⟨_, rfl⟩
            rw [HY.out] at c6 c7
            have c6' := later_cell c6
            have c7' := later_cell c7
            have q1 : (y == y) = true := by simp
            clear k1 k2 hf1 hb
            go_wp2_with fail
            refine wp_region_k (fun f _ v _ => letS true f v) (by kernel_rfl) (by kernel_rfl) (by kernel_rfl) ?_
            refine lexK_take 1 (by kernel_rfl) ?_
            simp only [List.take_succ_cons, List.take_zero, List.drop_succ_cons, List.drop_zero]
            repeat (go_big_quiet_step (fail))
            refine wpQuiet_nil ?_
            refine lexK_call1 13 #[.slice (some ⟨g1, o1, none⟩) n vc] (.bool true) (fun _ _ => letS_1) rfl (fun w' => ?_) (fun w' he _ => CIS.out w' he) ?_
            · go_simp
            simp only [Act.put, List.setIfInBounds_toArray, List.set_cons_succ, List.set_cons_zero]
            refine lexK_take 19 (by kernel_rfl) ?_
            simp only [List.take_succ_cons, List.take_zero, List.drop_succ_cons, List.drop_zero]
            repeat (go_big_quiet_step (fail))
            refine wpQuiet_nil ?_
            refine lexK_call1 10 #[] (.bool true) (fun _ _ => letS_2) rfl (fun w' => ?_) (fun w' he _ => known_any w') ?_
            · go_simp
            simp only [Act.put, List.setIfInBounds_toArray, List.set_cons_succ, List.set_cons_zero]
            refine lexK_take 2 (by kernel_rfl) ?_
            simp only [List.take_succ_cons, List.take_zero, List.drop_succ_cons, List.drop_zero, List.take_nil, List.drop_nil]
            repeat (go_big_quiet_step (fail))
            refine wpQuiet_nil ?_
            refine lexK_nil ?_
            intro w5 he5 _
            have X5 := hide' (HEW.out.trans he5)
            clear he5 hne c6 c7 c6' c7'
            go_wp2
            go_ret
            exact ⟨rfl, X5.out⟩
end Go.Proofs.Ytinnfcjkgddfeaa
