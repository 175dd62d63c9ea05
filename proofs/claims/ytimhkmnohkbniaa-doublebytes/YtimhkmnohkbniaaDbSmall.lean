/- Contracts of double.numbers, places, byRanks, settled and alike. -/
import Derived.Test.YtimhkmnohkbniaaDbMore
import Derived.Test.YtimhkmnohkbniaaBktPass
import Derived.Test.YtimhkmnohkbniaaResMath
namespace Go.Proofs.Ytimhkmnohkbniaa
set_option linter.unusedVariables false
set_option linter.unusedSimpArgs false
open Go.RowKit

set_option maxHeartbeats 1000000 in
theorem dbNumbers_any (v : Value) (zs : List Int) (w : World) (hv : Sl .u8 w v zs) (h8 : Bytes8 zs) (hlen : zs.length ≤ 1000000) :
    Calls Try.prog 23 #[v] w fun e w' => ∃ u, e = .returned u ∧ Own .i64 3 w.heap.size w' u zs ∧ Ext w w' := by
  have HV := hide' hv
  have H8 := hide' h8
  obtain ⟨a, c, rfl, _⟩ := hv
  obtain ⟨n, HN⟩ : ∃ n, Hid (zs.length = n) := ⟨_, rfl⟩
  rw [HN.out] at HV hlen ⊢
  obtain ⟨w1, hmk, ho, he⟩ := make_ints w n hlen
  obtain ⟨g, HG⟩ : ∃ g, Hid (w.heap.size = g) := ⟨_, rfl⟩
  have hgw : w.heap.size ≤ g := by rw [HG.out]; exact Nat.le_refl _
  rw [HG.out] at ho hmk ⊢
  have O1 := hide' ho
  have X1 := hide' he
  have H0 : Hid (HalfI zs 0 (List.replicate n 0)) := by show HalfI _ _ _; rw [← HN.out]; exact HalfI.start zs
  clear ho he h8
  go_enter Try.func23, Try.ntmps23
  go_wp2
  go_loopw [11] (fun vi wr => ∃ (i : Nat) (r : List Int), i ≤ n ∧ vi = .int .i64 i ∧ Hid (HalfI zs i r) ∧ Hid (Own .i64 3 g wr (.slice (some ⟨g, 0, none⟩) n n) r) ∧ Hid (Ext w wr)) (fun vi _ => n - (intOf vi).toNat)
  case atStart => exact ⟨0, _, Nat.zero_le _, rfl, H0, O1, X1⟩
  case round =>
    clear O1 X1 H0 hmk
    obtain ⟨i, r, hi, rfl, HH, HO, HE⟩ := hrel
    have HRL : Hid (r.length = n) := by show _ = _; rw [HH.out.len, HN.out]
    by_cases hlt : i < n
    · have hlt' : (i : Int) < n := by omega
      have H1 := hide' (HH.out.next (by rw [HN.out]; exact hlt))
      obtain ⟨_, g1, o1, rfl, k1⟩ := HV.out.at (fun e => by have := HN.out; rw [e] at this; simp at this; omega)
      have c1 := HE.out.cellOf (k1 i hlt)
      have hz := H8.out.get i
      obtain ⟨z, HZ⟩ : ∃ z, Hid (zs.getD i 0 = z) := ⟨_, rfl⟩
      rw [HZ.out] at c1 H1 hz
      have hw : IntKind.i64.wrap z = z := by rw [IntKind.wrap_i64]; omega
      have c3 := HO.out.cell HRL.out i hlt
      have z3 := HO.out.frozen HRL.out i
      have O6 := hide' (HO.out.store HRL.out i z)
      have X6 : Hid (Ext w (wr.setCell ⟨g, i, none⟩ (.int .i64 z))) := Ext.but HE.out hgw (but_set _ _ _ _)
      clear k1 HO HE HH
      go_wp2
      go_roundw
      case rel => exact ⟨i + 1, _, by omega, by go_num, H1, O6, X6⟩
      case measure => simp [intOf] <;> omega
    · have d2 : decide ((i : Int) < n) = false := by simp; omega
      have hin : n = i := by omega
      have HD : Hid (r = zs) := by
        show _ = _
        have := HH.out
        rw [← hin, ← HN.out] at this
        exact this.done
      go_wp2
      go_ret
      refine ⟨_, rfl, ?_, HE.out⟩
      rw [← HD.out]
      exact HO.out

theorem rangeL_at {n i : Nat} (h : i < n) : (natL (List.range n)).getD i 0 = (i : Int) := by
  rw [natL_at]
  simp [List.getD, h]

set_option maxHeartbeats 1000000 in
theorem places_any (n : Nat) (w : World) (hlen : n ≤ 1000000) :
    Calls Try.prog 30 #[.int .i64 n] w fun e w' => ∃ u, e = .returned u ∧ Own .i64 3 w.heap.size w' u (natL (List.range n)) ∧ Ext w w' := by
  obtain ⟨zs, HZS⟩ : ∃ zs, Hid (natL (List.range n) = zs) := ⟨_, rfl⟩
  have HN : Hid (zs.length = n) := by show _ = _; rw [← HZS.out, natL_len, List.length_range]
  have HAT : Hid (∀ i, i < n → zs.getD i 0 = (i : Int)) := fun i hi => by rw [← HZS.out]; exact rangeL_at hi
  rw [HZS.out]
  obtain ⟨w1, hmk, ho, he⟩ := make_ints w n hlen
  obtain ⟨g, HG⟩ : ∃ g, Hid (w.heap.size = g) := ⟨_, rfl⟩
  have hgw : w.heap.size ≤ g := by rw [HG.out]; exact Nat.le_refl _
  rw [HG.out] at ho hmk ⊢
  have O1 := hide' ho
  have X1 := hide' he
  have H0 : Hid (HalfI zs 0 (List.replicate n 0)) := by show HalfI _ _ _; rw [← HN.out]; exact HalfI.start zs
  clear ho he
  go_enter Try.func30, Try.ntmps30
  go_wp2
  go_loopw [9] (fun vi wr => ∃ (i : Nat) (r : List Int), i ≤ n ∧ vi = .int .i64 i ∧ Hid (HalfI zs i r) ∧ Hid (Own .i64 3 g wr (.slice (some ⟨g, 0, none⟩) n n) r) ∧ Hid (Ext w wr)) (fun vi _ => n - (intOf vi).toNat)
  case atStart => exact ⟨0, _, Nat.zero_le _, rfl, H0, O1, X1⟩
  case round =>
    clear O1 X1 H0 hmk
    obtain ⟨i, r, hi, rfl, HH, HO, HE⟩ := hrel
    have HRL : Hid (r.length = n) := by show _ = _; rw [HH.out.len, HN.out]
    by_cases hlt : i < n
    · have hlt' : (i : Int) < n := by omega
      have H1 := hide' (HH.out.next (by rw [HN.out]; exact hlt))
      have HI := hide' (HAT.out i hlt)
      rw [HI.out] at H1
      have c3 := HO.out.cell HRL.out i hlt
      have z3 := HO.out.frozen HRL.out i
      have O6 := hide' (HO.out.store HRL.out i (i : Int))
      have X6 : Hid (Ext w (wr.setCell ⟨g, i, none⟩ (.int .i64 (i : Int)))) := Ext.but HE.out hgw (but_set _ _ _ _)
      clear HO HE HH
      go_wp2
      go_roundw
      case rel => exact ⟨i + 1, _, by omega, by go_num, H1, O6, X6⟩
      case measure => simp [intOf] <;> omega
    · have d2 : decide ((i : Int) < n) = false := by simp; omega
      have hin : n = i := by omega
      have HD : Hid (r = zs) := by
        show _ = _
        have := HH.out
        rw [← hin, ← HN.out] at this
        exact this.done
      go_wp2
      go_ret
      refine ⟨_, rfl, ?_, HE.out⟩
      rw [← HD.out]
      exact HO.out

/-- A pass by ranks. -/
theorem byRanks_any (v u : Value) (s : List Int) (h : Nat) (F : List Nat) (w : World) (hv : Sl .i64 w v (natL F)) (hu : Sl .i64 w u (natL (hrL s h))) (hF : F.Perm (List.range s.length)) (hlen : s.length ≤ 1000000) :
    Calls Try.prog 29 #[v, u] w fun e w' => ∃ x, e = .returned x ∧ Own .i64 3 w.heap.size w' x (natL (csort s.length F (keyN (natL (hrL s h))))) ∧ Ext w w' := by
  have HFL : F.length = s.length := by rw [hF.length_eq, List.length_range]
  have HC := hide' (pass_any v u _ _ (s.length : Int) w hv hu (by rw [natL_len, HFL]; exact hlen) (by rw [natL_len, hrL_len]; exact hlen))
  rw [pass_hr hF hlen] at HC
  obtain ⟨a, c, rfl, _⟩ := id hv
  obtain ⟨ua, uc, hue, _⟩ := id hu
  subst hue
  simp only [natL_len, hrL_len, HFL] at HC ⊢
  obtain ⟨Z, HZ⟩ : ∃ Z, Hid (natL (csort s.length F (keyN (natL (hrL s h)))) = Z) := ⟨_, rfl⟩
  rw [HZ.out] at HC ⊢
  obtain ⟨B, HB⟩ : ∃ B, Hid (passB (natL F) (natL (hrL s h)) (s.length : Int) = B) := ⟨_, rfl⟩
  rw [HB.out] at HC
  clear hv hu hF HFL
  go_enter Try.func29, Try.ntmps29
  go_wp2_with fail
  refine HC.out.mono ?_
  rintro e w1 ⟨x, rfl, ho, he⟩
  have O1 := hide' ho
  have X1 := hide' he
  clear ho he HC
  go_wp2
  go_ret
  exact ⟨_, rfl, O1.out, X1.out⟩

/-- Do no two places have one rank? -/
def setN (s : List Int) (h : Nat) (R : List Nat) : Prop := ∀ i, i < s.length → hrI s h (R.getD i 0) = i
set_option maxHeartbeats 1000000 in
theorem settled_any (v u : Value) (s : List Int) (h : Nat) (R : List Nat) (w : World) (hv : Sl .i64 w v (natL R)) (hu : Sl .i64 w u (natL (hrL s h))) (hR : InRk s h R) (hlen : s.length ≤ 1000000) :
    Calls Try.prog 31 #[v, u] w fun e w' => ∃ b, e = .returned (.bool b) ∧ (b = true → setN s h R) ∧ w' = w := by
  have HR := hide' hR
  obtain ⟨a, c, rfl, _⟩ := id hv
  obtain ⟨ua, uc, hue, _⟩ := id hu
  subst hue
  rw [natL_len, hR.len] at hv ⊢
  rw [natL_len, hrL_len] at hu ⊢
  obtain ⟨_, _, _, hcv⟩ := hv.nat
  obtain ⟨_, _, _, hcu⟩ := hu.nat
  have CV := hide' hcv
  have CU := hide' hcu
  have HMM : Hid (∀ i, i < s.length → R.getD i 0 < s.length ∧ (hrL s h).getD (R.getD i 0) 0 = hrI s h (R.getD i 0)) := fun i hi => ⟨hR.mem hi, hR.one rfl hi⟩
  have HST : Hid ((∀ j, j < s.length → hrI s h (R.getD j 0) = j) → setN s h R) := fun h => h
  obtain ⟨n, HN⟩ : ∃ n, Hid (s.length = n) := ⟨_, rfl⟩
  rw [HN.out] at CV CU HMM HST hlen ⊢
  clear hv hu hcv hcu hR
  go_enter Try.func31, Try.ntmps31
  go_wp2
  go_loopw [9] (fun vi wr => ∃ (i : Nat), i ≤ n ∧ vi = .int .i64 i ∧ Hid (∀ j, j < i → hrI s h (R.getD j 0) = j) ∧ wr = w) (fun vi _ => n - (intOf vi).toNat)
  case atStart => exact ⟨0, Nat.zero_le _, rfl, (fun j hj => by omega), rfl⟩
  case round =>
    obtain ⟨i, hi, rfl, HG, rfl⟩ := hrel
    by_cases hlt : i < n
    · have hlt' : (i : Int) < n := by omega
      obtain ⟨g1, o1, rfl, k1⟩ := CV.out (by omega)
      obtain ⟨g2, o2, rfl, k2⟩ := CU.out (by omega)
      have c1 := k1 i hlt
      obtain ⟨hm1, hm2⟩ := HMM.out i hlt
      have c2 := k2 _ hm1
      rw [hm2] at c2
      have HM2 := hide' hm2
      obtain ⟨x, HX⟩ : ∃ x, Hid (hrI s h (R.getD i 0) = x) := ⟨_, rfl⟩
      rw [HX.out] at c2
      clear hm2 HM2
      obtain ⟨p, HP⟩ : ∃ p, Hid (R.getD i 0 = p) := ⟨_, rfl⟩
      rw [HP.out] at c1 c2 hm1
      have hm1' : (p : Int) < n := by omega
      clear k1 k2
      by_cases hz : x = i
      · have dz : ((x : Int) != (i : Int)) = false := by simp; omega
        go_wp2
        go_roundw
        case rel =>
          refine ⟨i + 1, by omega, by go_num, (fun j hj => ?_), by first | trivial | rfl⟩
          by_cases e : j = i
          · subst e; rw [HX.out]; exact hz
          · exact HG.out j (by omega)
        case measure => simp [intOf]; omega
      · have dz : ((x : Int) != (i : Int)) = true := by simp; omega
        go_wp2
        go_ret
        exact ⟨_, rfl, (fun h => by cases h), rfl⟩
    · have hlt' : decide ((i : Int) < n) = false := by simp; omega
      have hin : n = i := by omega
      have HB := hide' (HST.out fun j hj => HG.out j (by omega))
      go_wp2
      go_ret
      exact ⟨_, rfl, fun _ => HB.out, rfl⟩

set_option maxHeartbeats 1000000 in
/-- Are two places alike, by the rank and the rank b places on? -/
theorem alikeR_any (u : Value) (s : List Int) (h b i j : Nat) (w : World) (hu : Sl .i64 w u (natL (hrL s h))) (hi : i < s.length) (hj : j < s.length) (hij : i ≠ j) (h0 : 0 < h) (hb : b ≤ h) (hbl : b ≤ 1000000) (hlen : s.length ≤ 1000000) :
    Calls Try.prog 39 #[u, .int .i64 i, .int .i64 j, .int .i64 b] w fun e w' => e = .returned (.bool (decide (hrI s (h + b) i = hrI s (h + b) j))) ∧ ∃ m, w' = w.drewN m := by
  have HA := hide' (hr_alike h0 hb hi hj hij)
  obtain ⟨D, HD⟩ : ∃ D, Hid (decide (hrI s (h + b) i = hrI s (h + b) j) = D) := ⟨_, rfl⟩
  rw [HD.out]
  obtain ⟨a, c, rfl, _⟩ := id hu
  rw [natL_len, hrL_len] at hu ⊢
  obtain ⟨_, _, _, hcu⟩ := hu.nat
  have CU := hide' hcu
  have HAT : Hid (∀ p, p < s.length → (hrL s h).getD p 0 = hrI s h p) := fun p hp => hrL_at hp
  obtain ⟨n, HN⟩ : ∃ n, Hid (s.length = n) := ⟨_, rfl⟩
  rw [HN.out] at CU HAT HA hi hj hlen ⊢
  obtain ⟨g2, o2, rfl, k2⟩ := CU.out (by omega)
  clear hu hcu CU
  have hi' : (i : Int) < n := by omega
  have hj' : (j : Int) < n := by omega
  have c1 := fun m => (Ext.drewN w m).cellOf (k2 i hi)
  have c2 := fun m => (Ext.drewN w m).cellOf (k2 j hj)
  rw [HAT.out i hi] at c1
  rw [HAT.out j hj] at c2
  obtain ⟨x, HX⟩ : ∃ x, Hid (hrI s h i = x) := ⟨_, rfl⟩
  obtain ⟨y, HY⟩ : ∃ y, Hid (hrI s h j = y) := ⟨_, rfl⟩
  rw [HX.out] at c1 HA
  rw [HY.out] at c2 HA
  have ei : (i : Int) + (b : Int) = ((i + b : Nat) : Int) := by omega
  have ej : (j : Int) + (b : Int) = ((j + b : Nat) : Int) := by omega
  obtain ⟨I, HI⟩ : ∃ I, Hid (i + b = I) := ⟨_, rfl⟩
  obtain ⟨J, HJ⟩ : ∃ J, Hid (j + b = J) := ⟨_, rfl⟩
  have hIl : I ≤ 2000000 := by rw [← HI.out]; omega
  have hJl : J ≤ 2000000 := by rw [← HJ.out]; omega
  rw [HI.out] at ei HA
  rw [HJ.out] at ej HA
  by_cases hxy : x = y
  · have d1 : ((x : Int) != (y : Int)) = false := by simp; omega
    by_cases hI : I < n
    · have dI : decide ((n : Int) ≤ (I : Int)) = false := by simp; omega
      have hI' : (I : Int) < n := by omega
      by_cases hJ : J < n
      · have dJ : decide ((n : Int) ≤ (J : Int)) = false := by simp; omega
        have hJ' : (J : Int) < n := by omega
        have c3 := fun m => (Ext.drewN w m).cellOf (k2 I hI)
        have c4 := fun m => (Ext.drewN w m).cellOf (k2 J hJ)
        rw [HAT.out I hI] at c3
        rw [HAT.out J hJ] at c4
        obtain ⟨z, HZ⟩ : ∃ x, Hid (hrI s h I = x) := ⟨_, rfl⟩
        obtain ⟨t, HT⟩ : ∃ y, Hid (hrI s h J = y) := ⟨_, rfl⟩
        rw [HZ.out] at c3 HA
        rw [HT.out] at c4 HA
        have HDD : Hid (((z : Int) == (t : Int)) = D) := by
          show _ = _
          rw [← HD.out]
          by_cases e : z = t
          · rw [decide_eq_true (HA.out.2 ⟨hxy, hI, hJ, e⟩)]
            simp; omega
          · rw [decide_eq_false (fun g => e (HA.out.1 g).2.2.2)]
            simp; omega
        clear k2
        go_enter Try.func39, Try.ntmps39
        go_wp2_with fail
        go_quiet (fail)
        go_wp2
        go_quiet (fail)
        go_wp2
        go_ret
        rw [← HDD.out]
        exact ⟨rfl, _, by first | rfl | rw [World.drewN_drewN]⟩
      · have dJ : decide ((n : Int) ≤ (J : Int)) = true := by simp; omega
        have HDD : Hid (D = false) := by
          show _ = _
          rw [← HD.out, decide_eq_false (fun g => hJ (HA.out.1 g).2.2.1)]
        rw [HDD.out]
        clear k2
        go_enter Try.func39, Try.ntmps39
        go_wp2_with fail
        go_quiet (fail)
        go_wp2
        go_ret
        exact ⟨rfl, _, by first | rfl | rw [World.drewN_drewN]⟩
    · have dI : decide ((n : Int) ≤ (I : Int)) = true := by simp; omega
      have HDD : Hid (D = false) := by
        show _ = _
        rw [← HD.out, decide_eq_false (fun g => hI (HA.out.1 g).2.1)]
      rw [HDD.out]
      clear k2
      go_enter Try.func39, Try.ntmps39
      go_wp2_with fail
      go_quiet (fail)
      go_wp2
      go_ret
      exact ⟨rfl, _, by first | rfl | rw [World.drewN_drewN]⟩
  · have d1 : ((x : Int) != (y : Int)) = true := by simp; omega
    have HDD : Hid (D = false) := by
      show _ = _
      rw [← HD.out, decide_eq_false (fun g => hxy (HA.out.1 g).1)]
    rw [HDD.out]
    clear k2
    go_enter Try.func39, Try.ntmps39
    go_wp2_with fail
    go_quiet (fail)
    go_wp2
    go_ret
    exact ⟨rfl, _, by first | rfl | rw [World.drewN_drewN]⟩
end Go.Proofs.Ytimhkmnohkbniaa
