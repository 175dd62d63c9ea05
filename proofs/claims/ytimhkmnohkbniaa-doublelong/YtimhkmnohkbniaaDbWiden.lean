/- Contract of double.widen: ranks by one number become ranks by any more. -/
import Derived.Test.YtimhkmnohkbniaaDbFol
import Derived.Test.YtimhkmnohkbniaaDbRks
import Derived.Lib.MinMax
namespace Go.Proofs.Ytimhkmnohkbniaa
set_option linter.unusedVariables false
set_option linter.unusedSimpArgs false
open Go.RowKit

theorem widen_fin {s : List Int} {h a : Nat} {R : List Nat} (h0 : 0 < h ∨ s.length = 0) (k : InRk s a R) (hw : a ≤ 1 ∨ a ≤ min h s.length) (hd : min h s.length ≤ a ∨ setN s a R) : ∀ p, p < s.length → hrI s a p = hrI s h p := by
  intro p hp
  have ha : a ≤ min h s.length := by omega
  rcases hd with hd | hd
  · by_cases hh : h ≤ s.length
    · rw [show a = h by omega]
    · exact hrI_whole (by omega) (by omega) p
  · exact (settled_all k hd (by omega) hp).symm

set_option maxHeartbeats 2000000 in
theorem widen_any (v : Value) (s : List Int) (h B : Nat) (w : World) (h0 : 0 < h ∨ s.length = 0) (hv : Own .i64 3 B w v (natL (hrL s 1))) (hB : B ≤ w.heap.size) (hlen : s.length ≤ 200000) :
    Calls Try.prog 19 #[v, .int .i64 (h : Int)] w fun e w' => ∃ x y R, e = .returned (.tuple #[x, y]) ∧ InRk s h R ∧ Own .i64 3 B w' x (natL R) ∧ Own .i64 3 B w' y (natL (hrL s h)) ∧ Ext w w' := by
  have HV := hide' hv
  have HFN : Hid (∀ a R, InRk s a R → (a ≤ 1 ∨ a ≤ min h s.length) → (min h s.length ≤ a ∨ setN s a R) → InRk s h R ∧ hrL s a = hrL s h) := fun a R k h1 h2 => by
    have := widen_fin h0 k h1 h2
    exact ⟨k.same this, hrL_eq this⟩
  have HST : Hid (∀ x u W, Sl .i64 W x (natL (List.range s.length)) → Sl .i64 W u (natL (hrL s 1)) → Calls Try.prog 29 #[x, u] W fun e w' => ∃ y R, e = .returned y ∧ InRk s 1 R ∧ Own .i64 3 W.heap.size w' y (natL R) ∧ Ext W w') := fun x u W h1 h2 =>
    (byRanks_any x u s 1 _ W h1 h2 (List.Perm.refl _) (by omega)).mono fun e w' ⟨y, e1, e2, e3⟩ => ⟨y, _, e1, InRk.start hrL_key, e2, e3⟩
  have HNX : Hid (∀ x u a b R W, InRk s a R → 0 < a → b ≤ a → b ≤ s.length → Sl .i64 W x (natL (lastN s.length b b ++ folN R b)) → Sl .i64 W u (natL (hrL s a)) → Calls Try.prog 29 #[x, u] W fun e w' => ∃ y R', e = .returned y ∧ InRk s (a + b) R' ∧ Own .i64 3 W.heap.size w' y (natL R') ∧ Ext W w') := fun x u a b R W k ha hb hbn h1 h2 =>
    (byRanks_any x u s a _ W h1 h2 (fol_perm k.1 hbn) (by omega)).mono fun e w' ⟨y, e1, e2, e3⟩ => ⟨y, _, e1, k.next ha hb hbn hrL_key, e2, e3⟩
  have HFO : Hid (∀ x b R W a, InRk s a R → b ≤ s.length → Sl .i64 W x (natL R) → Calls Try.prog 32 #[x, .int .i64 (b : Int)] W fun e w' => ∃ y, e = .returned y ∧ Own .i64 3 W.heap.size w' y (natL (lastN s.length b b ++ folN R b)) ∧ Ext W w') := fun x b R W a k hb h1 => by
    have := byWhat_any x R b W h1 (by rw [k.len]; exact hb) (fun i hi => by rw [k.len] at hi ⊢; exact k.mem hi) (by rw [k.len]; exact hlen)
    rwa [k.len] at this
  have HRK : Hid (∀ x u a b R W, InRk s (a + b) R → 0 < a → b ≤ a → b ≤ s.length → Sl .i64 W x (natL R) → Sl .i64 W u (natL (hrL s a)) → Calls Try.prog 33 #[x, u, .int .i64 (b : Int)] W fun e w' => ∃ y, e = .returned y ∧ Own .i64 3 W.heap.size w' y (natL (hrL s (a + b))) ∧ Ext W w') := fun x u a b R W k ha hb hbn h1 h2 =>
    ranksIn_any x u s R a b W h1 h2 k ha hb (by omega) hlen
  have HSE : Hid (∀ x u a R W, InRk s a R → Sl .i64 W x (natL R) → Sl .i64 W u (natL (hrL s a)) → Calls Try.prog 31 #[x, u] W fun e w' => ∃ b, e = .returned (.bool b) ∧ (b = true → setN s a R) ∧ w' = W) := fun x u a R W k h1 h2 =>
    settled_any x u s a R W h1 h2 k (by omega)
  obtain ⟨va, vc, hve, _⟩ := id hv.sl
  subst hve
  rw [natL_len, hrL_len] at HV ⊢
  obtain ⟨n, HN⟩ : ∃ n, Hid (s.length = n) := ⟨_, rfl⟩
  rw [HN.out] at HV HFN HST HNX HFO HRK hlen ⊢
  have hmin : min (h : Int) (n : Int) = ((min h n : Nat) : Int) := by omega
  obtain ⟨m, HM⟩ : ∃ m, Hid (min h n = m) := ⟨_, rfl⟩
  have hmn : m ≤ n := by rw [← HM.out]; omega
  rw [HM.out] at hmin HFN
  have HPL := hide' (places_any n w (by omega))
  clear hv
  go_enter Try.func19, Try.ntmps19
  go_wp2_with fail
  refine HPL.out.mono ?_
  rintro e w1 ⟨x1, rfl, ho, he⟩
  have S1 := hide' ho.sl
  have X1 := hide' he
  have hz1 := he.size
  have V1 := hide' (HV.out.ext he)
  clear ho he HPL HV
  go_wp2_with fail
  refine (HST.out _ _ w1 S1.out V1.out.sl).mono ?_
  rintro e w2 ⟨x2, R, rfl, hk, ho, he⟩
  have K2 := hide' hk
  have O2 := hide' (ho.low (Nat.le_trans hB hz1))
  have X2 := hide' (X1.out.trans he)
  have hz2 := X2.out.size
  have V2 := hide' (V1.out.ext he)
  clear ho he hk S1 V1 X1 HST
  go_wp2_with fail
  go_loopw [0, 4, 6] (fun rv ov wv wr => ∃ (a : Nat) (R : List Nat), 0 < a ∧ a ≤ 300000 ∧ Hid (a ≤ 1 ∨ a ≤ m) ∧ wv = .int .i64 (a : Int) ∧ Hid (InRk s a R) ∧ Hid (Own .i64 3 B wr rv (natL (hrL s a))) ∧ Hid (Own .i64 3 B wr ov (natL R)) ∧ Hid (Ext w wr)) (fun _ _ wv _ => m - (intOf wv).toNat)
  case atStart => exact ⟨1, R, by omega, by omega, .inl (Nat.le_refl _), rfl, K2, V2, O2, X2⟩
  case round =>
    clear K2 V2 O2 X2 R hz1 hz2 hmin
    obtain ⟨a, R, ha, ha3, HA, rfl, HK, HV, HO, HE⟩ := hrel
    have hsz := HE.out.size
    have HFa := hide' (HFN.out a R HK.out HA.out)
    by_cases hlt : a < m
    · have hlt' : (a : Int) < (m : Int) := by omega
      have HSEa := hide' (HSE.out u4 u0 a R wr HK.out HO.out.sl HV.out.sl)
      go_wp2_with fail
      refine HSEa.out.mono ?_
      rintro e w3 ⟨b, rfl, hb, rfl⟩
      have HBB := hide' hb
      clear hb HSEa
      cases b
      · have hst : min (a : Int) ((m : Int) - (a : Int)) = ((min a (m - a) : Nat) : Int) := by omega
        obtain ⟨t, HT⟩ : ∃ t, Hid (min a (m - a) = t) := ⟨_, rfl⟩
        have ht1 : t ≤ a := by rw [← HT.out]; omega
        have ht2 : t ≤ n := by rw [← HT.out]; omega
        have ht3 : 0 < t := by rw [← HT.out]; omega
        have ht4 : a + t ≤ m := by rw [← HT.out]; omega
        rw [HT.out] at hst
        have HC1 := hide' (HFO.out u4 t R w3 a HK.out ht2 HO.out.sl)
        go_wp2_with fail
        refine HC1.out.mono ?_
        rintro e w4 ⟨x4, rfl, ho, he⟩
        have S4 := hide' ho.sl
        have X4 := hide' (HE.out.trans he)
        have hz4 := X4.out.size
        have V4 := hide' (HV.out.ext he)
        clear ho he HC1 HO HV HE
        go_wp2_with fail
        refine (HNX.out _ _ a t R w4 HK.out ha ht1 ht2 S4.out V4.out.sl).mono ?_
        rintro e w5 ⟨x5, R5, rfl, hk, ho, he⟩
        have K5 := hide' hk
        have O5 := hide' (ho.low (Nat.le_trans hB hz4))
        have X5 := hide' (X4.out.trans he)
        have hz5 := X5.out.size
        have V5 := hide' (V4.out.ext he)
        clear ho he hk S4 V4 X4
        go_wp2_with fail
        refine (HRK.out _ _ a t R5 w5 K5.out ha ht1 ht2 O5.out.sl V5.out.sl).mono ?_
        rintro e w6 ⟨x6, rfl, ho, he⟩
        have V6 := hide' (ho.low (Nat.le_trans hB hz5))
        have O6 := hide' (O5.out.ext he)
        have X6 := hide' (X5.out.trans he)
        clear ho he O5 V5 X5 HFa HBB HA
        go_wp2
        go_roundw
        case rel => exact ⟨a + t, R5, by omega, by omega, .inr ht4, by go_num, K5, V6, O6, X6⟩
        case measure => simp [intOf] <;> omega
      · have HF2 := hide' (HFa.out (.inr (HBB.out rfl)))
        rw [HF2.out.2] at HV
        clear HFa HBB HA
        go_wp2
        go_ret2
        exact ⟨_, _, R, rfl, HF2.out.1, HO.out, HV.out, HE.out⟩
    · have d1 : decide ((a : Int) < (m : Int)) = false := by simp; omega
      have d2 : decide (a < m) = false := by simp; omega
      have HF2 := hide' (HFa.out (.inl (by omega)))
      rw [HF2.out.2] at HV
      clear HFa HA
      go_wp2
      go_ret2
      exact ⟨_, _, R, rfl, HF2.out.1, HO.out, HV.out, HE.out⟩
end Go.Proofs.Ytimhkmnohkbniaa
