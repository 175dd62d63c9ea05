/- Contracts of double.Ints, Bytes and Ranks. -/
import Derived.Test.YtimhkmnohkbniaaDbWiden
import Derived.Test.YtimhkmnohkbniaaDbSize
import Derived.Test.YtimhkmnohkbniaaBktCounts
import Derived.Test.YtimhkmnohkbniaaResMath
namespace Go.Proofs.Ytimhkmnohkbniaa
set_option linter.unusedVariables false
set_option linter.unusedSimpArgs false
open Go.RowKit

set_option maxHeartbeats 1000000 in
theorem dbInts_any (v : Value) (s : List Int) (k : Int) (w : World) (hv : Sl .i64 w v s) (hlen : s.length ≤ 1000000) :
    Calls Try.prog 10 #[v, .int .i64 k] w fun e w' => ∃ u L c, e = .returned (.tuple #[u, .int .i64 c]) ∧ ResI s k L c ∧ Own .i64 3 w.heap.size w' u L ∧ Ext w w' := by
  have HV := hide' hv
  have HLEN := hide' hlen
  obtain ⟨a, c, rfl, _⟩ := hv
  by_cases h1 : 100000 < s.length
  · have d1 : (100000 : Int) < (s.length : Int) := by omega
    have HR : Hid (ResI s k [] 2) := .inl ⟨h1, rfl, rfl⟩
    clear h1
    go_enter Try.func10, Try.ntmps10
    go_wp2
    go_ret2
    exact ⟨_, [], 2, rfl, HR.out, Own.nil _ _ _ _, Ext.refl _⟩
  · have d1 : decide ((100000 : Int) < (s.length : Int)) = false := by simp; omega
    have HC := hide' (counts_any _ s k w HV.out hlen)
    have HL1 : Hid (s.length ≤ 100000) := by show _ ≤ _; omega
    clear h1
    cases hf : fitB s k
    · have HR : Hid (ResI s k [] 1) := .inr (.inl ⟨HL1.out, hf, rfl, rfl⟩)
      rw [hf] at HC
      clear hf
      go_enter Try.func10, Try.ntmps10
      go_wp2_with fail
      refine HC.out.mono ?_
      rintro e w1 ⟨s1, rfl, _, he⟩
      have X1 := hide' he
      clear he HC
      go_wp2
      go_ret2
      exact ⟨_, [], 1, rfl, HR.out, Own.nil _ _ _ _, X1.out⟩
    · have HF := hide' hf
      rw [hf] at HC
      obtain ⟨h0, hk, hgd⟩ := fitB_iff.1 hf
      obtain ⟨K, rfl⟩ := Int.eq_ofNat_of_zero_le h0
      have HCI : Hid (countsI s (K : Int) = natL (cntsI s K)) := by show _ = _; rw [countsI_yes hf, Int.toNat_natCast]
      rw [HCI.out] at HC
      have HGD := hide' hgd
      have hK : K ≤ 1048576 := by omega
      clear hf hgd h0
      go_enter Try.func10, Try.ntmps10
      go_wp2_with fail
      refine HC.out.mono ?_
      rintro e w1 ⟨s1, rfl, ho, he⟩
      have S1 := hide' ho.sl
      have X1 := hide' he
      have hz := he.size
      clear ho he HC
      go_wp2_with fail
      refine (ranksCnt_any _ s1 s K w1 (HV.out.ext X1.out) S1.out HGD.out hK (by have := HL1.out; omega)).mono ?_
      rintro e w2 ⟨u2, rfl, ho, he⟩
      have O2 := hide' (ho.low hz)
      have X2 := hide' (X1.out.trans he)
      have hz2 := X2.out.size
      clear ho he S1 X1
      go_wp2_with fail
      refine (widen_any u2 s s.length w.heap.size w2 (by omega) O2.out hz2 (by have := HL1.out; omega)).mono ?_
      rintro e w3 ⟨x, y, R, rfl, hR, ho, _, he⟩
      have O3 := hide' ho
      have X3 := hide' (X2.out.trans he)
      have HR : Hid (ResI s (K : Int) (natL R) 0) := .inr (.inr ⟨HL1.out, HF.out, rfl, R, hR.ord (Nat.le_refl _), rfl⟩)
      clear ho he hR
      go_wp2
      go_ret2
      exact ⟨_, _, 0, rfl, HR.out, O3.out, X3.out⟩

theorem dbBytes_any (v : Value) (zs : List Int) (w : World) (hv : Sl .u8 w v zs) (h8 : Bytes8 zs) (hlen : zs.length ≤ 1000000) :
    Calls Try.prog 14 #[v] w fun e w' => ∃ u L c, e = .returned (.tuple #[u, .int .i64 c]) ∧ ResI zs 256 L c ∧ Own .i64 3 w.heap.size w' u L ∧ Ext w w' := by
  have HV := hide' hv
  have HLEN := hide' hlen
  have C := hide' (dbNumbers_any v zs w hv h8 hlen)
  obtain ⟨a, c, rfl, _⟩ := hv
  by_cases h1 : 100000 < zs.length
  · have d1 : (100000 : Int) < (zs.length : Int) := by omega
    have HR : Hid (ResI zs 256 [] 2) := .inl ⟨h1, rfl, rfl⟩
    clear h1 C
    go_enter Try.func14, Try.ntmps14
    go_wp2
    go_ret2
    exact ⟨_, [], 2, rfl, HR.out, Own.nil _ _ _ _, Ext.refl _⟩
  · have d1 : decide ((100000 : Int) < (zs.length : Int)) = false := by simp; omega
    clear h1 h8
    go_enter Try.func14, Try.ntmps14
    go_wp2_with fail
    refine C.out.mono ?_
    rintro e w1 ⟨u, rfl, ho, he⟩
    have S1 := hide' ho.sl
    have X1 := hide' he
    have hz := he.size
    clear ho he C
    go_wp2_with fail
    refine (dbInts_any _ zs 256 w1 S1.out HLEN.out).mono ?_
    rintro e w2 ⟨u2, L, c2, rfl, hR, ho, he⟩
    have O2 := hide' (ho.low hz)
    have X2 := hide' (X1.out.trans he)
    have HR := hide' hR
    clear ho he hR
    go_wp2
    go_ret2
    exact ⟨_, _, _, rfl, HR.out, O2.out, X2.out⟩

/-- What Ranks answers. -/
def rkI (s : List Int) (h : Int) : List Int := if h < 0 ∨ 100000 < s.length then [] else natL (hrL s h.toNat)
theorem rkI_no {s : List Int} {h : Int} (g : h < 0 ∨ 100000 < s.length) : rkI s h = [] := if_pos g
theorem rkI_yes {s : List Int} {h : Nat} (g : s.length ≤ 100000) : rkI s (h : Int) = natL (hrL s h) := by
  unfold rkI
  rw [if_neg (by omega), Int.toNat_natCast]
theorem rkI_len (s : List Int) (h : Int) : (rkI s h).length ≤ s.length := by
  unfold rkI
  split
  · simp
  · rw [natL_len, hrL_len]; exact Nat.le_refl _
theorem hrL_zero (s : List Int) : hrL s 0 = List.replicate s.length 0 := by
  refine List.eq_replicate_iff.2 ⟨hrL_len s 0, fun x hx => ?_⟩
  obtain ⟨p, _, rfl⟩ := List.mem_map.1 hx
  exact hrI_zero s p

set_option maxHeartbeats 1000000 in
theorem dbRanks_any (v : Value) (s : List Int) (h : Int) (w : World) (hv : Sl .i64 w v s) (hlen : s.length ≤ 1000000) :
    Calls Try.prog 16 #[v, .int .i64 h] w fun e w' => ∃ u, e = .returned u ∧ Own .i64 3 w.heap.size w' u (rkI s h) ∧ Ext w w' := by
  have HV := hide' hv
  obtain ⟨a, c, rfl, _⟩ := hv
  by_cases h0 : h < 0
  · have HR : Hid (rkI s h = []) := rkI_no (.inl h0)
    rw [HR.out]
    go_enter Try.func16, Try.ntmps16
    go_wp2_with fail
    go_ret
    exact ⟨_, rfl, Own.nil _ _ _ _, Ext.refl _⟩
  · have d0 : decide (h < 0) = false := by simp; omega
    by_cases h1 : 100000 < s.length
    · have HR : Hid (rkI s h = []) := rkI_no (.inr h1)
      rw [HR.out]
      have d1 : (100000 : Int) < (s.length : Int) := by omega
      go_enter Try.func16, Try.ntmps16
      go_wp2_with fail
      go_ret
      exact ⟨_, rfl, Own.nil _ _ _ _, Ext.refl _⟩
    · obtain ⟨H, rfl⟩ := Int.eq_ofNat_of_zero_le (show 0 ≤ h by omega)
      have HR : Hid (rkI s (H : Int) = natL (hrL s H)) := rkI_yes (by omega)
      rw [HR.out]
      have d1 : decide ((100000 : Int) < (s.length : Int)) = false := by simp; omega
      have HN : Hid (s.length ≤ 100000) := by show _ ≤ _; omega
      obtain ⟨n, HNN⟩ : ∃ n, Hid (s.length = n) := ⟨_, rfl⟩
      rw [HNN.out] at d1 HN HV ⊢
      clear h0 h1
      by_cases hz : H = 0
      · have e0 : ((H : Int) == 0) = true := by simp; omega
        have HZ : Hid (natL (hrL s H) = List.replicate n 0) := by
          show _ = _
          rw [hz, hrL_zero, HNN.out, natL_rep]
        rw [HZ.out]
        obtain ⟨w1, hmk, ho, he⟩ := make_ints w n (by have := HN.out; omega)
        have O1 := hide' ho
        have X1 := hide' he
        clear ho he hz
        go_enter Try.func16, Try.ntmps16
        go_wp2_with fail
        go_ret
        exact ⟨_, rfl, O1.out, X1.out⟩
      · have e0 : ((H : Int) == 0) = false := by simp; omega
        have HC := hide' (ranksSize_any _ s w HV.out (by rw [HNN.out]; have := HN.out; omega))
        have HW : Hid (∀ u W, Own .i64 3 w.heap.size W u (natL (hrL s 1)) → w.heap.size ≤ W.heap.size → Calls Try.prog 19 #[u, .int .i64 (H : Int)] W fun e w' => ∃ x y R, e = .returned (.tuple #[x, y]) ∧ InRk s H R ∧ Own .i64 3 w.heap.size w' x (natL R) ∧ Own .i64 3 w.heap.size w' y (natL (hrL s H)) ∧ Ext W w') := fun u W h1 h2 =>
          widen_any u s H _ W (.inl (by omega)) h1 h2 (by rw [HNN.out]; have := HN.out; omega)
        clear hz
        go_enter Try.func16, Try.ntmps16
        go_wp2_with fail
        refine HC.out.mono ?_
        rintro e w1 ⟨u1, rfl, ho, he⟩
        have O1 := hide' ho
        have X1 := hide' he
        have hz1 := he.size
        clear ho he HC
        go_wp2_with fail
        refine (HW.out u1 w1 O1.out hz1).mono ?_
        rintro e w2 ⟨x, y, R, rfl, _, _, ho, he⟩
        have O2 := hide' ho
        have X2 := hide' (X1.out.trans he)
        clear ho he
        go_wp2
        go_ret
        exact ⟨_, rfl, O2.out, X2.out⟩
end Go.Proofs.Ytimhkmnohkbniaa
