/- Contract of skew.byTriples: places in order of their triples. -/
import Derived.Test.YtnacjmkconabdaaSkMath
import Derived.Test.YtnacjmkconabdaaBktPass
namespace Go.Proofs.Ytnacjmkconabdaa
set_option linter.unusedVariables false
set_option linter.unusedSimpArgs false
open Go.RowKit

/-- One pass by the numbers a places on. -/
def pas (s : List Int) (k : Nat) (P : List Nat) (a : Nat) : List Nat := csort k P fun p => (padI s (p + a)).toNat
theorem tail_lt {s : List Int} {k : Int} (h : fitB (tailI s) k = true) (i : Nat) : padI s i < k := by
  obtain ⟨h0, h1, hg⟩ := fitB_iff.1 h
  by_cases e : i < s.length
  · have := goodI_at hg (j := i) (by rw [tailI_len]; omega)
    rw [tailI_at] at this
    omega
  · rw [padI_out (by omega)]
    have := goodI_at hg (j := s.length) (by rw [tailI_len]; omega)
    omega
theorem tail_nonneg {s : List Int} {k : Int} (h : fitB (tailI s) k = true) (hs : NonNeg s) (i : Nat) : 0 ≤ padI s i := padI_ge hs i
theorem drop_fit {s : List Int} {k : Int} (h : fitB (tailI s) k = true) (a : Nat) : fitB ((tailI s).drop a) k = true := by
  obtain ⟨h0, h1, hg⟩ := fitB_iff.1 h
  exact fitB_iff.2 ⟨h0, h1, goodI_iff.2 fun z hz => goodI_iff.1 hg z (List.mem_of_mem_drop hz)⟩
theorem pas_pass {s : List Int} {k : Nat} (h : fitB (tailI s) (k : Int) = true) {P : List Nat} {a : Nat} (ha : a ≤ 2) (hP : ∀ p ∈ P, p ≤ s.length) : passI (natL P) ((tailI s).drop a) (k : Int) = natL (pas s k P a) := by
  have hb : passB (natL P) ((tailI s).drop a) (k : Int) = true := by
    refine passB_iff.2 ⟨drop_fit h a, ?_⟩
    rw [List.length_drop, tailI_len]
    exact good_nat fun p hp => by have := hP p hp; omega
  rw [passI_yes hb, toN_nat, Int.toNat_natCast]
  unfold pas
  congr 1
  have he : keyN ((tailI s).drop a) = fun p => (padI s (p + a)).toNat := by
    funext p
    unfold keyN
    rw [tailI_drop]
  rw [he]
theorem pas_perm {s : List Int} {k : Nat} (h : fitB (tailI s) (k : Int) = true) (hs : NonNeg s) (P : List Nat) (a : Nat) : (pas s k P a).Perm P := by
  unfold pas
  refine csort_perm fun p _ => ?_
  have := tail_lt h (p + a)
  have := padI_ge hs (p + a)
  omega
/-- What the passes have come to ahead of the pass a. -/
def pasI (s : List Int) (k : Nat) (P : List Nat) : Nat → List Nat
  | 0 => P
  | 1 => pas s k P 2
  | 2 => pas s k (pas s k P 2) 1
  | _ => pas s k (pas s k (pas s k P 2) 1) 0
theorem pasI_succ (s : List Int) (k : Nat) (P : List Nat) {i : Nat} (hi : i < 3) : pasI s k P (i + 1) = pas s k (pasI s k P i) (2 - i) := by
  match i, hi with
  | 0, _ => rfl
  | 1, _ => rfl
  | 2, _ => rfl
theorem pasI_perm {s : List Int} {k : Nat} (h : fitB (tailI s) (k : Int) = true) (hs : NonNeg s) (P : List Nat) : ∀ i, i ≤ 3 → (pasI s k P i).Perm P := by
  intro i
  induction i with
  | zero => intro _; exact List.Perm.refl _
  | succ i ih =>
    intro hi
    rw [pasI_succ s k P (by omega)]
    exact (pas_perm h hs _ _).trans (ih (by omega))
theorem pasI_sort {s : List Int} {k : Nat} (h : fitB (tailI s) (k : Int) = true) (hs : NonNeg s) (P : List Nat) : SortT s (pasI s k P 3) := (sort3 hs (tail_lt h) P).1

set_option maxHeartbeats 1000000 in
theorem byTriples_any (sv pv : Value) (s : List Int) (P : List Nat) (k : Nat) (w : World) (hs : Sl .i64 w sv (tailI s)) (hp : Sl .i64 w pv (natL P)) (hnn : NonNeg s) (hfit : fitB (tailI s) (k : Int) = true) (hP : ∀ p ∈ P, p ≤ s.length) (hlen : s.length ≤ 200000) (hlenP : P.length ≤ 200000) :
    Calls Try.prog 32 #[sv, .int .i64 (k : Int), pv] w fun e w' => ∃ u G, e = .returned u ∧ G.Perm P ∧ SortT s G ∧ Own .i64 3 w.heap.size w' u (natL G) ∧ Ext w w' := by
  have HV := hide' hs
  have HP := hide' hp
  have HNN := hide' hnn
  have HFIT := hide' hfit
  have HPM := hide' hP
  have hk := (fitB_iff.1 hfit).2.1
  obtain ⟨a, c, rfl, _⟩ := hs
  have HTL := hide' (tailI_len s)
  rw [HTL.out] at HV ⊢
  obtain ⟨n, HN⟩ : ∃ n, Hid (s.length = n) := ⟨_, rfl⟩
  rw [HN.out] at HV hlen HTL ⊢
  obtain ⟨L, HL⟩ : ∃ L, Hid (n + 3 = L) := ⟨_, rfl⟩
  have hL : L ≤ 200003 := by rw [← HL.out]; omega
  have hL3 : 3 ≤ L := by rw [← HL.out]; omega
  rw [HL.out] at HV HTL ⊢
  clear hp hnn hfit hP
  go_enter Try.func32, Try.ntmps32
  go_wp2
  go_loopw [2, 7] (fun ov vj wr => ∃ (i : Nat) (j : Int), i ≤ 3 ∧ -1 ≤ j ∧ j ≤ 2 ∧ Hid (j = 2 - (i : Int)) ∧ vj = .int .i64 j ∧ Hid (Sl .i64 wr ov (natL (pasI s k P i))) ∧ Hid (i = 0 ∨ Own .i64 3 w.heap.size wr ov (natL (pasI s k P i))) ∧ Hid (Ext w wr)) (fun _ vj _ => (intOf vj + 1).toNat)
  case atStart => exact ⟨0, 2, Nat.zero_le _, by omega, by omega, rfl, rfl, HP, .inl rfl, Ext.refl _⟩
  case round =>
    obtain ⟨i, j, hi, hj1, hj2, HJ, rfl, HS, HO, HE⟩ := hrel
    by_cases hlt : i < 3
    · have hj0 : 0 ≤ j := by have := HJ.out; omega
      obtain ⟨J, rfl⟩ := Int.eq_ofNat_of_zero_le hj0
      have HJ2 : Hid (J = 2 - i) := by show _ = _; have := HJ.out; omega
      have hJL : J ≤ L := by omega
      obtain ⟨da, ra, sa, _⟩ := HV.out.runDrop (P := Try.prog) 22 3 Try.underlying22 sizeI64 J (by rw [HTL.out]; exact hJL)
      have SA := hide' (sa.ext HE.out)
      have hsz := HE.out.size
      have HM2 : Hid (∀ p ∈ pasI s k P i, p ≤ s.length) := fun p hp => HPM.out p ((pasI_perm HFIT.out HNN.out P i (by omega)).mem_iff.1 hp)
      have HPL : Hid ((natL (pasI s k P i)).length ≤ 1000000) := by show _ ≤ _; rw [natL_len, (pasI_perm HFIT.out HNN.out P i (by omega)).length_eq]; omega
      have HDL : Hid (((tailI s).drop J).length ≤ 1000000) := by show _ ≤ _; rw [List.length_drop, HTL.out]; omega
      have HQ : Hid (passI (natL (pasI s k P i)) ((tailI s).drop J) (k : Int) = natL (pasI s k P (i + 1))) := by
        show _ = _
        rw [pas_pass HFIT.out (by omega) HM2.out, pasI_succ s k P hlt, HJ2.out]
      have C := hide' (pass_any _ _ _ _ (k : Int) wr HS.out SA.out HPL.out HDL.out)
      rw [HQ.out] at C
      clear sa HJ
      go_wp2_with fail
      refine C.out.mono ?_
      rintro e w1 ⟨u, rfl, ho, he⟩
      have S1 := hide' ho.sl
      have O1 : Hid (i + 1 = 0 ∨ Own .i64 3 w.heap.size w1 u (natL (pasI s k P (i + 1)))) := .inr (ho.low hsz)
      have X1 := hide' (HE.out.trans he)
      clear ho he C
      go_wp2
      go_roundw
      case rel => exact ⟨i + 1, (J : Int) - 1, by omega, by omega, by omega, (show _ = _ by have := HJ2.out; omega), by go_num, S1, O1, X1⟩
      case measure => simp [intOf] <;> omega
    · have hj : j < 0 := by have := HJ.out; omega
      have d1 : decide (0 ≤ j) = false := by simp; omega
      have hi3 : i = 3 := by omega
      subst hi3
      have HO2 : Hid (Own .i64 3 w.heap.size wr u2 (natL (pasI s k P 3))) := by
        rcases HO.out with g | g
        · omega
        · exact g
      go_wp2
      go_ret
      exact ⟨_, _, rfl, pasI_perm HFIT.out HNN.out P 3 (by omega), pasI_sort HFIT.out HNN.out P, HO2.out, HE.out⟩
end Go.Proofs.Ytnacjmkconabdaa
