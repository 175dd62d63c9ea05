/- Contracts of sais.Ints, numbers and Bytes. -/
import Derived.Test.YtabgbioocfdjiaaSaOrder
import Derived.Test.YtabgbioocfdjiaaByt
namespace Go.Proofs.Ytabgbioocfdjiaa
set_option linter.unusedVariables false
set_option linter.unusedSimpArgs false
open Go.RowKit

/-- What is answered: a row and an error's number. -/
def ResI (s : List Int) (k : Int) (L : List Int) (c : Int) : Prop :=
  (100000 < s.length ∧ L = [] ∧ c = 2) ∨ (s.length ≤ 100000 ∧ fitB s k = false ∧ L = [] ∧ c = 1) ∨ (s.length ≤ 100000 ∧ fitB s k = true ∧ c = 0 ∧ ∃ R, InOrd s R ∧ L = natL R)
theorem ResI.eq {s L L' : List Int} {k c c' : Int} (h : ResI s k L c) (h' : ResI s k L' c') : L = L' ∧ c = c' := by
  rcases h with ⟨h1, h2, h3⟩ | ⟨h1, h2, h3, h4⟩ | ⟨h1, h2, h3, R, h4, h5⟩ <;> rcases h' with ⟨g1, g2, g3⟩ | ⟨g1, g2, g3, g4⟩ | ⟨g1, g2, g3, R', g4, g5⟩
  · exact ⟨by rw [h2, g2], by rw [h3, g3]⟩
  · omega
  · omega
  · omega
  · exact ⟨by rw [h3, g3], by rw [h4, g4]⟩
  · rw [h2] at g2; cases g2
  · omega
  · rw [h2] at g2; cases g2
  · exact ⟨by rw [h5, g5, h4.eq g4], by rw [h3, g3]⟩
theorem ResI.ok {s L : List Int} {k c : Int} (h : ResI s k L c) (hl : s.length ≤ 100000) (hf : fitB s k = true) : c = 0 ∧ ∃ R, InOrd s R ∧ L = natL R := by
  rcases h with ⟨h1, h2, h3⟩ | ⟨h1, h2, h3, h4⟩ | ⟨h1, h2, h3, h4⟩
  · omega
  · rw [hf] at h2; cases h2
  · exact ⟨h3, h4⟩
theorem ResI.long {s L : List Int} {k c : Int} (h : ResI s k L c) (hl : 100000 < s.length) : c = 2 ∧ L = [] := by
  rcases h with ⟨h1, h2, h3⟩ | ⟨h1, h2, h3, h4⟩ | ⟨h1, h2, h3, h4⟩
  · exact ⟨h3, h2⟩
  · omega
  · omega
theorem ResI.len {s L : List Int} {k c : Int} (h : ResI s k L c) : L.length ≤ s.length := by
  rcases h with ⟨h1, h2, h3⟩ | ⟨h1, h2, h3, h4⟩ | ⟨h1, h2, h3, R, h4, h5⟩
  · rw [h2]; simp
  · rw [h3]; simp
  · rw [h5, natL_len, h4.len]; exact Nat.le_refl _

theorem saInts_any (v : Value) (s : List Int) (k : Int) (w : World) (hv : Sl .i64 w v s) (hlen : s.length ≤ 1000000) :
    Calls Try.prog 8 #[v, .int .i64 k] w fun e w' => ∃ u L c, e = .returned (.tuple #[u, .int .i64 c]) ∧ ResI s k L c ∧ Own .i64 3 w.heap.size w' u L ∧ Ext w w' := by
  have HV := hide' hv
  have HLEN := hide' hlen
  obtain ⟨a, c, rfl, _⟩ := hv
  by_cases h1 : 100000 < s.length
  · have d1 : (100000 : Int) < (s.length : Int) := by omega
    have HR : Hid (ResI s k [] 2) := .inl ⟨h1, rfl, rfl⟩
    clear h1
    go_enter Try.func8, Try.ntmps8
    go_wp2
    go_ret2
    exact ⟨_, [], 2, rfl, HR.out, Own.nil _ _ _ _, Ext.refl _⟩
  · have d1 : decide ((100000 : Int) < (s.length : Int)) = false := by simp; omega
    have HC := hide' (counts_any _ s k w HV.out hlen)
    have HL1 : Hid (s.length ≤ 100000) := by show _ ≤ _; omega
    clear h1
    cases hf : fitB s k
    · have HR : Hid (ResI s k [] 1) := .inr (.inl ⟨HL1.out, hf, rfl, rfl⟩)
      rw [hf] at HC
      clear hf
      go_enter Try.func8, Try.ntmps8
      go_wp2_with fail
      refine HC.out.mono ?_
      rintro e w1 ⟨s1, rfl, _, he⟩
      have X1 := hide' he
      clear he HC
      go_wp2
      go_ret2
      exact ⟨_, [], 1, rfl, HR.out, Own.nil _ _ _ _, X1.out⟩
    · have HF := hide' hf
      rw [hf] at HC
      clear hf
      go_enter Try.func8, Try.ntmps8
      go_wp2_with fail
      refine HC.out.mono ?_
      rintro e w1 ⟨s1, rfl, _, he⟩
      have X1 := hide' he
      have hz := he.size
      clear he HC
      go_wp2_with fail
      refine (order_any (s.length + 1) _ s k w1 (by omega) (HV.out.ext X1.out) HF.out HLEN.out).mono ?_
      rintro e w2 ⟨u, R, rfl, hR, ho, he⟩
      have O2 := hide' (ho.low hz)
      have X2 := hide' (X1.out.trans he)
      have HR : Hid (ResI s k (natL R) 0) := .inr (.inr ⟨HL1.out, HF.out, rfl, R, hR, rfl⟩)
      clear ho he hR
      go_wp2
      go_ret2
      exact ⟨_, _, 0, rfl, HR.out, O2.out, X2.out⟩

/-- A row of one kind as far as it is laid. -/
structure HalfI (zs : List Int) (i : Nat) (r : List Int) : Prop where
  len : r.length = zs.length
  at' : ∀ t, t < i → r.getD t 0 = zs.getD t 0
theorem HalfI.start (zs : List Int) : HalfI zs 0 (List.replicate zs.length 0) := ⟨List.length_replicate, fun t h => by omega⟩
theorem HalfI.next {zs r : List Int} {i : Nat} (h : HalfI zs i r) (hi : i < zs.length) : HalfI zs (i + 1) (r.set i (zs.getD i 0)) := by
  refine ⟨by rw [List.length_set]; exact h.len, fun t ht => ?_⟩
  by_cases e : t = i
  · subst e
    rw [setI_same (by rw [h.len]; exact hi)]
  · rw [setI_other (by omega)]
    exact h.at' t (by omega)
theorem HalfI.done {zs r : List Int} (h : HalfI zs zs.length r) : r = zs :=
  rowI_ext h.len fun i hi => h.at' i (by rw [h.len] at hi; exact hi)

set_option maxHeartbeats 1000000 in
theorem numbers_any (v : Value) (zs : List Int) (w : World) (hv : Sl .u8 w v zs) (h8 : Bytes8 zs) (hlen : zs.length ≤ 1000000) :
    Calls Try.prog 18 #[v] w fun e w' => ∃ u, e = .returned u ∧ Own .i64 3 w.heap.size w' u zs ∧ Ext w w' := by
  have HV := hide' hv
  have H8 := hide' h8
  obtain ⟨a, c, rfl, _⟩ := hv
  obtain ⟨n, HN⟩ : ∃ n, Hid (zs.length = n) := ⟨_, rfl⟩
  rw [HN.out] at HV hlen ⊢
  obtain ⟨w1, hmk, ho, he⟩ := make_ints w n hlen
  obtain ⟨g, HG⟩ : ∃ g, Hid (w.heap.size = g) := ⟨_, rfl⟩
  have hgw : w.heap.size ≤ g := by rw [HG.out]; exact Nat.le_refl _
  rw [HG.out] at ho hmk ⊢
  have O1 := hide' ho
  have X1 := hide' he
  have H0 : Hid (HalfI zs 0 (List.replicate n 0)) := by show HalfI _ _ _; rw [← HN.out]; exact HalfI.start zs
  clear ho he h8
  go_enter Try.func18, Try.ntmps18
  go_wp2
  go_loopw [11] (fun vi wr => ∃ (i : Nat) (r : List Int), i ≤ n ∧ vi = .int .i64 i ∧ Hid (HalfI zs i r) ∧ Hid (Own .i64 3 g wr (.slice (some ⟨g, 0, none⟩) n n) r) ∧ Hid (Ext w wr)) (fun vi _ => n - (intOf vi).toNat)
  case atStart => exact ⟨0, _, Nat.zero_le _, rfl, H0, O1, X1⟩
  case round =>
    clear O1 X1 H0 hmk
    obtain ⟨i, r, hi, rfl, HH, HO, HE⟩ := hrel
    have HRL : Hid (r.length = n) := by show _ = _; rw [HH.out.len, HN.out]
    by_cases hlt : i < n
    · have hlt' : (i : Int) < n := by omega
      have H1 := hide' (HH.out.next (by rw [HN.out]; exact hlt))
      obtain ⟨_, g1, o1, rfl, k1⟩ := HV.out.at (fun e => by have := HN.out; rw [e] at this; simp at this; omega)
      have c1 := HE.out.cellOf (k1 i hlt)
      have hz := H8.out.get i
      obtain ⟨z, HZ⟩ : ∃ z, Hid (zs.getD i 0 = z) := ⟨_, rfl⟩
      rw [HZ.out] at c1 H1 hz
      have hw : IntKind.i64.wrap z = z := by rw [IntKind.wrap_i64]; omega
      have c3 := HO.out.cell HRL.out i hlt
      have z3 := HO.out.frozen HRL.out i
      have O6 := hide' (HO.out.store HRL.out i z)
      have X6 : Hid (Ext w (wr.setCell ⟨g, i, none⟩ (.int .i64 z))) := Ext.but HE.out hgw (but_set _ _ _ _)
      clear k1 HO HE HH
      go_wp2
      go_roundw
      case rel => exact ⟨i + 1, _, by omega, by go_num, H1, O6, X6⟩
      case measure => simp [intOf] <;> omega
    · have d2 : decide ((i : Int) < n) = false := by simp; omega
      have hin : n = i := by omega
      have HD : Hid (r = zs) := by
        show _ = _
        have := HH.out
        rw [← hin, ← HN.out] at this
        exact this.done
      go_wp2
      go_ret
      refine ⟨_, rfl, ?_, HE.out⟩
      rw [← HD.out]
      exact HO.out

theorem fit256 {zs : List Int} (h : Bytes8 zs) : fitB zs 256 = true := fitB_iff.2 ⟨by omega, by omega, goodI_iff.2 fun z hz => by have := h z hz; omega⟩

theorem saBytes_any (v : Value) (zs : List Int) (w : World) (hv : Sl .u8 w v zs) (h8 : Bytes8 zs) (hlen : zs.length ≤ 1000000) :
    Calls Try.prog 12 #[v] w fun e w' => ∃ u L c, e = .returned (.tuple #[u, .int .i64 c]) ∧ ResI zs 256 L c ∧ Own .i64 3 w.heap.size w' u L ∧ Ext w w' := by
  have HV := hide' hv
  have HLEN := hide' hlen
  have C := hide' (numbers_any v zs w hv h8 hlen)
  obtain ⟨a, c, rfl, _⟩ := hv
  by_cases h1 : 100000 < zs.length
  · have d1 : (100000 : Int) < (zs.length : Int) := by omega
    have HR : Hid (ResI zs 256 [] 2) := .inl ⟨h1, rfl, rfl⟩
    clear h1 C
    go_enter Try.func12, Try.ntmps12
    go_wp2
    go_ret2
    exact ⟨_, [], 2, rfl, HR.out, Own.nil _ _ _ _, Ext.refl _⟩
  · have d1 : decide ((100000 : Int) < (zs.length : Int)) = false := by simp; omega
    clear h1 h8
    go_enter Try.func12, Try.ntmps12
    go_wp2_with fail
    refine C.out.mono ?_
    rintro e w1 ⟨u, rfl, ho, he⟩
    have S1 := hide' ho.sl
    have X1 := hide' he
    have hz := he.size
    clear ho he C
    go_wp2_with fail
    refine (saInts_any _ zs 256 w1 S1.out HLEN.out).mono ?_
    rintro e w2 ⟨u2, L, c2, rfl, hR, ho, he⟩
    have O2 := hide' (ho.low hz)
    have X2 := hide' (X1.out.trans he)
    have HR := hide' hR
    clear ho he hR
    go_wp2
    go_ret2
    exact ⟨_, _, _, rfl, HR.out, O2.out, X2.out⟩
end Go.Proofs.Ytabgbioocfdjiaa
