/- Contracts of lyndon.leading, lyndon.Is and lyndon.Factors. -/
import Derived.Test.YtlnpgdjmcdhpbaaLynMath
import Derived.Test.YtlnpgdjmcdhpbaaByt
import Derived.Laws.OwnMore
namespace Go.Proofs.Ytlnpgdjmcdhpbaa
set_option linter.unusedVariables false
set_option linter.unusedSimpArgs false
open Go.RowKit

theorem infoI64 : (Try.prog.info? 3).map (fun i => (i.zero, i.size, i.bytes)) = some (some (.int .i64 0), 1, 8) := by kernel_rfl

/-- The first factor, and how many times in a row. -/
structure Lead (zs : List Int) (L t : Nat) : Prop where
  pos : 1 ≤ L
  times : 1 ≤ t
  le : L * t ≤ zs.length
  long : longI zs = L
  fac : facL zs = List.replicate t (L : Int) ++ facL (zs.drop (L * t))

theorem Duv.lead {s : List Int} {L e : Nat} (h : Duv s L e) (hs : Stop s L e) : Lead s L (e / L) := by
  have hp := h.pos
  have hle := h.le
  refine ⟨hp, Nat.div_pos hle (by omega), ?_, h.long hs, Duv.fac _ s e h hs rfl⟩
  exact Nat.le_trans (Nat.mul_div_le e L) h.len

set_option maxHeartbeats 400000 in
theorem leading_any (v : Value) (zs : List Int) (w : World) (hs : Sl .u8 w v zs) (h0 : zs.length ≠ 0) (hlen : zs.length ≤ 1000000) :
    Calls Try.prog 15 #[v] w fun e w' => ∃ L t : Nat, e = .returned (.tuple #[.int .i64 (L : Int), .int .i64 (t : Int)]) ∧ Lead zs L t ∧ ∃ m, w' = w.drewN m := by
  have hne : zs ≠ [] := fun h => by rw [h] at h0; simp at h0
  have HV := hide' hs
  obtain ⟨a, c, rfl, _⟩ := hs
  obtain ⟨n, hn⟩ : ∃ n, zs.length = n := ⟨_, rfl⟩
  rw [hn] at HV h0 hlen ⊢
  have HL := hide' hn
  obtain ⟨_, b1, o1, rfl, c1⟩ := HV.out.at hne
  have C1 := hide' c1
  clear c1 hne hn HV
  go_enter Try.func15, Try.ntmps15
  go_wp2
  go_loopw [2, 4] (fun vl ve wr => ∃ (L e : Nat), 1 ≤ L ∧ L ≤ e ∧ e ≤ n ∧ vl = .int .i64 L ∧ ve = .int .i64 e ∧ Hid (Duv zs L e) ∧ ∃ m, wr = w.drewN m) (fun _ ve _ => n - (intOf ve).toNat)
  case atStart => exact ⟨1, 1, Nat.le_refl _, Nat.le_refl _, by omega, rfl, rfl, (show Duv _ _ _ from Duv.start (by rw [HL.out]; exact h0)), 0, rfl⟩
  case round =>
    obtain ⟨L, e, hL, hLe, hen, rfl, rfl, HD, m, rfl⟩ := hrel
    by_cases hlt : e < n
    · have hlt' : (e : Int) < n := by omega
      have hsub : (e : Int) - (L : Int) = ((e - L : Nat) : Int) := by omega
      have ce := C1.out e hlt
      have cj := C1.out (e - L) (by omega)
      obtain ⟨p, HP⟩ : ∃ p, Hid (zs.getD (e - L) 0 = p) := ⟨_, rfl⟩
      obtain ⟨q, HQ⟩ : ∃ q, Hid (zs.getD e 0 = q) := ⟨_, rfl⟩
      rw [HP.out] at cj
      rw [HQ.out] at ce
      obtain ⟨J, hJ⟩ : ∃ j, e - L = j := ⟨_, rfl⟩
      rw [hJ] at hsub cj
      have hJn : (J : Int) < n := by omega
      by_cases hpq : p ≤ q
      · by_cases hpq2 : p < q
        · have HD2 : Hid (Duv zs (e + 1) (e + 1)) := HD.out.grow (by rw [HL.out]; exact hlt) (by rw [HP.out, HQ.out]; exact hpq2)
          go_wp2_with fail
          go_quiet (fail)
          go_wp2_with fail
          go_quiet (fail)
          go_wp2
          go_roundw
          case rel => exact ⟨e + 1, e + 1, by omega, Nat.le_refl _, by omega, by go_num, by go_num, HD2, _, by first | rfl | rw [World.drewN_drewN, World.drewN_drewN] | rw [World.drewN_drewN]⟩
          case measure => simp [intOf]; omega
        · have HD2 : Hid (Duv zs L (e + 1)) := HD.out.same (by rw [HL.out]; exact hlt) (by rw [HP.out, HQ.out]; omega)
          have d2 : decide (p < q) = false := by simpa using hpq2
          go_wp2_with fail
          go_quiet (fail)
          go_wp2_with fail
          go_quiet (fail)
          go_wp2
          go_roundw
          case rel => exact ⟨L, e + 1, hL, by omega, by omega, rfl, by go_num, HD2, _, by first | rfl | rw [World.drewN_drewN, World.drewN_drewN] | rw [World.drewN_drewN]⟩
          case measure => simp [intOf]; omega
      · have d1 : decide (p ≤ q) = false := by simpa using hpq
        have HLd : Hid (Lead zs L (e / L)) := HD.out.lead (.inr ⟨by rw [HL.out]; exact hlt, by rw [HP.out, HQ.out]; omega⟩)
        have hd1 : (e : Int).tdiv (L : Int) = ((e / L : Nat) : Int) := by rw [Int.tdiv_eq_ediv_of_nonneg (by omega)]; simp
        have hd2 : (e : Int) / (L : Int) = ((e / L : Nat) : Int) := by simp
        have hdl : e / L ≤ e := Nat.div_le_self _ _
        obtain ⟨t, HT⟩ : ∃ t, Hid (e / L = t) := ⟨_, rfl⟩
        rw [HT.out] at hd1 hd2 hdl HLd
        have lne : (L : Int) ≠ 0 := by omega
        have lq : ((L : Int) == 0) = false := by simpa using lne
        go_wp2_with fail
        go_quiet (fail)
        go_wp2_with fail
        go_quiet (fail)
        go_wp2
        go_ret2
        exact ⟨L, t, rfl, HLd.out, _, by first | rfl | rw [World.drewN_drewN, World.drewN_drewN] | rw [World.drewN_drewN]⟩
    · have hlt' : decide ((e : Int) < n) = false := by simp; omega
      have HLd : Hid (Lead zs L (e / L)) := HD.out.lead (.inl (by rw [HL.out]; omega))
      have hd1 : (e : Int).tdiv (L : Int) = ((e / L : Nat) : Int) := by rw [Int.tdiv_eq_ediv_of_nonneg (by omega)]; simp
      have hd2 : (e : Int) / (L : Int) = ((e / L : Nat) : Int) := by simp
      have hdl : e / L ≤ e := Nat.div_le_self _ _
      obtain ⟨t, HT⟩ : ∃ t, Hid (e / L = t) := ⟨_, rfl⟩
      rw [HT.out] at hd1 hd2 hdl HLd
      have lne : (L : Int) ≠ 0 := by omega
      have lq : ((L : Int) == 0) = false := by simpa using lne
      go_wp2_with fail
      go_quiet (fail)
      go_wp2_with fail
      go_quiet (fail)
      go_wp2
      go_ret2
      exact ⟨L, t, rfl, HLd.out, _, by first | rfl | rw [World.drewN_drewN, World.drewN_drewN] | rw [World.drewN_drewN]⟩

theorem is_any (v : Value) (zs : List Int) (w : World) (hs : Sl .u8 w v zs) (hlen : zs.length ≤ 1000000) :
    Calls Try.prog 7 #[v] w fun e w' => e = .returned (.bool (lynB zs)) ∧ ∃ m, w' = w.drewN m := by
  have HS := hide' hs
  obtain ⟨a, c, rfl, _⟩ := hs
  by_cases h0 : zs.length = 0
  · have HD : Hid (lynB zs = false) := lynB_false fun h => h.1 h0
    have hq : ((zs.length : Int) == 0) = true := by simp [h0]
    go_enter Try.func7, Try.ntmps7
    go_wp2
    go_ret
    rw [HD.out]
    exact ⟨rfl, 0, rfl⟩
  · have hq : ((zs.length : Int) == 0) = false := by simpa using h0
    have HI := hide' (lyn_longI h0)
    obtain ⟨n, HN⟩ : ∃ n, Hid (zs.length = n) := ⟨_, rfl⟩
    have H0 := hide' h0
    have HLN := hide' hlen
    clear h0 hlen
    rw [HN.out] at HI HS hq ⊢
    go_enter Try.func7, Try.ntmps7
    go_wp2_with fail
    refine (leading_any _ zs w HS.out H0.out HLN.out).mono ?_
    rintro e w1 ⟨L, t, rfl, hl, m, rfl⟩
    have HL := hide' hl.long
    clear hl
    rw [HL.out] at HI
    by_cases hLn : L = n
    · have HD : Hid (lynB zs = true) := lynB_true (HI.out.2 hLn)
      subst hLn
      go_wp2
      go_ret
      rw [HD.out]
      exact ⟨by simp, m, rfl⟩
    · have HD : Hid (lynB zs = false) := lynB_false fun h => hLn (HI.out.1 h)
      have hLq : ((L : Int) == (n : Int)) = false := by simp; omega
      go_wp2
      go_ret
      rw [HD.out]
      exact ⟨rfl, m, rfl⟩

set_option maxHeartbeats 800000 in
theorem factors_any (v : Value) (zs : List Int) (w : World) (hs : Sl .u8 w v zs) (hlen : zs.length ≤ 1000000) :
    Calls Try.prog 10 #[v] w fun e w' => ∃ s, e = .returned s ∧ Own .i64 3 w.heap.size w' s (facL zs) ∧ Ext w w' := by
  have HS := hide' hs
  have HLN : Hid ((facL zs).length ≤ 1000000) := Nat.le_trans (facL_len _ zs (Nat.le_refl _)) hlen
  obtain ⟨N, HN⟩ : ∃ n, Hid (zs.length = n) := ⟨_, rfl⟩
  rw [HN.out] at hlen
  clear hs
  go_enter Try.func10, Try.ntmps10
  go_wp2
  go_loopw [0, 3] (fun vs vo wr => ∃ (k : Nat) (out : List Int), k ≤ N ∧ Hid (Sl .u8 w vs (zs.drop k)) ∧ Hid (Own .i64 3 w.heap.size wr vo out) ∧ Hid (out ++ facL (zs.drop k) = facL zs) ∧ Hid (Ext w wr)) (fun vs _ _ => match vs with | .slice _ n _ => n | _ => 0)
  case atStart => exact ⟨0, [], Nat.zero_le _, HS, Own.nil _ _ _ _, (show _ = _ by simp), Ext.refl _⟩
  case round =>
    obtain ⟨k, out, hk, HV, HO, HF, HE⟩ := hrel
    have hv := HV.out
    obtain ⟨a, c, rfl, _⟩ := hv
    have hdl : (zs.drop k).length + k ≤ N := by rw [List.length_drop, HN.out]; omega
    obtain ⟨n, hn⟩ : ∃ n, (zs.drop k).length = n := ⟨_, rfl⟩
    have HnL := hide' hn
    rw [hn] at HV hdl ⊢
    clear hn
    by_cases h0 : n = 0
    · subst h0
      have HR : Hid (out = facL zs) := by
        show _ = _
        rw [← HF.out, facL_nil HnL.out, List.append_nil]
      go_wp2
      go_ret
      exact ⟨_, rfl, by rw [← HR.out]; exact HO.out, HE.out⟩
    · have hn0 : (0 : Int) < n := by omega
      have hn0' : 0 < n := by omega
      go_wp2_with fail
      refine (leading_any _ (zs.drop k) wr (HV.out.ext HE.out) (by rw [HnL.out]; exact h0) (by rw [HnL.out]; omega)).mono ?_
      rintro e w1 ⟨L, t, rfl, hl, m, rfl⟩
      have hL := hl.pos
      have ht := hl.times
      have hM := hl.le
      rw [HnL.out] at hM
      have HFC := hide' hl.fac
      clear hl
      have hmul : (L : Int) * (t : Int) = ((L * t : Nat) : Int) := by simp
      have hLM : L ≤ L * t := Nat.le_mul_of_pos_right _ (by omega)
      have htM : t ≤ L * t := Nat.le_mul_of_pos_left _ (by omega)
      obtain ⟨M, HM⟩ : ∃ M, Hid (L * t = M) := ⟨_, rfl⟩
      rw [HM.out] at hM hmul hLM htM HFC
      have HF2 : Hid (out ++ List.replicate t (L : Int) ++ facL (zs.drop (k + M)) = facL zs) := by
        show _ = _
        rw [← HF.out, HFC.out, List.drop_drop, List.append_assoc]
      have HOL : Hid (out.length + t ≤ 1000000) := by
        have h1 := congrArg List.length HF2.out
        have h2 := HLN.out
        simp only [List.length_append, List.length_replicate] at h1
        show _ ≤ _
        omega
      obtain ⟨a1, t1, s1, _⟩ := HV.out.runDrop (P := Try.prog) 22 5 Try.underlying22 size8 M (by rw [HnL.out]; exact hM)
      rw [List.drop_drop] at s1
      have S1 := hide' s1
      clear s1
      obtain ⟨n2, hn2⟩ : ∃ n2, n - M = n2 := ⟨_, rfl⟩
      rw [hn2] at t1 S1
      obtain ⟨c2, hc2⟩ : ∃ c2, c - M = c2 := ⟨_, rfl⟩
      rw [hc2] at t1 S1
      have hn2' : n2 < n := by omega
      clear hn2 hc2
      have HEr := hide' (HE.out.trans (Ext.drewN wr m))
      have HOr : Hid (Own .i64 3 w.heap.size (wr.drewN m) u3 out) := HO.out.ext (Ext.drewN _ _)
      go_wp2
      go_loopw [3, 15] (fun vo vi wi => ∃ (i : Nat) (xs : List Int), i ≤ t ∧ vi = .int .i64 i ∧ Hid (Own .i64 3 w.heap.size wi vo xs) ∧ Hid (xs = out ++ List.replicate i (L : Int)) ∧ Hid (Ext w wi)) (fun _ vi _ => t - (intOf vi).toNat)
      case atStart => exact ⟨0, out, Nat.zero_le _, rfl, HOr, (show _ = _ by rw [List.replicate_zero, List.append_nil]), HEr⟩
      case round =>
        obtain ⟨i, xs, hi, rfl, HOi, HXi, HEi⟩ := hrel
        by_cases hlt : i < t
        · have hlt' : (i : Int) < t := by omega
          have hsz := HEi.out.size
          have hol : Hid (xs.length + 1 ≤ 1000000) := by
            have := HOL.out
            show _ ≤ _
            rw [HXi.out]
            simp only [List.length_append, List.length_replicate]
            omega
          go_wp2_with (at_builtin; refine wpList_snoc _ rfl _ _ 25 rfl 3 .i64 8 Try.underlying25 infoI64 w.heap.size _ xs (L : Int) ⟨wr.heap.size, 0, none⟩ rfl rfl ?c4 (HOi.out.alloc _) ?c3 ?c5 ?_)
          case c4 => simp only [World.cell?, heap_alloc_top]; simp
          case c3 => have := hol.out; unfold maxLen; omega
          case c5 => simp; omega
          intro v1 w1 ho1 hb1
          have HX1 : Hid (xs ++ [(L : Int)] = out ++ List.replicate (i + 1) (L : Int)) := by
            show _ = _
            rw [HXi.out, List.append_assoc, ← List.replicate_succ']
          have HO1 := hide' ho1
          have HE1 : Hid (Ext w w1) := Below.trans (HEi.out.trans (ext_alloc _ _)) hb1
          clear ho1 hb1
          go_wp2
          go_roundw
          case rel => exact ⟨i + 1, _, by omega, by go_num, HO1, HX1, HE1⟩
          case measure => simp [intOf]; omega
        · have hlt' : decide ((i : Int) < t) = false := by simp; omega
          have hit : i = t := by omega
          subst hit
          rw [HXi.out] at HOi
          go_wp2
          go_roundw
          case rel => exact ⟨k + M, _, by omega, S1, HOi, HF2, HEi⟩
          case measure => exact hn2'
end Go.Proofs.Ytlnpgdjmcdhpbaa
