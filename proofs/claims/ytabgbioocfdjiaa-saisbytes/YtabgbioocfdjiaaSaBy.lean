/- Contract of sais.byPieces: the pieces in order, by induced sorting. -/
import Derived.Test.YtabgbioocfdjiaaSaPart
import Derived.Test.YtabgbioocfdjiaaRepInt
import Derived.Test.YtabgbioocfdjiaaIndSort
namespace Go.Proofs.Ytabgbioocfdjiaa
set_option linter.unusedVariables false
set_option linter.unusedSimpArgs false
open Go.RowKit

/-- 'make([]int, 0, n)' -/
theorem make_roomI (w : World) (n : Nat) (hn : n ≤ 1000000) : ∃ w', (Instr.makeSlice 22 (.int .i64 0) (.int .i64 (n : Int))).run Try.prog w = .ok (.slice (some ⟨w.heap.size, 0, none⟩) 0 n) w' ∧ Own .i64 3 w.heap.size w' (.slice (some ⟨w.heap.size, 0, none⟩) 0 n) [] ∧ Ext w w' := by
  obtain ⟨i0, hi, hz0, hz1, hz2⟩ := info_parts infoI64
  obtain ⟨w', h1, h2, h3⟩ := run_make_own (P := Try.prog) w w.heap.size 22 3 i0 (.int .i64 0) 1 Try.underlying22 hi hz0 hz1 .i64 .i64 n (by rw [hz2]; omega) (by unfold maxLen; omega) (Nat.le_refl _)
  exact ⟨w', h1, h2, ⟨h3.os, h3.tape, h3.output, h3.size, fun k hk => h3.block k hk (by simp)⟩⟩

/-- Which piece begins at a place, of the first i ones. -/
structure PieceAt (s : List Int) (i : Nat) (pa : List Int) : Prop where
  len : pa.length = s.length
  yes : ∀ j, j < i → pa.getD ((firstN s).getD j 0) 0 = (j : Int)
  no : ∀ p, p < s.length → (∀ j, j < i → (firstN s).getD j 0 ≠ p) → pa.getD p 0 = -1
theorem PieceAt.start (s : List Int) : PieceAt s 0 (List.replicate s.length (-1)) :=
  ⟨List.length_replicate, fun j hj => by omega, fun p hp _ => by simp [List.getD, hp]⟩
theorem PieceAt.next {s : List Int} {i : Nat} {pa : List Int} (h : PieceAt s i pa) (hi : i < (firstN s).length) : PieceAt s (i + 1) (pa.set ((firstN s).getD i 0) (i : Int)) := by
  have hlt := (firstN_at hi).1
  refine ⟨by rw [List.length_set]; exact h.len, fun j hj => ?_, fun p hp hn => ?_⟩
  · by_cases e : j = i
    · subst e
      rw [setI_same (by rw [h.len]; exact hlt)]
    · have := firstN_lt s (show j < i by omega) hi
      rw [setI_other (by omega)]
      exact h.yes j (by omega)
  · rw [setI_other (hn i (by omega))]
    exact h.no p hp fun j hj => hn j (by omega)
theorem PieceAt.first {s : List Int} {pa : List Int} (h : PieceAt s (firstN s).length pa) {p : Nat} (hp : p < s.length) (hf : fsB s p = true) : ∃ j, j < (firstN s).length ∧ (firstN s).getD j 0 = p ∧ pa.getD p 0 = (j : Int) := by
  have hm : p ∈ firstN s := firN_mem.2 ⟨hp, hf⟩
  obtain ⟨j, hj, ej⟩ := mem_getN hm
  exact ⟨j, hj, ej, by rw [← ej]; exact h.yes j hj⟩
theorem PieceAt.other {s : List Int} {pa : List Int} (h : PieceAt s (firstN s).length pa) {p : Nat} (hp : p < s.length) (hf : fsB s p = false) : pa.getD p 0 = -1 :=
  h.no p hp fun j hj e => by
    have := (firstN_at hj).2
    rw [e, hf] at this
    cases this
/-- Pieces in the row's order, as far as the first t places of it. -/
structure Pieces (s : List Int) (R : List Nat) (t : Nat) (P : List Nat) : Prop where
  row : P.map (fun (i : Nat) => (firstN s).getD i 0) = firOf s (R.take t)
  lt : ∀ i ∈ P, i < (firstN s).length
theorem Pieces.start (s : List Int) (R : List Nat) : Pieces s R 0 [] := ⟨rfl, fun i hi => by cases hi⟩
theorem Pieces.yes {s : List Int} {R P : List Nat} {t j : Nat} (h : Pieces s R t P) (ht : t < R.length) (hf : fsB s (R.getD t 0) = true) (hj : j < (firstN s).length) (ej : (firstN s).getD j 0 = R.getD t 0) : Pieces s R (t + 1) (P ++ [j]) := by
  refine ⟨?_, fun i hi => ?_⟩
  · rw [takeN_succ ht]
    unfold firOf
    rw [List.filter_append, List.map_append, h.row, List.filter_cons_of_pos hf, List.map_cons, ej]
    rfl
  · rcases List.mem_append.1 hi with g | g
    · exact h.lt i g
    · rw [List.mem_singleton.1 g]; exact hj
theorem Pieces.no {s : List Int} {R P : List Nat} {t : Nat} (h : Pieces s R t P) (ht : t < R.length) (hf : fsB s (R.getD t 0) = false) : Pieces s R (t + 1) P := by
  refine ⟨?_, h.lt⟩
  rw [takeN_succ ht, h.row]
  unfold firOf
  rw [List.filter_append, List.filter_cons_of_neg (by rw [hf]; simp), List.filter_nil, List.append_nil]
theorem Pieces.len {s : List Int} {R P : List Nat} {t : Nat} (h : Pieces s R t P) : P.length ≤ R.length := by
  have := congrArg List.length h.row
  rw [List.length_map] at this
  rw [this]
  unfold firOf
  exact Nat.le_trans (List.length_filter_le _ _) (by rw [List.length_take]; omega)

set_option maxHeartbeats 1000000 in
theorem byPieces_any (sv fv : Value) (s : List Int) (k : Int) (w : World) (hs : Sl .i64 w sv s) (hf : Sl .i64 w fv (natL (firstN s))) (hfit : fitB s k = true) (hlen : s.length ≤ 1000000) :
    Calls Try.prog 34 #[sv, .int .i64 k, fv] w fun e w' => ∃ u P R, e = .returned u ∧ R.Perm (List.range s.length) ∧ R.Pairwise (fun a b => cmpI (cutW s a) (cutW s b) ≤ 0) ∧ Pieces s R s.length P ∧ Own .i64 3 w.heap.size w' u (natL P) ∧ Ext w w' := by
  have HV := hide' hs
  have HF := hide' hf
  have HLEN := hide' hlen
  have hfl : (firstN s).length ≤ s.length := by have := firstN_half s; omega
  obtain ⟨a, c, rfl, _⟩ := hs
  obtain ⟨a', c', rfl, _⟩ := hf
  obtain ⟨_, _, _, hcf⟩ := HF.out.nat
  have CF := hide' hcf
  clear hcf
  have HLN := hide' (natL_len (firstN s))
  have HB : Hid (sortB s k (natL (firstN s)) = true) := sortB_iff.2 ⟨hfit, firB_iff.2 (List.Perm.refl _)⟩
  obtain ⟨R, hR1, hR2, hR3⟩ := indI_cut (F := firstN s) (Fits.of hfit) ⟨List.Perm.refl _⟩
  have HI : Hid (sortI s k (natL (firstN s)) = natL R) := by show _ = _; rw [sortI_yes HB.out, toN_nat, hR1]
  have HR2 := hide' hR2
  have HR3 := hide' hR3
  have HRL : Hid (R.length = s.length) := by show _ = _; rw [hR2.length_eq, List.length_range]
  have C := hide' (sort_any _ _ s (natL (firstN s)) k w HV.out HF.out hlen)
  rw [HB.out, HI.out] at C
  clear hR1 hR2 hR3 hfit
  obtain ⟨n, HN⟩ : ∃ n, Hid (s.length = n) := ⟨_, rfl⟩
  obtain ⟨f, HL⟩ : ∃ f, Hid ((firstN s).length = f) := ⟨_, rfl⟩
  rw [HLN.out] at HF CF C ⊢
  rw [HN.out] at hlen hfl C HRL ⊢
  rw [HL.out] at HF CF C hfl ⊢
  clear HV
  go_enter Try.func34, Try.ntmps34
  go_wp2_with fail
  refine C.out.mono ?_
  rintro e w1 ⟨u, rfl, ho, he⟩
  have SR := hide' ho.sl
  have E1 := hide' he
  clear ho he C
  obtain ⟨ra, rc, rfl, _⟩ := SR.out
  rw [natL_len, HRL.out] at SR ⊢
  obtain ⟨_, _, _, hcr⟩ := SR.out.nat
  have CR := hide' hcr
  clear hcr SR
  have E2 := hide' (E1.out.trans (ext_alloc w1 (.cells #[.int .i64 (-1)] 3)))
  have CP := hide' (repeat_any _ (-1) n (w1.alloc (.cells #[.int .i64 (-1)] 3)) (Sl.lit w1 [-1] 1 rfl (by unfold maxLen; omega)) (by omega))
  go_wp2_with fail
  refine CP.out.mono ?_
  rintro e w2 ⟨rfl, ho, he⟩
  have X2 := hide' ((ext_alloc w1 (.cells #[.int .i64 (-1)] 3)).trans he)
  obtain ⟨g, HG⟩ : ∃ g, Hid ((w1.alloc (.cells #[.int .i64 (-1)] 3)).heap.size = g) := ⟨_, rfl⟩
  have hg1 : w1.heap.size ≤ g := by rw [← HG.out]; simp
  rw [HG.out] at ho ⊢
  have O2 := hide' ho
  clear ho he CP E2
  have PA0 : Hid (PieceAt s 0 (List.replicate n (-1))) := by show PieceAt _ _ _; rw [← HN.out]; exact PieceAt.start s
  go_wp2
  go_loopw [29] (fun vi wr => ∃ (i : Nat) (pa : List Int), i ≤ f ∧ vi = .int .i64 i ∧ Hid (PieceAt s i pa) ∧ Hid (Own .i64 3 g wr (.slice (some ⟨g, 0, none⟩) n n) pa) ∧ Hid (Ext w1 wr)) (fun vi _ => f - (intOf vi).toNat)
  case atStart => exact ⟨0, _, Nat.zero_le _, rfl, PA0, O2, X2⟩
  case round =>
    clear O2 X2 PA0
    obtain ⟨i, pa, hi, rfl, PA, HO, HE⟩ := hrel
    have HPL : Hid (pa.length = n) := by show _ = _; rw [PA.out.len, HN.out]
    by_cases hlt : i < f
    · have hlt' : (i : Int) < f := by omega
      obtain ⟨g1, o1, rfl, k1⟩ := CF.out (by omega)
      have c1 := HE.out.cellOf (E1.out.cellOf (k1 i hlt))
      clear k1
      have PB := hide' (PA.out.next (by rw [HL.out]; exact hlt))
      have hp := (firstN_at (s := s) (i := i) (by rw [HL.out]; exact hlt)).1
      rw [HN.out] at hp
      obtain ⟨p, HP⟩ : ∃ p, Hid ((firstN s).getD i 0 = p) := ⟨_, rfl⟩
      rw [HP.out] at c1 PB hp
      have c2 := HO.out.cell HPL.out p hp
      have z2 := HO.out.frozen HPL.out p
      have O3 := hide' (HO.out.store HPL.out p (i : Int))
      have X3 : Hid (Ext w1 (wr.setCell ⟨g, p, none⟩ (.int .i64 (i : Int)))) := Ext.but HE.out hg1 (but_set _ _ _ _)
      have hp' : (p : Int) < n := by omega
      clear HO HE PA
      go_wp2
      go_roundw
      case rel => exact ⟨i + 1, _, by omega, by go_num, PB, O3, X3⟩
      case measure => simp [intOf] <;> omega
    · have d1 : decide ((i : Int) < f) = false := by simp; omega
      have hif : i = f := by omega
      have PB : Hid (PieceAt s (firstN s).length pa) := by show PieceAt _ _ _; rw [HL.out, ← hif]; exact PA.out
      obtain ⟨w3, hmk, ho, he⟩ := make_roomI wr f (by omega)
      have CP : Hid (∀ j, j < n → wr.cell? ⟨g, j, none⟩ = some (.int .i64 (pa.getD j 0))) := fun j hj => HO.out.cell HPL.out j hj
      have E3 := hide' (E1.out.trans HE.out)
      have E4 := hide' (HE.out)
      have O3 := hide' ho
      have X3 := hide' he
      have hz3 := E3.out.size
      clear ho he HO HE PA hif
      go_wp2
      generalize HGW : wr = W at *
      clear HGW
      go_loopw [12, 44] (fun ov vi wq => ∃ (i : Nat) (P : List Nat), i ≤ n ∧ vi = .int .i64 i ∧ Hid (Pieces s R i P) ∧ Hid (Own .i64 3 W.heap.size wq ov (natL P)) ∧ Hid (Ext W wq)) (fun _ vi _ => n - (intOf vi).toNat)
      case atStart => exact ⟨0, [], Nat.zero_le _, rfl, Pieces.start _ _, O3, X3⟩
      case round =>
        clear O3 X3 hmk
        obtain ⟨i, P, hi, rfl, PP, HO, HE⟩ := hrel
        have hsz := HE.out.size
        by_cases hlt : i < n
        · have hlt' : (i : Int) < n := by omega
          obtain ⟨g1, o1, rfl, k1⟩ := CR.out (by omega)
          have c1 := HE.out.cellOf (E4.out.cellOf (k1 i hlt))
          clear k1
          have hiR : i < R.length := by rw [HRL.out]; exact hlt
          have hp := List.mem_range.1 (HR2.out.mem_iff.1 (getN_mem hiR))
          have HPL : Hid ((natL P).length ≤ 1000000) := by
            show _ ≤ _
            rw [natL_len]
            have := PP.out.len
            rw [HRL.out] at this
            omega
          have c2 := HE.out.cellOf (CP.out (R.getD i 0) (by rw [← HN.out]; exact hp))
          cases hfs : fsB s (R.getD i 0)
          · have HPN := hide' (PP.out.no hiR hfs)
            rw [PB.out.other hp hfs] at c2
            rw [HN.out] at hp
            obtain ⟨p, HP⟩ : ∃ p, Hid (R.getD i 0 = p) := ⟨_, rfl⟩
            rw [HP.out] at c1 c2 hp
            have hp' : (p : Int) < n := by omega
            clear hfs hiR PP
            go_wp2
            go_roundw
            case rel => exact ⟨i + 1, P, by omega, by go_num, HPN, HO, HE⟩
            case measure => simp [intOf] <;> omega
          · obtain ⟨j, hj1, hj2, hj3⟩ := PB.out.first hp hfs
            have HPN := hide' (PP.out.yes hiR hfs hj1 hj2)
            rw [hj3] at c2
            rw [HN.out] at hp
            obtain ⟨p, HP⟩ : ∃ p, Hid (R.getD i 0 = p) := ⟨_, rfl⟩
            rw [HP.out] at c1 c2 hp
            have hp' : (p : Int) < n := by omega
            have hj4 : ((j : Int) == -1) = false := by simp
            have hj5 : ((j : Int) != -1) = true := by simp
            clear hfs hiR hj1 hj2 hj3 PP
            go_wp2_with (at_builtin; refine wpList_snoc _ rfl _ _ 22 rfl 3 .i64 8 Try.underlying22 infoI64 W.heap.size _ (natL P) (j : Int) ⟨wr.heap.size, 0, none⟩ rfl rfl ?c4 (HO.out.alloc _) ?c3 ?c5 ?_)
            case c3 => have := HPL.out; unfold maxLen; omega
            case c5 => simp; omega
            case c4 => simp only [World.cell?, heap_alloc_top]; simp
            intro v1 w4 ho1 hb1
            have HO1 : Hid (Own .i64 3 W.heap.size w4 v1 (natL (P ++ [j]))) := by rw [← natL_snoc]; exact ho1
            have HE1 : Hid (Ext W w4) := Below.trans (HE.out.trans (ext_alloc _ _)) hb1
            clear ho1 hb1
            go_wp2
            go_roundw
            case rel => exact ⟨i + 1, _, by omega, by go_num, HPN, HO1, HE1⟩
            case measure => simp [intOf] <;> omega
        · have d1 : decide ((i : Int) < n) = false := by simp; omega
          have hin : n = i := by omega
          go_wp2
          go_ret
          exact ⟨_, P, R, rfl, by have := HR2.out; rw [HN.out] at this; exact this, HR3.out, by have := PP.out; rw [← hin] at this; exact this, HO.out.low hz3, E3.out.trans HE.out⟩
end Go.Proofs.Ytabgbioocfdjiaa
