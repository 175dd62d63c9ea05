/- Contract of slices.SortFunc at rings: none, or some. -/
import Derived.Test.YtjccpkekhjhafaaNecSort
namespace Go.Proofs.Ytjccpkekhjhafaa
set_option linter.unusedVariables false
set_option linter.unusedSimpArgs false
open Go.RowKit

set_option maxHeartbeats 2000000 in
theorem sortIns0 (p : Option Addr) (cap : Nat) (fv : Value) (w : World) :
    Calls Try.prog 40 #[.slice p 0 cap, .int .i64 0, .int .i64 0, fv] w fun e w' => e = .returned (.tuple #[]) ∧ w' = w := by
  go_enter Try.func40, Try.ntmps40
  go_wp2
  refine wp_loop_rounds 1 ?_
  rw [rounds_succ]
  go_wp2
  go_end0
  exact ⟨rfl, rfl⟩

set_option maxHeartbeats 2000000 in
theorem sortPdq0 (p : Option Addr) (cap : Nat) (lim : Int) (fv : Value) (w : World) :
    Calls Try.prog 32 #[.slice p 0 cap, .int .i64 0, .int .i64 0, .int .i64 lim, fv] w fun e w' => e = .returned (.tuple #[]) ∧ w' = w := by
  have hi := fun W => sortIns0 p cap fv W
  go_enter Try.func32, Try.ntmps32
  go_wp2
  refine wp_loop_rounds 1 ?_
  rw [rounds_succ]
  go_wp2_with (go_at_call 40; refine (hi _).mono ?_; rintro e w' ⟨rfl, rfl⟩)
  (try simp only [Exit.inBlock, Exit.then]); refine bodyPost_ret (results_none rfl _ _ _) rfl ?_
  exact ⟨rfl, rfl⟩

set_option maxHeartbeats 2000000 in
theorem sort0 (p : Option Addr) (cap : Nat) (fv : Value) (w : World) :
    Calls Try.prog 26 #[.slice p 0 cap, fv] w fun e w' => e = .returned (.tuple #[]) ∧ w' = w := by
  have hp := fun lim W => sortPdq0 p cap lim fv W
  have hl : ∀ W, Calls Try.prog 33 #[.int .u64 0] W fun e w' => e = .returned (.int .i64 (Lib.bitLen 0 : Nat)) ∧ w' = W := fun W => by
    have L := sortRing
    have h := Any.bits_Len (SlLaysF0.n15.bits (P := Try.prog) (ρ := sortRing_ren) { L with }) 0 W (by omega) (by omega)
    exact h
  go_enter Try.func26, Try.ntmps26
  go_wp2_with (first | (go_at_call 33; refine (hl _).mono ?_; rintro e w' ⟨rfl, rfl⟩) | (go_at_call 32; refine (hp _ _).mono ?_; rintro e w' ⟨rfl, rfl⟩))
  go_end0
  exact ⟨rfl, rfl⟩

/-- slices.SortFunc(row, compare) -/
theorem sortRing_any (B : Nat) (w : World) (s : Value) (l : List Rg) (ho : OwnR B w s l) (hok : ∀ r ∈ l, RgOk B w r) (hlen : l.length ≤ 1000000) (hB : B ≤ w.heap.size) :
    Calls Try.prog 26 #[s, .func (.func 27) #[] #[]] w fun e w' =>
      e = .returned (.tuple #[]) ∧ ∃ l', l'.Perm l ∧ l'.Pairwise (fun a b => rcI a.x b.x ≤ 0) ∧ SlR w' s l' ∧ (∀ r ∈ l', RgOk B w' r) ∧ Below B w w' := by
  by_cases hl0 : l.length = 0
  · have e0 := List.length_eq_zero_iff.1 hl0
    subst e0
    obtain ⟨p, cap, rfl, hcap⟩ : ∃ p cap, s = .slice p 0 cap ∧ cap ≤ maxLen := by
      rcases ho.2 with ⟨rfl, h0⟩ | ⟨g, cap, cur, rfl, hBg, hh, hn, hm, hs, ht⟩
      · exact ⟨none, 0, rfl, by simp⟩
      · exact ⟨_, cap, rfl, hm⟩
    refine (sort0 _ _ _ w).mono ?_
    rintro e w' ⟨rfl, rfl⟩
    exact ⟨rfl, [], List.Perm.refl _, List.Pairwise.nil, ⟨p, cap, rfl, Nat.zero_le _, hcap, .inl rfl⟩, by simp, Below.refl _ _⟩
  rcases ho.2 with ⟨rfl, h0⟩ | ⟨g, cap, cur, hsv, hBg, hh, hn, hm, hs, ht⟩
  · exact absurd h0 hl0
  subst hsv
  have hg : g < w.heap.size := (Array.getElem?_eq_some_iff.1 hh).1
  have inh : Inhabited {r : Rg // r ∈ l} := ⟨⟨l[0]'(by omega), List.getElem_mem _⟩⟩
  obtain ⟨enc, henc⟩ : ∃ enc : {r : Rg // r ∈ l} → List Value, enc = fun r => encR r.1 := ⟨_, rfl⟩
  have hk : ∀ r, (enc r).length = 3 := fun r => by rw [henc]; rfl
  have h1 : ∀ r, ∀ v ∈ enc r, v.oneCell' = true := fun r v hv => by rw [henc] at hv; exact (hok r.1 r.2).enc1 v hv
  have hd : (l.attach.toArray).size = l.length := by simp
  have hflat : cellsR l = l.attach.flatMap enc := by
    have h := congrArg (fun m : List Rg => m.flatMap encR) (List.attach_map_subtype_val l)
    simp only [List.flatMap_map] at h
    rw [henc]
    exact h.symm
  have hH : Go.Sort.HoldsK enc 3 w g 0 l.attach.toArray := by
    intro t htt
    rw [Go.Sort.size_flatK, hd] at htt
    have hdiv : t / 3 < l.length := Nat.div_lt_of_lt_mul (by omega)
    have hmod : t % 3 < 3 := Nat.mod_lt _ (by decide)
    have et : t = t / 3 * 3 + t % 3 := by omega
    refine ⟨?_, World.ownsRow.frozenAt ho _⟩
    rw [Nat.zero_add, World.ownsRow.cellAt ho t (by omega), Go.Sort.get_flatK _ _ _ _ (by rw [hd]; exact htt), hflat]
    have ef := flat_at enc hk l.attach (t / 3) (t % 3) (by simpa using hdiv) hmod
    rw [← et] at ef
    rw [ef]
    have e1 : l.attach.toArray[t / 3]! = l.attach[t / 3]'(by simpa using hdiv) := by rw [getElem!_pos l.attach.toArray (t / 3) (by simpa using hdiv)]; simp
    rw [e1, List.getElem?_eq_getElem (by rw [hk]; exact hmod), getElem!_pos _ _ (by rw [hk]; exact hmod)]
    rfl
  have hcmp : CmpLays Try.prog 27 #[] enc 3 (fun a b : {r : Rg // r ∈ l} => rcI a.1.x b.1.x) g 0 l.attach.toArray.size w := by
    intro m os dk _ a b
    have hbut := but_sort enc 3 w g m dk os hg
    have ka := (hok a.1 a.2).other ho hbut
    have kb := (hok b.1 b.2).other ho hbut
    rw [henc] at ka kb ⊢
    exact cmpRing_any a.1 b.1 _ ka.2.1.sl kb.2.1.sl (ka.2.2.1.takeN _) (kb.2.2.1.takeN _)
  have hcon := AnyQ.slices_SortFunc sortRing 3 Try.isAgg38 Try.sizeOf38 enc hk h1 (fun a b : {r : Rg // r ∈ l} => rcI a.1.x b.1.x)
    (rcI_swo fun r : {r : Rg // r ∈ l} => r.1.x) 27 #[] g 0 cap l.attach.toArray w (enters_of Try.func27 (by kernel_rfl) rfl) hcmp hH hg (by rw [hd]; omega)
  rw [hd] at hcon
  refine Calls.mono hcon ?_
  rintro e w' ⟨rfl, d', n, os, hp, hsrt, rfl⟩
  have hbut := but_sort enc 3 w g n d' os hg
  have hsz : d'.size = l.length := by rw [hp.1, hd]
  have hperm : (d'.toList.map (·.1)).Perm l := by
    have h2 := hp.2.2
    rw [Array.extract_eq_self_of_le (by omega), Array.extract_eq_self_of_le (by rw [hd]; exact Nat.le_refl _)] at h2
    have h3 := h2.map (·.1)
    simpa using h3
  have hSW : Go.Sort.HoldsK enc 3 (sortWorldK enc 3 w g 0 n d' os) g 0 d' := holdsK_sortWorldK_c enc 3 w g 0 l.attach.toArray d' n os hH hg hp.1
  refine ⟨rfl, d'.toList.map (·.1), hperm, ?_, ?_, fun r hr => ?_, hbut.below hBg hB⟩
  · rw [List.pairwise_map, List.pairwise_iff_getElem]
    intro i j hi hj hij
    rw [Array.length_toList] at hi hj
    have h2 := hsrt i j (Nat.zero_le _) hij (by rw [← hsz]; exact hj)
    rw [getElem!_pos d' i hi, getElem!_pos d' j hj] at h2
    simp only [ltOf, decide_eq_false_iff_not] at h2
    have h3 := rcI_swap (d'[i]'hi).1.x (d'[j]'hj).1.x
    simp only [Array.getElem_toList]
    omega
  · have hll : (d'.toList.map (·.1)).length = l.length := by rw [List.length_map, Array.length_toList, hsz]
    refine ⟨_, cap, by rw [hll], by rw [hll]; exact hn, hm, .inr ⟨g, rfl, fun i r hr => ?_⟩⟩
    obtain ⟨hi, e⟩ := List.getElem?_eq_some_iff.1 hr
    rw [List.length_map, Array.length_toList] at hi
    rw [List.getElem_map, Array.getElem_toList] at e
    have c0 := (hSW.cell hi (c := 0) (by decide)).1
    have c1 := (hSW.cell hi (c := 1) (by decide)).1
    have c2 := (hSW.cell hi (c := 2) (by decide)).1
    rw [getElem!_pos d' i hi, henc, Nat.zero_add] at c0 c1 c2
    rw [henc]
    subst e
    exact ⟨c0, c1, c2⟩
  · exact (hok r (hperm.mem_iff.1 hr)).other ho hbut
end Go.Proofs.Ytjccpkekhjhafaa
