/- Contract of induce.isFirst: are they the first places, each once, in some order? -/
import Derived.Test.YtabgbioocfdjiaaKinFirst
import Derived.Test.YtabgbioocfdjiaaIndMath
import Derived.Test.YtabgbioocfdjiaaPermMath
namespace Go.Proofs.Ytabgbioocfdjiaa
set_option linter.unusedVariables false
set_option linter.unusedSimpArgs false
open Go.RowKit

def firB (s fs : List Int) : Bool := fs.isPerm (natL (firstN s))
theorem firB_iff {s fs : List Int} : firB s fs = true ↔ fs.Perm (natL (firstN s)) := List.isPerm_iff
theorem firB_no {s fs : List Int} (h : ¬ fs.Perm (natL (firstN s))) : firB s fs = false := by
  rw [Bool.eq_false_iff]
  exact fun e => h (firB_iff.1 e)
theorem firstN_nodup (s : List Int) : (firstN s).Nodup := (firN_sorted s s.length).imp fun h => Nat.ne_of_lt h
/-- The row of truths says which first places have not come yet. -/
def Miss (s fs : List Int) (i : Nat) (bs : List Bool) : Prop :=
  ((fs.take i).Nodup ∧ ∀ z ∈ fs.take i, z ∈ natL (firstN s)) ∧ ∀ x, x < s.length → (bs.getD x false = true ↔ (x ∈ firstN s ∧ (x : Int) ∉ fs.take i))
theorem Miss.bad {s fs : List Int} {i : Nat} {bs : List Bool} (h : Miss s fs i bs) (hi : i < fs.length) (hz : fs.getD i 0 < 0 ∨ (s.length : Int) ≤ fs.getD i 0 ∨ bs.getD (fs.getD i 0).toNat false = false) : firB s fs = false := by
  refine firB_no fun hp => ?_
  have hm := natL_mem.1 (hp.mem_iff.1 (getI_mem hi))
  obtain ⟨p, hp1, hp2⟩ := hm
  have hpn := (firN_mem.1 hp1).1
  rw [hp2] at hz
  rcases hz with hz | hz | hz
  · omega
  · omega
  · rw [Int.toNat_natCast] at hz
    have h1 : ¬ (p ∈ firstN s ∧ (p : Int) ∉ fs.take i) := fun e => by
      rw [(h.2 p hpn).2 e] at hz
      cases hz
    have h2 : (p : Int) ∈ fs.take i := by
      apply Classical.byContradiction
      exact fun e => h1 ⟨hp1, e⟩
    have hnd := hp.nodup_iff.2 (natL_nodup (firstN_nodup s))
    have h3 : (fs.take (i + 1)).Nodup := List.Pairwise.sublist (List.take_sublist _ _) hnd
    rw [takeI_succ hi, List.nodup_append] at h3
    exact h3.2.2 _ h2 _ (List.mem_singleton.2 rfl) hp2.symm
theorem Miss.next {s fs : List Int} {i p : Nat} {bs : List Bool} (h : Miss s fs i bs) (hl : bs.length = s.length) (hi : i < fs.length) (hz : fs.getD i 0 = (p : Int)) (hp : p < s.length) (hb : bs.getD p false = true) : Miss s fs (i + 1) (bs.set p false) := by
  obtain ⟨⟨h1, h2⟩, h3⟩ := h
  have h4 := (h3 p hp).1 hb
  unfold Miss
  rw [takeI_succ hi, hz]
  refine ⟨⟨List.nodup_append.2 ⟨h1, by simp, fun a ha c hc e => ?_⟩, fun z hz2 => ?_⟩, fun x hx => ?_⟩
  · simp only [List.mem_singleton] at hc
    exact h4.2 (by rw [← hc, ← e]; exact ha)
  · rcases List.mem_append.1 hz2 with h5 | h5
    · exact h2 z h5
    · simp only [List.mem_singleton] at h5
      rw [h5]
      exact natL_mem.2 ⟨p, h4.1, rfl⟩
  · by_cases e : x = p
    · subst e
      rw [setB_same (by omega)]
      simp
    · rw [setB_other (by omega), h3 x hx, List.mem_append, List.mem_singleton]
      constructor
      · exact fun h => ⟨h.1, fun h5 => by rcases h5 with h5 | h5; · exact h.2 h5
                                          · omega⟩
      · exact fun h => ⟨h.1, fun h5 => h.2 (.inl h5)⟩
theorem Miss.done {s fs : List Int} {bs : List Bool} (h : Miss s fs fs.length bs) (hl : fs.length = (firstN s).length) : firB s fs = true := by
  obtain ⟨⟨h1, h2⟩, _⟩ := h
  rw [List.take_length] at h1 h2
  exact firB_iff.2 (nodup_perm h1 h2 (by rw [natL_len]; omega))

set_option maxHeartbeats 1000000 in
theorem isFirst_any (fv sv : Value) (fs s : List Int) (w : World) (hf : Sl .i64 w fv fs) (hs : Sl .i64 w sv s) (hlen : s.length ≤ 1000000) :
    Calls Try.prog 24 #[fv, sv] w fun e w' => e = .returned (.bool (firB s fs)) ∧ Ext w w' := by
  have HF := hide' hf
  have HV := hide' hs
  have C := hide' (first_any _ s w hs hlen)
  obtain ⟨a, c, rfl, _⟩ := hf
  obtain ⟨a0, c0, rfl, _⟩ := hs
  obtain ⟨_, _, hcm, hcv⟩ := HF.out.int
  have CV := hide' hcv
  have hLN := firN_len s s.length
  have HIN : Hid (∀ j, j < (firstN s).length → (firstN s).getD j 0 < s.length) := fun j hj => (firN_in hj).2
  obtain ⟨L, HL⟩ : ∃ n, Hid (fs.length = n) := ⟨_, rfl⟩
  obtain ⟨W, HW⟩ : ∃ n, Hid (firstN s = n) := ⟨_, rfl⟩
  obtain ⟨m, HM⟩ : ∃ n, Hid (W.length = n) := ⟨_, rfl⟩
  obtain ⟨n, HN⟩ : ∃ n, Hid (s.length = n) := ⟨_, rfl⟩
  have HML : Hid ((natL W).length = m) := by show _ = _; rw [natL_len, HM.out]
  have hmn : m ≤ n := by rw [← HM.out, ← HW.out, ← HN.out]; exact hLN
  have HLs := HL
  rw [HW.out] at C HIN
  rw [HM.out] at HIN
  rw [HN.out] at C hlen HV HIN ⊢
  rw [HL.out] at CV HF ⊢
  clear hcv hLN hcm
  go_enter Try.func24, Try.ntmps24
  go_wp2_with fail
  refine C.out.mono ?_
  rintro e w1 ⟨s1, rfl, ho, he⟩
  have O1 := hide' ho.sl
  have X1 := hide' he
  have hz1 := he.size
  clear ho he C
  obtain ⟨a1, c1, rfl, _⟩ := O1.out
  rw [HML.out] at O1 ⊢
  obtain ⟨_, _, _, hc1⟩ := O1.out.nat
  have C1 := hide' hc1
  clear hc1
  by_cases hne : L = m
  rotate_left
  · have HB : Hid (firB s fs = false) := firB_no fun hp => hne (by
      have := hp.length_eq
      rw [natL_len, HW.out, HM.out, HL.out] at this
      exact this)
    have d1 : ((L : Int) == m) = false := by simp; omega
    have d2 : ((L : Int) != m) = true := by simp; omega
    clear hne
    go_wp2
    go_ret
    exact ⟨by rw [HB.out]; rfl, X1.out⟩
  · have d1 : ((L : Int) == m) = true := by simp; omega
    have d2 : ((L : Int) != m) = false := by simp; omega
    obtain ⟨w2, hmk, ho, he⟩ := make_bools w1 n (by omega)
    have HO := hide' ho
    have HE := hide' he
    have HLF : Hid (fs.length = (firstN s).length) := by show _ = _; rw [HL.out, HW.out, HM.out]; exact hne
    clear ho he
    obtain ⟨G, HG⟩ : ∃ G, Hid (w1.heap.size = G) := ⟨_, rfl⟩
    go_wp2
    clear hmk
    go_loopw [23] (fun vi wr => ∃ (i : Nat) (bs : List Bool), i ≤ m ∧ vi = .int .i64 i ∧ Hid (bs.length = n) ∧ Hid (∀ x, x < n → (bs.getD x false = true ↔ x ∈ W.take i)) ∧
      Hid (OwnB w1.heap.size wr (.slice (some ⟨w1.heap.size, 0, none⟩) n n) bs) ∧ Hid (Ext w1 wr)) (fun vi _ => m - (intOf vi).toNat)
    case atStart => exact ⟨0, List.replicate n false, Nat.zero_le _, rfl, List.length_replicate, (fun x hx => by simp [List.getD, hx]), HO, HE⟩
    case round =>
      clear HO HE
      obtain ⟨i, bs, hi, rfl, HLB, HB, HO, HE⟩ := hrel
      by_cases hlt : i < m
      · have hlt' : (i : Int) < m := by omega
        obtain ⟨g1, o1, rfl, k1⟩ := C1.out (by omega)
        have c1 := HE.out.cellOf (k1 i hlt)
        clear k1
        have hp := HIN.out i hlt
        have HTK := hide' (takeN_succ (l := W) (i := i) (by rw [HM.out]; exact hlt))
        obtain ⟨p, HP⟩ : ∃ p, Hid (W.getD i 0 = p) := ⟨_, rfl⟩
        rw [HP.out] at c1 hp HTK
        have hp' : (p : Int) < n := by omega
        have hfz := HO.out.frozen HLB.out p
        have hci := HO.out.cell HLB.out p hp
        have HO2 := hide' (HO.out.store HLB.out p true)
        go_wp2
        go_roundw
        case rel =>
          refine ⟨i + 1, bs.set p true, by omega, by go_num, (show _ = _ by rw [List.length_set]; exact HLB.out), fun x hx => ?_, HO2, Ext.but HE.out (Nat.le_refl _) (but_set _ _ _ _)⟩
          rw [HTK.out, List.mem_append, List.mem_singleton]
          by_cases hxp : x = p
          · subst hxp; rw [setB_same (by rw [HLB.out]; exact hx)]; simp
          · rw [setB_other (by omega), HB.out x hx]; simp [hxp]
        case measure => simp [intOf] <;> omega
      · have hlt' : decide ((i : Int) < m) = false := by simp; omega
        have hin : i = m := by omega
        have HMI : Hid (Miss s fs 0 bs) := by
          refine ⟨⟨by simp, by simp⟩, fun x hx => ?_⟩
          rw [HN.out] at hx
          rw [HB.out x hx, HW.out, List.take_of_length_le (by rw [HM.out]; omega)]
          simp
        clear HB hin
        go_wp2
        go_loopw [33] (fun vi wq => ∃ (i : Nat) (cs : List Bool), i ≤ L ∧ vi = .int .i64 i ∧ Hid (cs.length = n) ∧ Hid (Miss s fs i cs) ∧
          Hid (OwnB w1.heap.size wq (.slice (some ⟨w1.heap.size, 0, none⟩) n n) cs) ∧ Hid (Ext w1 wq)) (fun vi _ => L - (intOf vi).toNat)
        case atStart => exact ⟨0, bs, Nat.zero_le _, rfl, HLB, HMI, HO, HE⟩
        case round =>
          clear HO HE HLB HMI hlt hlt'
          obtain ⟨t, cs, ht, rfl, HLB, HMI, HO, HE⟩ := hrel
          by_cases hlt : t < L
          · have hlt' : (t : Int) < L := by omega
            obtain ⟨g1, o1, rfl, k1⟩ := CV.out (by omega)
            have c1 := HE.out.cellOf (X1.out.cellOf (k1 t hlt))
            clear k1
            have HBAD : Hid (∀ z, fs.getD t 0 = z → (z < 0 ∨ (n : Int) ≤ z ∨ cs.getD z.toNat false = false) → firB s fs = false) := fun z hz h => HMI.out.bad (by rw [HL.out]; exact hlt) (by rw [hz, HN.out]; exact h)
            have HNX : Hid (∀ p : Nat, fs.getD t 0 = (p : Int) → p < n → cs.getD p false = true → Miss s fs (t + 1) (cs.set p false)) := fun p h1 h2 h3 => HMI.out.next (by rw [HLB.out, HN.out]) (by rw [HL.out]; exact hlt) h1 (by rw [HN.out]; exact h2) h3
            obtain ⟨z, HZ⟩ : ∃ p, Hid (fs.getD t 0 = p) := ⟨_, rfl⟩
            rw [HZ.out] at c1
            by_cases h0 : z < 0
            · have HB := hide' (HBAD.out z HZ.out (.inl h0))
              go_wp2
              go_ret
              exact ⟨by rw [HB.out]; rfl, X1.out.trans HE.out⟩
            · have e0 : decide (z < 0) = false := by simp; omega
              by_cases h1 : (n : Int) ≤ z
              · have HB := hide' (HBAD.out z HZ.out (.inr (.inl h1)))
                go_wp2
                go_ret
                exact ⟨by rw [HB.out]; rfl, X1.out.trans HE.out⟩
              · have e1 : decide ((n : Int) ≤ z) = false := by simp; omega
                obtain ⟨p, rfl⟩ := Int.eq_ofNat_of_zero_le (show 0 ≤ z by omega)
                have hp : p < n := by omega
                have hp' : (p : Int) < n := by omega
                have e2 : decide (n ≤ p) = false := by simp; omega
                have hci := HO.out.cell HLB.out p hp
                clear h0 h1
                cases hb : cs.getD p false
                · rw [hb] at hci
                  have HB := hide' (HBAD.out p HZ.out (.inr (.inr (by rw [Int.toNat_natCast]; exact hb))))
                  clear hb
                  go_wp2
                  go_ret
                  exact ⟨by rw [HB.out]; rfl, X1.out.trans HE.out⟩
                · rw [hb] at hci
                  have HM2 := hide' (HNX.out p HZ.out hp hb)
                  have hfz := HO.out.frozen HLB.out p
                  have HO2 := hide' (HO.out.store HLB.out p false)
                  clear hb
                  go_wp2
                  go_roundw
                  case rel => exact ⟨t + 1, cs.set p false, by omega, by go_num, (show _ = _ by rw [List.length_set]; exact HLB.out), HM2, HO2, Ext.but HE.out (Nat.le_refl _) (but_set _ _ _ _)⟩
                  case measure => simp [intOf] <;> omega
          · have hlt' : decide ((t : Int) < L) = false := by simp; omega
            have htl : t = L := by omega
            have HB : Hid (firB s fs = true) := Miss.done (bs := cs) (by rw [HL.out, ← htl]; exact HMI.out) HLF.out
            go_wp2
            go_ret
            exact ⟨by rw [HB.out]; rfl, X1.out.trans HE.out⟩
end Go.Proofs.Ytabgbioocfdjiaa
