/- LfWhole: the walk. -/
import Derived.Test.YticblbegjfcbdaaLfCyclesLaw
namespace Go.Proofs.Yticblbegjfcbdaa
set_option linter.unusedVariables false
set_option linter.unusedSimpArgs false
open Go.RowKit

theorem up_at {cs : List (List Nat)} (h : cs.Pairwise fun c d => c.getD 0 0 < d.getD 0 0) {i : Nat} (h0 : 0 < i) (hi : i < cs.length) : (cs.getD (i - 1) []).getD 0 0 < (cs.getD i []).getD 0 0 := by
  have := List.pairwise_iff_getElem.1 h (i - 1) i (by omega) hi (by omega)
  rw [List.getD_eq_getElem?_getD (l := cs) (i := i - 1), List.getD_eq_getElem?_getD (l := cs) (i := i), List.getElem?_eq_getElem hi, List.getElem?_eq_getElem (show i - 1 < cs.length by omega)]
  exact this

set_option maxRecDepth 100000 in
set_option maxHeartbeats 2000000 in
theorem lawWhole (v : Value) (l : List Int) (w : World) (hv : Sl .i64 w v l) :
    Calls Try.prog 6 #[v] w fun e w' => e = .returned (.bool true) ∧ Ext w w' := by
  have HV := hide' hv
  obtain ⟨a, c, rfl, _⟩ := hv
  by_cases h1 : (150 : Int) < (l.length : Int)
  · go_enter Try.func6, Try.ntmps6
    go_wp2
    go_ret
    exact ⟨rfl, Ext.refl _⟩
  have d1 : decide ((150 : Int) < (l.length : Int)) = false := by simpa using h1
  have HL : Hid (l.length ≤ 150) := by show _ ≤ _; omega
  have C0 := hide' (ris_any _ l w HV.out (by have := HL.out; omega))
  cases hb : ordB l
  · rw [hb] at C0
    clear h1 hb HV
    go_enter Try.func6, Try.ntmps6
    go_wp2_with fail
    refine C0.out.mono ?_
    rintro e w1 ⟨rfl, he⟩
    have X1 := hide' he
    clear he
    go_wp2
    go_ret
    exact ⟨rfl, X1.out⟩
  have C1 := hide' (fun w' (he : Ext w w') => lfCycles_any _ l w' (HV.out.ext he) (by have := HL.out; omega))
  rw [hb] at C0 C1
  obtain ⟨hA, _⟩ := ordB_cast hb
  have HCY : Hid (∀ cs, CycIs l cs → CycOf (stepN (toN l)) l.length cs) := fun cs h => by unfold CycIs at h; rwa [if_pos hb] at h
  obtain ⟨A, HA⟩ : ∃ A, Hid (toN l = A) := ⟨_, rfl⟩
  rw [HA.out] at hA HCY
  obtain ⟨n, HN⟩ : ∃ n, Hid (l.length = n) := ⟨_, rfl⟩
  have hAL : A.length = n := by rw [← HN.out, ← hA, natL_len]
  have HU2 : Hid (Sl .i64 w (.slice a n c) (natL A)) := by have := HV.out; rw [← hA, natL_len, hAL] at this; exact this
  obtain ⟨_, _, _, hcp⟩ := HU2.out.nat
  have HPC : Hid (0 < n → ∃ pg poff, a = some ⟨pg, poff, none⟩ ∧ ∀ j, j < n → w.cell? ⟨pg, poff + j, none⟩ = some (.int .i64 (stepN A j : Nat))) := fun h0 => hcp h0
  rw [HN.out] at C0 C1 HL d1 HCY ⊢
  clear hA hAL hb HV HA hcp HU2 h1
  go_enter Try.func6, Try.ntmps6
  go_wp2_with fail
  refine C0.out.mono ?_
  rintro e w1 ⟨rfl, he⟩
  have X1 := hide' he
  clear he C0
  go_wp2_with fail
  refine (C1.out _ X1.out).mono ?_
  rintro e w5 ⟨cs, t, us, rfl, hcs, ho, hr, he⟩
  have HCS := hide' (HCY.out _ hcs)
  have V5 := hide' ho.sl
  have R5 := hide' hr.read
  have X5 := hide' (X1.out.trans he)
  clear ho hr he C1 X1 HCY
  obtain ⟨va, vc, hv5, _⟩ := id V5.out
  have hul : us.length = cs.length := by rw [R5.out.1, List.length_map]
  rw [hul] at hv5
  subst hv5
  obtain ⟨m, HM⟩ : ∃ m, Hid (cs.length = m) := ⟨_, rfl⟩
  have hm : m ≤ 150 := by
    have h := hcs.num
    rw [List.length_map, HM.out, HN.out] at h
    exact Nat.le_trans h HL.out
  have HROW : Hid (∀ k, k < m → ∃ g off u, va = some ⟨g, off, none⟩ ∧ w5.cell? ⟨g, off + k, none⟩ = some u ∧ Sl .i64 w5 u (natL (cs.getD k []))) := fun k hk => by
    have := SlVI.row (hul ▸ V5.out) R5.out (k := k) (by rw [List.length_map, HM.out]; exact hk)
    rwa [getD_mapE] at this
  have HUP : Hid (∀ i, 0 < i → i < m → (cs.getD (i - 1) []).getD 0 0 < (cs.getD i []).getD 0 0) := fun i h0 hi => up_at HCS.out.up h0 (by rw [HM.out]; exact hi)
  have HNE : Hid (∀ i, i < m → 0 < (cs.getD i []).length ∧ (cs.getD i []).length ≤ 150) := fun i hi => by
    have hmem := getD_memL (cs := cs) (i := i) (by rw [HM.out]; exact hi)
    refine ⟨HCS.out.ne _ hmem, Nat.le_trans (nodup_permN_le (HCS.out.nodupC hmem) fun x hx => HCS.out.ltC hmem hx) HL.out⟩
  have HEL : Hid (∀ i, i < m → ∀ k, k < (cs.getD i []).length → (cs.getD i []).getD 0 0 ≤ (cs.getD i []).getD k 0 ∧ (cs.getD i []).getD k 0 < n ∧ stepN A ((cs.getD i []).getD k 0) = (cs.getD i []).getD ((k + 1) % (cs.getD i []).length) 0) := fun i hi k hk => by
    have hmem := getD_memL (cs := cs) (i := i) (by rw [HM.out]; exact hi)
    exact ⟨HCS.out.least _ hmem _ (getN_mem hk), HCS.out.ltC hmem (getN_mem hk), HCS.out.nxt _ hmem k hk⟩
  rw [HM.out]
  have HHD : Hid (∀ i, i < m → (cs.getD i []).getD 0 0 < n) := fun i hi => (HEL.out i hi 0 (HNE.out i hi).1).2.1
  clear hul V5 R5 hcs
  go_wp2
  go_loopw [5, 6, 7, 8, 9] (fun vl vi _ _ _ wr => ∃ (i : Nat) (z : Int) (q : Nat), i ≤ m ∧ vi = .int .i64 i ∧ vl = .int .i64 z ∧ Hid (i < m → z < ((cs.getD i []).getD 0 0 : Int)) ∧ wr = w5.drewN q) (fun _ vi _ _ _ _ => m - (intOf vi).toNat)
  case atStart => exact ⟨0, -1, 0, Nat.zero_le _, rfl, rfl, (fun h => by omega), rfl⟩
  case round =>
    obtain ⟨i, z, q, hi, rfl, rfl, HZ, rfl⟩ := hrel
    by_cases hlt : i < m
    · have hlt' : (i : Int) < m := by omega
      obtain ⟨g, off, u, rfl, hc, hsl⟩ := HROW.out i hlt
      obtain ⟨hL0, hLb⟩ := HNE.out i hlt
      have HUP2 : Hid (i + 1 < m → ((cs.getD i []).getD 0 0 : Int) < ((cs.getD (i + 1) []).getD 0 0 : Int)) := fun h => by
        have := HUP.out (i + 1) (by omega) h
        rw [Nat.add_sub_cancel] at this
        omega
      have HELI := hide' (HEL.out i hlt)
      have hz := HZ.out hlt
      have hhn := HHD.out i hlt
      obtain ⟨pg, poff, rfl, hpc⟩ := HPC.out (by omega)
      obtain ⟨ua, uc, rfl, _⟩ := id hsl
      obtain ⟨_, _, _, hcc⟩ := hsl.nat
      rw [natL_len] at hc hcc
      obtain ⟨C, HC⟩ : ∃ C, Hid (cs.getD i [] = C) := ⟨_, rfl⟩
      rw [HC.out] at hc hcc hL0 hLb HELI HUP2 hz hhn
      obtain ⟨L, HLL⟩ : ∃ L, Hid (C.length = L) := ⟨_, rfl⟩
      rw [HLL.out] at hc hcc hL0 hLb HELI
      obtain ⟨ug, uoff, rfl, hcell⟩ := hcc hL0
      have HCELL := hide' hcell
      have HPX : Hid (∀ j, j < n → w5.cell? ⟨pg, poff + j, none⟩ = some (.int .i64 (stepN A j : Nat))) := fun j hj => X5.out.cellOf (hpc j hj)
      have hc0 := hcell 0 hL0
      rw [Nat.add_zero] at hc0
      obtain ⟨D, HD⟩ : ∃ D, Hid (C.getD 0 0 = D) := ⟨_, rfl⟩
      rw [HD.out] at hc0 HELI HUP2 hz hhn
      have hL0' : (0 : Int) < L := by omega
      have e0 : ((L : Int) == 0) = false := by simp; omega
      have e1 : decide ((D : Int) ≤ z) = false := by simp; omega
      clear hcell hpc hcc hsl hz
      go_wp2
      go_loopw [8, 9] (fun vk _ wq => ∃ (k r : Nat), k ≤ L ∧ vk = .int .i64 k ∧ wq = w5.drewN r) (fun vk _ _ => L - (intOf vk).toNat)
      case atStart => exact ⟨0, q, Nat.zero_le _, rfl, by first | rfl | (rw [World.drewN_drewN])⟩
      case round =>
        obtain ⟨k, r, hk, rfl, rfl⟩ := hrel
        by_cases hkl : k < L
        · have hkl' : (k : Int) < L := by omega
          obtain ⟨x1, x2, x3⟩ := HELI.out k hkl
          obtain ⟨J, HJ⟩ : ∃ J, Hid ((k + 1) % L = J) := ⟨_, rfl⟩
          have hJ : J < L := by rw [← HJ.out]; exact Nat.mod_lt _ hL0
          have hJ' : (J : Int) < L := by omega
          have hmod : ((k : Int) + 1).tmod (L : Int) = (J : Int) := by
            rw [← HJ.out, Int.tmod_eq_emod_of_nonneg (by omega)]; simp
          have hck := HCELL.out k hkl
          have hcj := HCELL.out J hJ
          have hpx := HPX.out _ x2
          rw [x3, HJ.out] at hpx
          obtain ⟨x, HX⟩ : ∃ x, Hid (C.getD k 0 = x) := ⟨_, rfl⟩
          obtain ⟨y, HY⟩ : ∃ y, Hid (C.getD J 0 = y) := ⟨_, rfl⟩
          rw [HX.out] at hck hpx x1 x2
          rw [HY.out] at hcj hpx
          have e3 : decide ((x : Int) < (D : Int)) = false := by simp; omega
          have e3' : decide (x < D) = false := by simp; omega
          have e4 : decide ((n : Int) ≤ (x : Int)) = false := by simp; omega
          have e4' : decide (n ≤ x) = false := by simp; omega
          have x2' : (x : Int) < n := by omega
          have e5 : ((y : Int) != (y : Int)) = false := by simp
          clear x1 x3 hc0
          go_wp2_with fail
          go_big_quiet (fail)
          go_wp2
          go_roundw
          case rel => exact ⟨k + 1, _, by omega, by go_num, by first | rfl | exact World.drewN_drewN _ _ _⟩
          case measure => simp [intOf]; omega
        · have hkl' : decide ((k : Int) < L) = false := by simp; omega
          have hkl2 : decide (k < L) = false := by simp; omega
          have hkL : k = L := by omega
          have HKL : Hid (k = L) := hkL
          clear hc0 hc hkl e0 e1 hhn hL0 hL0' hLb hkL hk
          go_wp2
          go_roundw
          case rel => exact ⟨i + 1, (D : Int), r, by omega, by go_num, rfl, (fun h => HUP2.out h), rfl⟩
          case measure => simp [intOf]; omega
    · have hlt' : decide ((i : Int) < m) = false := by simp; omega
      have X6 : Hid (Ext w (w5.drewN q)) := X5.out.trans (Ext.drewN _ _)
      generalize w5.drewN q = W at *
      go_wp2_with fail
      refine (known_any _).mono ?_
      rintro e w9 ⟨rfl, he⟩
      have X9 := hide' (X6.out.trans he)
      clear he
      go_wp2
      go_ret
      exact ⟨rfl, X9.out⟩
end Go.Proofs.Yticblbegjfcbdaa
