/- Contract of whorl/kinds.First. -/
import Derived.Test.YtabgbioocfdjiaaKinSmall
import Derived.Test.YtabgbioocfdjiaaNatRow
namespace Go.Proofs.Ytabgbioocfdjiaa
set_option linter.unusedVariables false
set_option linter.unusedSimpArgs false
open Go.RowKit

set_option maxHeartbeats 1000000 in
theorem first_any (v : Value) (zs : List Int) (w : World) (hv : Sl .i64 w v zs) (hlen : zs.length ≤ 1000000) :
    Calls Try.prog 33 #[v] w fun e w' => ∃ s, e = .returned s ∧ Own .i64 3 w.heap.size w' s (natL (firstN zs)) ∧ Ext w w' := by
  have HV := hide' hv
  obtain ⟨a, c, rfl, _⟩ := hv
  have C := hide' (small_any _ zs w HV.out (by omega))
  obtain ⟨n, HN⟩ : ∃ n, Hid (zs.length = n) := ⟨_, rfl⟩
  rw [HN.out] at C hlen ⊢
  clear HV
  go_enter Try.func33, Try.ntmps33
  go_wp2_with fail
  refine C.out.mono ?_
  rintro e w1 ⟨s, rfl, ho, he⟩
  have HS := hide' ho.sl
  have E1 := hide' he
  have hz1 := he.size
  clear ho he C
  obtain ⟨sa, sc, rfl, _⟩ := HS.out
  have HLS : Hid ((smallI zs).length = n) := by show _ = _; rw [smallI_len, HN.out]
  rw [HLS.out] at HS ⊢
  obtain ⟨_, _, _, hcv⟩ := HS.out.truth
  have CV := hide' hcv
  clear hcv HS
  go_wp2
  go_loopw [4, 5] (fun sv vi wr => ∃ (i : Nat), 1 ≤ i ∧ (i ≤ n ∨ i = 1) ∧ vi = .int .i64 i ∧ Hid (Own .i64 3 w1.heap.size wr sv (natL (firN zs i))) ∧ Hid (Ext w1 wr)) (fun _ vi _ => n + 1 - (intOf vi).toNat)
  case atStart => exact ⟨1, Nat.le_refl _, .inr rfl, rfl, Own.nil _ _ _ _, Ext.refl _⟩
  case round =>
    obtain ⟨i, hi1, hi, rfl, HO, HE⟩ := hrel
    have hsz := HE.out.size
    by_cases hlt : i < n
    · have hlt' : (i : Int) < n := by omega
      obtain ⟨j, rfl⟩ : ∃ j, i = j + 1 := ⟨i - 1, by omega⟩
      have hij : ((j + 1 : Nat) : Int) - 1 = (j : Int) := by omega
      have hj : j < n := by omega
      have hj' : (j : Int) < n := by omega
      obtain ⟨g1, o1, rfl, k1⟩ := CV.out (by omega)
      have c1 := HE.out.cellOf (k1 (j + 1) hlt)
      have c2 := HE.out.cellOf (k1 j hj)
      rw [smallI_at (by rw [HN.out]; exact hlt)] at c1
      rw [smallI_at (by rw [HN.out]; exact hj)] at c2
      clear k1
      have HFI : Hid (fsB zs (j + 1) = (smB zs (j + 1) && !smB zs j)) := by show _ = _; unfold fsB; simp
      obtain ⟨p, HP⟩ : ∃ z, Hid (smB zs (j + 1) = z) := ⟨_, rfl⟩
      obtain ⟨q, HQ⟩ : ∃ z, Hid (smB zs j = z) := ⟨_, rfl⟩
      rw [HP.out] at c1 HFI
      rw [HQ.out] at c2 HFI
      have HLF : Hid ((natL (firN zs (j + 1))).length ≤ j + 1) := by show _ ≤ _; rw [natL_len]; exact firN_len _ _
      have stop : ∀ b, fsB zs (j + 1) = b → b = false → Hid (natL (firN zs (j + 1)) = natL (firN zs (j + 2))) := fun b h1 h2 => by show _ = _; rw [firN_no (k := j + 1) (by rw [h1, h2])]
      have yes : ∀ b, fsB zs (j + 1) = b → b = true → Hid (natL (firN zs (j + 1)) ++ [(j : Int) + 1] = natL (firN zs (j + 2))) := fun b h1 h2 => by show _ = _; rw [firN_yes (k := j + 1) (by rw [h1, h2]), ← natL_snoc]; rfl
      cases p
      · have HX := stop _ HFI.out rfl
        have HO1 : Hid (Own .i64 3 w1.heap.size wr u4 (natL (firN zs (j + 2)))) := by rw [← HX.out]; exact HO.out
        clear stop yes
        go_wp2
        go_roundw
        case rel => exact ⟨j + 2, by omega, by omega, by go_num, HO1, HE.out⟩
        case measure => simp [intOf]; omega
      · cases q
        rotate_left
        · have HX := stop _ HFI.out rfl
          have HO1 : Hid (Own .i64 3 w1.heap.size wr u4 (natL (firN zs (j + 2)))) := by rw [← HX.out]; exact HO.out
          clear stop yes
          go_wp2
          go_roundw
          case rel => exact ⟨j + 2, by omega, by omega, by go_num, HO1, HE.out⟩
          case measure => simp [intOf]; omega
        · have HX := yes _ HFI.out rfl
          clear stop yes
          go_wp2_with (at_builtin; refine wpList_snoc _ rfl _ _ 22 rfl 3 .i64 8 Try.underlying22 infoI64 w1.heap.size _ (natL (firN zs (j + 1))) ((j : Int) + 1) ⟨wr.heap.size, 0, none⟩ rfl rfl ?c4 (HO.out.alloc _) ?c3 ?c5 ?_)
          case c3 => have := HLF.out; unfold maxLen; omega
          case c5 => simp; omega
          case c4 => simp only [World.cell?, heap_alloc_top]; simp
          intro v1 w2 ho1 hb1
          have HO1 : Hid (Own .i64 3 w1.heap.size w2 v1 (natL (firN zs (j + 2)))) := by rw [← HX.out]; exact ho1
          have HE1 : Hid (Ext w1 w2) := Below.trans (HE.out.trans (ext_alloc _ _)) hb1
          clear ho1 hb1
          go_wp2
          go_roundw
          case rel => exact ⟨j + 2, by omega, by omega, by go_num, HO1, HE1⟩
          case measure => simp [intOf]; omega
    · have hlt' : decide ((i : Int) < n) = false := by simp; omega
      have HQ : Hid (firN zs i = firstN zs) := by
        show _ = _
        unfold firstN
        rw [HN.out]
        by_cases h0 : i = n
        · rw [h0]
        · have h1 : i = 1 := by omega
          have h2 : n = 0 := by omega
          rw [h1, h2]; rfl
      go_wp2
      go_ret
      exact ⟨_, rfl, by rw [← HQ.out]; exact HO.out.low hz1, E1.out.trans HE.out⟩
end Go.Proofs.Ytabgbioocfdjiaa
