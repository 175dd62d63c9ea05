/- whorllaw12's turned: a row in some other order. -/
import Derived.Test.YtpibjmigblllnaaBktMath
import Derived.Test.YtpibjmigblllnaaNatRow
import Derived.Test.YtpibjmigblllnaaMask
import Derived.BigRegion
namespace Go.Proofs.Ytpibjmigblllnaa
set_option linter.unusedVariables false
set_option linter.unusedSimpArgs false
open Go.RowKit

theorem swap_perm {l : List Int} {i j : Nat} (hi : i < l.length) (hj : j < l.length) : ((l.set i (l.getD j 0)).set j (l.getD i 0)).Perm l := by
  have : ((l.set i l[j]).set j l[i]).Perm l := List.set_set_perm hi hj
  rwa [show l.getD j 0 = l[j] by simp [List.getD, hj], show l.getD i 0 = l[i] by simp [List.getD, hi]]

set_option maxHeartbeats 1000000 in
theorem turned_any (v u : Value) (l ys : List Int) (w : World) (hv : Sl .i64 w v l) (hu : Sl .i64 w u ys) (hlen : l.length ≤ 1000000) (hlen2 : ys.length ≤ 1000000) :
    Calls Try.prog 12 #[v, u] w fun e w' => ∃ s xs, e = .returned s ∧ xs.Perm l ∧ Own .i64 3 w.heap.size w' s xs ∧ Ext w w' := by
  have HV := hide' hv
  have HU := hide' hu
  obtain ⟨a, c, rfl, _⟩ := hv
  obtain ⟨a', c', rfl, _⟩ := hu
  obtain ⟨_, _, _, hcv⟩ := HU.out.int
  have CU := hide' hcv
  obtain ⟨n, HN⟩ : ∃ n, Hid (l.length = n) := ⟨_, rfl⟩
  obtain ⟨m, HM⟩ : ∃ n, Hid (ys.length = n) := ⟨_, rfl⟩
  rw [HN.out] at HV hlen ⊢
  rw [HM.out] at CU hlen2 ⊢
  clear hcv HU
  go_enter Try.func12, Try.ntmps12
  go_wp2_with (at_builtin; refine wpList_join _ rfl _ _ 22 rfl 3 .i64 8 Try.underlying22 infoI64 w.heap.size _ _ [] l rfl rfl (Own.made #[] 0 (Nat.le_refl _) (by simp [maxLen]) rfl) (HV.out.ext (ext_alloc w _)) ?c1 (by simp) ?_)
  case c1 => rw [HN.out]; unfold maxLen; simp; omega
  intro v1 w1 ho hb
  have O1 := hide' ho
  have X1 : Hid (Ext w w1) := Below.trans (ext_alloc _ _) hb
  clear ho hb
  obtain ⟨oa, oc, hov, _⟩ := O1.out.sl
  rw [HN.out] at hov
  subst hov
  have HSH : Hid (0 < n → ∃ g, oa = some ⟨g, 0, none⟩ ∧ w.heap.size ≤ g) := fun h0 => by
    obtain ⟨g, cap, h3, h4, _⟩ := O1.out.shape (fun e => by have := HN.out; rw [e] at this; simp at this; omega)
    simp only [Value.slice.injEq] at h3
    exact ⟨g, h3.1, h4⟩
  go_wp2
  go_loopw [6] (fun vi wr => ∃ (i : Nat) (xs : List Int), i ≤ n ∧ vi = .int .i64 i ∧ Hid (xs.Perm l) ∧ Hid (Own .i64 3 w.heap.size wr (.slice oa n oc) xs) ∧ Hid (Ext w wr)) (fun vi _ => n - (intOf vi).toNat)
  case atStart => exact ⟨0, l, Nat.zero_le _, rfl, List.Perm.refl _, O1, X1⟩
  case round =>
    clear O1 X1
    obtain ⟨i, xs, hi, rfl, HP, HO, HE⟩ := hrel
    have HXL : Hid (xs.length = n) := by show _ = _; rw [HP.out.length_eq, HN.out]
    by_cases hlt : i < n
    · have hlt' : (i : Int) < n := by omega
      by_cases hlm : i < m
      · have hlm' : (i : Int) < m := by omega
        obtain ⟨g1, o1, rfl, k1⟩ := CU.out (by omega)
        have c1 := HE.out.cellOf (k1 i hlm)
        clear k1
        obtain ⟨z, HZ⟩ : ∃ z, Hid (ys.getD i 0 = z) := ⟨_, rfl⟩
        rw [HZ.out] at c1
        obtain ⟨y, hy1, hy2⟩ := and_maskI z
        obtain ⟨r, HR⟩ : ∃ r, Hid (y % n = r) := ⟨_, rfl⟩
        have hrn : r < n := by rw [← HR.out]; exact Nat.mod_lt _ (by omega)
        have hrn' : (r : Int) < n := by omega
        have hmod : (y : Int).tmod (n : Int) = (r : Int) := by rw [← HR.out]; rfl
        have hn0 : ((n : Int) == 0) = false := by simp; omega
        have hr1 : IntKind.i64.wrap (r : Int) = (r : Int) := by rw [IntKind.wrap_i64]; omega
        obtain ⟨g, hga, hg⟩ := HSH.out (by omega)
        subst hga
        have c2 := HO.out.cell HXL.out i hlt
        have c3 := HO.out.cell HXL.out r hrn
        have z2 := HO.out.frozen HXL.out i
        have HPX : Hid (((xs.set i (xs.getD r 0)).set r (xs.getD i 0)).Perm l) := (swap_perm (by rw [HXL.out]; exact hlt) (by rw [HXL.out]; exact hrn)).trans HP.out
        obtain ⟨p, HPP⟩ : ∃ z, Hid (xs.getD i 0 = z) := ⟨_, rfl⟩
        obtain ⟨q, HQQ⟩ : ∃ z, Hid (xs.getD r 0 = z) := ⟨_, rfl⟩
        rw [HPP.out] at c2 HPX
        rw [HQQ.out] at c3 HPX
        have HO1 := hide' (HO.out.store HXL.out i q)
        have HXL1 : Hid ((xs.set i q).length = n) := by show _ = _; rw [List.length_set]; exact HXL.out
        have c4 := HO1.out.cell HXL1.out r hrn
        have z4 := HO1.out.frozen HXL1.out r
        obtain ⟨q2, HQ2⟩ : ∃ z, Hid ((xs.set i q).getD r 0 = z) := ⟨_, rfl⟩
        rw [HQ2.out] at c4
        have HO2 := hide' ((HO1.out.store HXL1.out r p).ext (Ext.drewN _ 1))
        have HE2 : Hid (Ext w (((wr.setCell ⟨g, i, none⟩ (.int .i64 q)).setCell ⟨g, r, none⟩ (.int .i64 p)).drewN 1)) := (Ext.but (Ext.but HE.out hg (but_set _ _ _ _)) hg (but_set _ _ _ _)).trans (Ext.drewN _ 1)
        go_wp2_with fail
        go_big_region
        clear c1 c2 c3 c4 z2 z4 HO HO1 HE
        go_wp2
        go_roundw
        case rel => exact ⟨i + 1, _, by omega, by go_num, HPX, HO2, HE2⟩
        case measure => simp [intOf] <;> omega
      · have d1 : decide ((i : Int) < m) = false := by simp; omega
        have d2 : decide (i < m) = false := by simp; omega
        go_wp2
        go_ret
        exact ⟨_, xs, rfl, HP.out, HO.out, HE.out⟩
    · have d1 : decide ((i : Int) < n) = false := by simp; omega
      have hin : n = i := by omega
      go_wp2
      go_ret
      exact ⟨_, xs, rfl, HP.out, HO.out, HE.out⟩
end Go.Proofs.Ytpibjmigblllnaa
