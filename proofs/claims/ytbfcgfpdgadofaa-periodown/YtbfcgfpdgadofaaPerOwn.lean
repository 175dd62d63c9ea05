/- PeriodOwn: the walk. -/
import Derived.Test.YtbfcgfpdgadofaaPerKnown
namespace Go.Proofs.Ytbfcgfpdgadofaa
set_option linter.unusedVariables false
set_option linter.unusedSimpArgs false
open Go.RowKit

set_option maxHeartbeats 800000 in
theorem lawOwn (v : Value) (zs : List Int) (w : World) (hs : Sl .u8 w v zs) :
    Calls Try.prog 6 #[v] w fun e w' => e = .returned (.bool true) ∧ Ext w w' := by
  have HS := hide' hs
  obtain ⟨a, cap, rfl, hm2, hm3, _⟩ := hs
  unfold maxLen at hm3
  by_cases h0 : (zs.length : Int) < 1
  · go_enter Try.func6, Try.ntmps6
    go_wp2
    go_ret
    exact ⟨rfl, Ext.refl _⟩
  by_cases h1 : (100 : Int) < (zs.length : Int)
  · have d0 : decide ((zs.length : Int) < 1) = false := by simpa using h0
    go_enter Try.func6, Try.ntmps6
    go_wp2
    go_ret
    exact ⟨rfl, Ext.refl _⟩
  have d0 : decide ((zs.length : Int) < 1) = false := by simpa using h0
  have d1 : decide ((100 : Int) < (zs.length : Int)) = false := by simpa using h1
  have h0' : 1 ≤ (zs.length : Int) := by omega
  have h1' : (zs.length : Int) ≤ 100 := by omega
  clear h0 h1
  obtain ⟨r1, r2, _, _⟩ := rootN_spec (s := zs) (by omega)
  have HRL : Hid ((zs.take (rootN zs)).length = rootN zs) := by show _ = _; rw [List.length_take]; omega
  obtain ⟨T, HT⟩ : ∃ t, Hid (zs.length / rootN zs = t) := ⟨_, rfl⟩
  obtain ⟨R, HR⟩ : ∃ t, Hid (zs.take (rootN zs) = t) := ⟨_, rfl⟩
  rw [HR.out] at HRL
  obtain ⟨r, HRR⟩ : ∃ t, Hid (rootN zs = t) := ⟨_, rfl⟩
  rw [HRR.out] at HRL r1 r2
  have hl : zs.length ≤ 1000000 := by omega
  go_enter Try.func6, Try.ntmps6
  go_wp2_with (at_builtin; refine wpList_join _ rfl _ _ 22 rfl 5 .u8 1 Try.underlying22 infoU8 w.heap.size _ _ [] zs rfl rfl (Own.made #[] 0 (Nat.le_refl _) (by simp [maxLen]) rfl) (HS.out.ext (ext_alloc w _)) ?c1 (by simp) ?_)
  case c1 => unfold maxLen; simp only [List.length_nil]; omega
  intro v1 w1 ho1 hb1
  have HI : Hid (Sl .u8 w1 v1 zs) := by have := Own.sl ho1; first | exact this | simpa using this
  have HX1 : Hid (Ext w w1) := Below.trans (ext_alloc w (.cells #[] 5)) hb1
  clear ho1 hb1
  obtain ⟨a1, c1, hv1, _⟩ := HI.out
  rw [hv1] at HI ⊢
  clear hv1
  go_wp2_with fail
  refine (root_any _ zs w1 HI.out hl).mono ?_
  rw [HT.out, HR.out]
  rintro e w2 ⟨s, rfl, ho, he⟩
  have HE2 := hide' he
  obtain ⟨g, cap2, rfl, hgB, _, _⟩ := ho.shape (fun h => by have := HRL.out; rw [h] at this; simp at this; omega)
  have HO := hide' ho
  rw [HRL.out] at HO ⊢
  clear ho he
  obtain ⟨z, HZ⟩ : ∃ z, Hid (R.getD 0 0 = z) := ⟨_, rfl⟩
  have hc3 := HO.out.cell HRL.out 0 (by omega)
  rw [HZ.out] at hc3
  have hf3 := HO.out.frozen HRL.out 0
  have HE4 := hide' (HE2.out.setCell (p := ⟨g, 0, none⟩) hgB (.int .u8 (bits .xor .u8 z 255)))
  have dr : ((r : Int) == 0) = false := by simp; omega
  have lr : 0 < r := by omega
  have hq : ((strOfNums zs).toList == (strOfNums zs).toList) = true := by simp
  have st1 := (HI.out.ext HE4.out).str (P := Try.prog) 22 5 9 Try.underlying22 Try.underlying5 Try.underlying9
  have st2 := ((HS.out.ext HX1.out).ext HE4.out).str (P := Try.prog) 22 5 9 Try.underlying22 Try.underlying5 Try.underlying9
  go_wp2_with fail
  generalize hws : w2.setCell ⟨g, 0, none⟩ (.int .u8 (bits .xor .u8 z 255)) = ws at *
  clear hws hc3 hf3 st1 st2 HO
  have HE4' : Hid (Ext w1 ws) := HE4.out
  clear HE4
  refine (known_any _).mono ?_
  rintro e w10 ⟨rfl, hE⟩
  go_wp2
  go_ret
  exact ⟨rfl, (HX1.out.trans HE4'.out).trans hE⟩
end Go.Proofs.Ytbfcgfpdgadofaa
