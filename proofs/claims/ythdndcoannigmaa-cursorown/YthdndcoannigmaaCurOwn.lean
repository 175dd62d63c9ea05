/- CursorOwn: the walk. -/
import Derived.Test.YthdndcoannigmaaCurKnown
import Derived.Test.YthdndcoannigmaaCurFour
namespace Go.Proofs.Ythdndcoannigmaa
set_option linter.unusedVariables false
set_option linter.unusedSimpArgs false
open Go.RowKit

set_option maxHeartbeats 800000 in
theorem lawOwn (v : Value) (zs : List Int) (w : World) (hs : Sl .u8 w v zs) (hr : Bytes8 zs) :
    Calls Try.prog 4 #[v] w fun e w' => e = .returned (.bool true) ∧ Ext w w' := by
  have HS := hide' hs
  have HR := hide' hr
  clear hr
  obtain ⟨a, cap, rfl, hm2, hm3, _⟩ := hs
  unfold maxLen at hm3
  by_cases h0 : (zs.length : Int) < 1
  · go_enter Try.func4, Try.ntmps4
    go_wp2
    go_ret
    exact ⟨rfl, Ext.refl _⟩
  by_cases h1 : (100 : Int) < (zs.length : Int)
  · have d0 : decide ((zs.length : Int) < 1) = false := by simpa using h0
    go_enter Try.func4, Try.ntmps4
    go_wp2
    go_ret
    exact ⟨rfl, Ext.refl _⟩
  have d0 : decide ((zs.length : Int) < 1) = false := by simpa using h0
  have d1 : decide ((100 : Int) < (zs.length : Int)) = false := by simpa using h1
  have h0' : 1 ≤ (zs.length : Int) := by omega
  have h1' : (zs.length : Int) ≤ 100 := by omega
  clear h0 h1
  go_enter Try.func4, Try.ntmps4
  go_wp2_with (at_builtin; refine wpList_join _ rfl _ _ 22 rfl 5 .u8 1 Try.underlying22 infoU8 w.heap.size _ _ [] zs rfl rfl (Own.made #[] 0 (Nat.le_refl _) (by simp [maxLen]) rfl) (HS.out.ext (ext_alloc w _)) ?c1 (by simp) ?_)
  case c1 => unfold maxLen; simp only [List.length_nil]; omega
  intro v1 w1 ho1 hb1
  have HI : Hid (Sl .u8 w1 v1 zs) := by have := Own.sl ho1; first | exact this | simpa using this
  have HX1 : Hid (Ext w w1) := Below.trans (ext_alloc w (.cells #[] 5)) hb1
  clear ho1 hb1
  obtain ⟨a1, c1, hv1, _⟩ := HI.out
  rw [hv1] at HI ⊢
  clear hv1
  have hl : zs.length ≤ 1000000 := by omega
  go_wp2_with fail
  refine (new_any a1 _ c1 zs w1 HI.out hl).mono ?_
  rintro e w2 ⟨b, rfl, hb2, hC2, hE2⟩
  have HE2 := hide' hE2
  have HC2 := hide' hC2
  clear hC2 hE2
  go_wp2_with fail
  refine (take_any b zs (zs.length : Int) w2 HC2.out hl).mono ?_
  rw [takeL_all]
  rintro e w3 ⟨s, rfl, hO, hC3, hB3⟩
  have HO : Hid (Own .u8 5 w2.heap.size w3 s zs) := hO
  have HE3 := hide' (Ext.but HE2.out hb2 hB3)
  clear hO hC3 hB3
  obtain ⟨g, cap3, hs3, hgB, _, _⟩ := HO.out.shape (fun h => by rw [h] at h0'; simp at h0')
  rw [hs3] at HO ⊢
  clear hs3
  have hq : ((strOfNums zs).toList == (strOfNums zs).toList) = true := by simp
  have st1 := HO.out.sl.str (P := Try.prog) 22 5 9 Try.underlying22 Try.underlying5 Try.underlying9
  have st2 := ((HS.out.ext HX1.out).ext HE3.out).str (P := Try.prog) 22 5 9 Try.underlying22 Try.underlying5 Try.underlying9
  obtain ⟨z, HZ⟩ : ∃ z, Hid (zs.getD 0 0 = z) := ⟨_, rfl⟩
  have hc3 := HO.out.cell rfl 0 (by omega)
  rw [HZ.out] at hc3
  have hf3 := HO.out.frozen rfl 0
  have HE4 := hide' (HE3.out.setCell (p := ⟨g, 0, none⟩) (Nat.le_trans HE2.out.size hgB) (.int .u8 (bits .xor .u8 z 255)))
  go_wp2_with fail
  generalize hws : w3.setCell ⟨g, 0, none⟩ (.int .u8 (bits .xor .u8 z 255)) = ws at *
  clear hws hc3 hf3 st1 st2 HO
  have HE4' : Hid (Ext w1 ws) := HE4.out
  clear HE4
  refine (byte_nil _).mono ?_
  rintro e w5 ⟨rfl, rfl⟩
  go_wp2_with fail
  refine (take_nil _ _).mono ?_
  rintro e w6 ⟨rfl, rfl⟩
  go_wp2_with fail
  refine (varint_nil _ _).mono ?_
  rintro e w7 ⟨rfl, rfl⟩
  go_wp2_with fail
  refine (four_nil _).mono ?_
  rintro e w8 ⟨rfl, rfl⟩
  have st1 := (HI.out.ext HE4'.out).str (P := Try.prog) 22 5 9 Try.underlying22 Try.underlying5 Try.underlying9
  have st2 := ((HS.out.ext HX1.out).ext HE4'.out).str (P := Try.prog) 22 5 9 Try.underlying22 Try.underlying5 Try.underlying9
  go_wp2_with fail
  refine (left_nil _).mono ?_
  rintro e w9 ⟨rfl, rfl⟩
  go_wp2_with fail
  refine (known_any _).mono ?_
  rintro e w10 ⟨rfl, hE⟩
  go_wp2
  go_ret
  exact ⟨rfl, (HX1.out.trans HE4'.out).trans hE⟩
end Go.Proofs.Ythdndcoannigmaa
