/- CrcNext and CrcTurned: the walks. -/
import Derived.Test.YtkeelcjfpnbfkaaCrcLaws
namespace Go.Proofs.Ytkeelcjfpnbfkaa
set_option linter.unusedVariables false
set_option linter.unusedSimpArgs false
open Go.RowKit

theorem sum_next (zs : List Int) (z : Int) (hr : ∀ z ∈ zs, 0 ≤ z ∧ z ≤ 255) : sumN [zs, [z]].flatten = 4294967295 - crcStep (4294967295 - sumN zs) z.toNat := by
  have e : [zs, [z]].flatten = zs ++ [z] := by simp
  rw [e, sumN, crcFold_snoc]
  have := crcFold_lt (x := 4294967295) (by omega) zs hr
  rw [sumN, show 4294967295 - (4294967295 - crcFold 4294967295 zs) = crcFold 4294967295 zs by omega]

theorem lt32_of_256 {x : Nat} (h : x < 256) : x < 4294967296 := by omega

set_option maxHeartbeats 800000 in
theorem lawNext (v : Value) (zs : List Int) (c : Int) (w : World) (hs : Sl .u8 w v zs) (hr : ∀ z ∈ zs, 0 ≤ z ∧ z ≤ 255) (hc0 : 0 ≤ c) (hc1 : c ≤ 255) :
    Calls Try.prog 7 #[v, .int .u8 c] w fun e w' => e = .returned (.bool true) ∧ Ext w w' := by
  have HS := hide' hs
  have HR := hide' hr
  clear hr
  obtain ⟨a, cap, rfl, hm2, hm3, _⟩ := hs
  unfold maxLen at hm3
  by_cases h0 : 200 < zs.length
  · have h0' : (200 : Int) < (zs.length : Int) := by omega
    go_enter Try.func7, Try.ntmps7
    go_wp2
    go_ret
    exact ⟨rfl, Ext.refl _⟩
  have h0' : (zs.length : Int) ≤ 200 := by omega
  go_enter Try.func7, Try.ntmps7
  go_wp2_with fail
  refine (new_any w).mono ?_
  rintro e w1 ⟨rfl, hA, hE⟩
  have HA := hide' hA
  have HE := hide' hE
  clear hA hE
  go_wp2_with fail
  have HS1 := hide' (Sls.one (e := 22) (HS.out.ext HE.out) w1.heap.size rfl)
  refine (sum_any w.heap.size _ _ [zs] (.inl (HA.out.ext (ext_alloc _ _))) HS1.out (by simpa using HR.out)).mono ?_
  rintro e w2 ⟨rfl, hA2, hB2⟩
  have HX2 := hide' ((HE.out.trans (ext_alloc w1 _)).but (Nat.le_refl _) hB2)
  have HA2 := hide' hA2
  clear hA2 hB2
  rw [show sumN [zs].flatten = sumN zs by simp]
  obtain ⟨x, HXX⟩ : ∃ x, Hid (sumN zs = x) := ⟨_, rfl⟩
  have hx : x < 4294967296 := by rw [← HXX.out]; exact sum_lt zs
  rw [HXX.out]
  have hnb := not_bits x hx
  obtain ⟨y, HY⟩ : ∃ y, Hid (4294967295 - x = y) := ⟨_, rfl⟩
  rw [HY.out] at hnb
  have hy : y < 4294967296 := by have := HY.out; omega
  obtain ⟨ix, hix, hx1, hx2⟩ := step_bits y c hy ⟨hc0, hc1⟩
  have hsl := crcStep_lt hy (show c.toNat < 256 by omega)
  have hnb2 := not_bits _ hsl
  have hw64 : wrap64 (ix : Int) = (ix : Int) := by unfold wrap64; omega
  go_wp2_with fail
  refine (rnumber_any ix _ (lt32_of_256 hix)).mono ?_
  rintro e w3 ⟨rfl, rfl⟩
  go_wp2_with fail
  have HS3 := hide' (Sls.two (e := 22) ((HS.out.ext HX2.out).ext (ext_alloc w3 (.cells #[.int .u8 c] 5))) (Sl.lit (k := .u8) (e := 5) w3 [c] 1 rfl (by decide)) (w3.heap.size + 1) (by simp))
  have HE3 := hide' ((ext_alloc w3 (.cells #[.int .u8 c] 5)).trans (ext_alloc _ (.cells #[.slice a zs.length cap, .slice (some ⟨w3.heap.size, 0, none⟩) 1 1] 22)))
  refine (sum_any w.heap.size _ _ [zs, [c]] (.inr (HA2.out.ext HE3.out)) HS3.out ?_).mono ?_
  · intro l hl z hz
    simp only [List.mem_cons, List.not_mem_nil, or_false] at hl
    rcases hl with rfl | rfl
    · exact HR.out z hz
    · simp only [List.mem_cons, List.not_mem_nil, or_false] at hz
      subst hz; exact ⟨hc0, hc1⟩
  rintro e w4 ⟨rfl, hA4, hB4⟩
  have HX4 := hide' ((HX2.out.trans HE3.out).but (Nat.le_refl _) hB4)
  clear hA4 hB4
  rw [sum_next zs c HR.out, HXX.out, HY.out]
  obtain ⟨z, HZ⟩ : ∃ z, Hid (4294967295 - crcStep y c.toNat = z) := ⟨_, rfl⟩
  rw [HZ.out]
  clear hnb hnb2 hx1 hx2 hsl
  have hq : ((z : Int) == (z : Int)) = true := by simp
  go_wp2_with fail
  refine (known_any _).mono ?_
  rintro e w5 ⟨rfl, hE5⟩
  go_wp2
  go_ret
  exact ⟨rfl, HX4.out.trans hE5⟩
end Go.Proofs.Ytkeelcjfpnbfkaa
