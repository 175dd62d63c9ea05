/- LyndonPowers: the walk. -/
import Derived.Test.YtlnpgdjmcdhpbaaLynKnown
import Derived.Test.YtlnpgdjmcdhpbaaTwo
namespace Go.Proofs.Ytlnpgdjmcdhpbaa
set_option linter.unusedVariables false
set_option linter.unusedSimpArgs false
open Go.RowKit

set_option maxHeartbeats 1000000 in
theorem lawPowers (v : Value) (zs : List Int) (n : Int) (w : World) (hs : Sl .u8 w v zs) :
    Calls Try.prog 6 #[v, .int .i64 n] w fun e w' => e = .returned (.bool true) ∧ Ext w w' := by
  have HS := hide' hs
  obtain ⟨a, cap, rfl, hm2, hm3, _⟩ := hs
  unfold maxLen at hm3
  by_cases h0 : (zs.length : Int) < 1
  · go_enter Try.func6, Try.ntmps6
    go_wp2
    go_ret
    exact ⟨rfl, Ext.refl _⟩
  have d0 : decide ((zs.length : Int) < 1) = false := by simpa using h0
  by_cases h1 : (20 : Int) < (zs.length : Int)
  · go_enter Try.func6, Try.ntmps6
    go_wp2
    go_ret
    exact ⟨rfl, Ext.refl _⟩
  have d1 : decide ((20 : Int) < (zs.length : Int)) = false := by simpa using h1
  by_cases h2 : n < 1
  · go_enter Try.func6, Try.ntmps6
    go_wp2
    go_ret
    exact ⟨rfl, Ext.refl _⟩
  have d2 : decide (n < 1) = false := by simpa using h2
  by_cases h3 : 8 < n
  · go_enter Try.func6, Try.ntmps6
    go_wp2
    go_ret
    exact ⟨rfl, Ext.refl _⟩
  have d3 : decide (8 < n) = false := by simpa using h3
  obtain ⟨n, rfl⟩ := Int.eq_ofNat_of_zero_le (show 0 ≤ n by omega)
  have l0 : 1 ≤ zs.length := by omega
  have l1 : zs.length ≤ 20 := by omega
  have l2 : 1 ≤ n := by omega
  have l3 : n ≤ 8 := by omega
  clear h0 h1 h2 h3
  have L1 : Hid (zs.length ≤ 1000000) := by show _ ≤ _; omega
  have L2 : Hid ((repI zs n).length ≤ 1000000) := by
    have : n * zs.length ≤ 8 * 20 := Nat.mul_le_mul l3 l1
    show _ ≤ _
    rw [repI_len]; omega
  have L3 := hide' (Nat.le_trans (facL_len _ _ (Nat.le_refl _)) L2.out)
  have HI := hide' (facL_rep (x := zs) (n := n) (by omega) l2)
  have HBd : Hid (∀ k, k < n → (repI zs k).length + zs.length ≤ 240) := fun k hk => by
    have h1 : (k + 1) * zs.length ≤ 8 * 20 := Nat.mul_le_mul (by omega) l1
    rw [Nat.succ_mul] at h1
    rw [repI_len]; omega
  obtain ⟨N, HN⟩ : ∃ N, Hid (zs.length = N) := ⟨_, rfl⟩
  rw [HN.out] at HS d0 d1 hm2 l0 l1 HI ⊢
  have hIF : Hid (decide (facL (repI zs n) = List.replicate n (N : Int)) = lynB zs) := by
    show _ = _
    exact decide_eq_decide.2 HI.out
  go_enter Try.func6, Try.ntmps6
  go_wp2
  go_loopw [5, 6, 7] (fun sv wv vk wr => ∃ (k : Nat), k ≤ n ∧ vk = .int .i64 k ∧ Hid (Own .u8 5 w.heap.size wr sv (repI zs k)) ∧ Hid (Own .i64 3 w.heap.size wr wv (List.replicate k (N : Int))) ∧ Hid (Ext w wr)) (fun _ _ vk _ => n - (intOf vk).toNat)
  case atStart => exact ⟨0, Nat.zero_le _, rfl, Own.nil _ _ _ _, Own.nil _ _ _ _, Ext.refl _⟩
  case round =>
    obtain ⟨k, hk, rfl, HO, HW, HE⟩ := hrel
    by_cases hlt : k < n
    · have hlt' : (k : Int) < n := by omega
      have HL := hide' (HBd.out k hlt)
      go_wp2_with (at_builtin; refine wpList_joinG _ rfl _ _ 22 rfl 5 .u8 1 Try.underlying22 infoU8 w.heap.size _ _ (repI zs k) zs rfl rfl HO.out (HS.out.ext HE.out) ?c1 HE.out.size ?_)
      case c1 => have := HL.out; unfold maxLen; omega
      intro v1 w1 ho1 hg1
      rw [← repI_succ] at ho1
      have HO1 := hide' ho1
      have HW1 := hide' (HO.out.other HW.out (by decide) hg1)
      have HE1 : Hid (Ext w w1) := Below.trans HE.out (HO.out.grown HE.out.size hg1)
      clear ho1 hg1
      have hsz := HE1.out.size
      obtain ⟨xs, HXS⟩ : ∃ xs, Hid (List.replicate k (N : Int) = xs) := ⟨_, rfl⟩
      rw [HXS.out] at HW1
      have hxl : xs.length ≤ 8 := by rw [← HXS.out, List.length_replicate]; omega
      go_wp2_with (at_builtin; refine wpList_snocG _ rfl _ _ 25 rfl 3 .i64 8 Try.underlying25 infoI64 w.heap.size _ xs (N : Int) ⟨w1.heap.size, 0, none⟩ rfl rfl ?c4 (HW1.out.alloc _) ?c3 ?c5 ?_)
      case c4 => simp only [World.cell?, heap_alloc_top]; simp
      case c3 => unfold maxLen; omega
      case c5 => simp; omega
      intro v2 w2 ho2 hg2
      have HO2 := hide' ((HW1.out.alloc _).other (HO1.out.alloc _) (by decide) hg2)
      have HE2 : Hid (Ext w w2) := Below.trans (HE1.out.trans (ext_alloc _ _)) ((HW1.out.alloc _).grown (by simp; omega) hg2)
      rw [← HXS.out, ← List.replicate_succ'] at ho2
      have HW2 := hide' ho2
      clear ho2 hg2
      go_wp2
      go_roundw
      case rel => exact ⟨k + 1, by omega, by go_num, HO2, HW2, HE2⟩
      case measure => simp [intOf]; omega
    · have hlt' : decide ((k : Int) < n) = false := by simp; omega
      have hkn : k = n := by omega
      subst hkn
      have HSl := hide' HO.out.sl
      have HWl := hide' HW.out.sl
      have HWL : Hid ((List.replicate k (N : Int)).length ≤ 1000000) := by show _ ≤ _; rw [List.length_replicate]; omega
      obtain ⟨xs, HXS⟩ : ∃ xs, Hid (List.replicate k (N : Int) = xs) := ⟨_, rfl⟩
      rw [HXS.out] at HWl HWL hIF
      obtain ⟨fs, HFS⟩ : ∃ fs, Hid (facL (repI zs k) = fs) := ⟨_, rfl⟩
      rw [HFS.out] at hIF L3
      obtain ⟨B, HB⟩ : ∃ b, Hid (lynB zs = b) := ⟨_, rfl⟩
      rw [HB.out] at hIF
      have hB : (B == B) = true := by simp
      go_wp2_with fail
      refine (factors_any _ (repI zs k) wr HSl.out L2.out).mono ?_
      rw [HFS.out]
      rintro e w1 ⟨s1, rfl, ho, he⟩
      have HO1 := hide' ho.sl
      have X1 := hide' he
      have Y1 := hide' (HE.out.trans he)
      clear ho he
      go_wp2_with fail
      refine (toExt (ints_any _ _ fs xs w1 HO1.out (HWl.out.ext X1.out) L3.out HWL.out)).mono ?_
      rw [hIF.out]
      rintro e w2 ⟨rfl, he⟩
      have Y2 := hide' (Y1.out.trans he)
      clear he
      go_wp2_with fail
      refine (toExt (is_any _ zs w2 (HS.out.ext Y2.out) L1.out)).mono ?_
      rw [HB.out]
      rintro e w3 ⟨rfl, he⟩
      have Y3 := hide' (Y2.out.trans he)
      clear he
      go_wp2_with fail
      refine (known_any _).mono ?_
      rintro e w4 ⟨rfl, he⟩
      have Y4 := hide' (Y3.out.trans he)
      clear he
      go_wp2
      go_ret
      exact ⟨rfl, Y4.out⟩
end Go.Proofs.Ytlnpgdjmcdhpbaa
