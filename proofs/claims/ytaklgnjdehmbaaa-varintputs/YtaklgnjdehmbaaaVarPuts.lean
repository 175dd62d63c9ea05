/- VarintPuts: the walk. -/
import Derived.Test.YtaklgnjdehmbaaaVarKnown
namespace Go.Proofs.Ytaklgnjdehmbaaa
set_option linter.unusedVariables false
set_option linter.unusedSimpArgs false
open Go.RowKit

set_option maxHeartbeats 1000000 in
theorem lawPuts (x : Int) (a : Option Addr) (len cap : Nat) (zs : List Int) (w : World) (h0 : 0 ≤ x) (h1 : Hid (x < 18446744073709551616)) (hs : Sl .u8 w (.slice a len cap) zs) (hlz : zs.length = len) (hr : ∀ x ∈ zs, 0 ≤ x ∧ x ≤ 255) :
    Calls Try.prog 3 #[.int .u64 x, .slice a len cap] w fun e w' => e = .returned (.bool true) ∧ Ext w w' := by
  have HZ := hide' hlz
  have HR := hide' hr
  clear hlz hr
  by_cases h50 : 50 < len
  · have h50' : (50 : Int) < (len : Int) := by omega
    go_enter Try.func3, Try.ntmps3
    go_wp2
    go_ret
    exact ⟨rfl, Ext.refl _⟩
  · have h50' : (len : Int) ≤ 50 := by omega
    go_enter Try.func3, Try.ntmps3
    go_wp2_with fail
    refine (put_any x w h0 (lt_top h1.out)).mono ?_
    rintro e w1 ⟨s, rfl, ho, hb⟩
    have hpl := putF_len 9 x
    have HPL := hide' hpl
    have HS1 := hide' (hs.ext hb)
    have HO := hide' ho
    clear hpl
    go_wp2_with (at_builtin; refine wpList_join _ rfl (.tmp 15) (.tmp 16) 23 rfl 5 .u8 1 Try.underlying23 infoU8 w1.heap.size _ _ [] (putL x) rfl rfl (Own.made #[] 0 (Nat.le_refl _) (by simp [maxLen]) rfl) (HO.out.sl.ext ((Below.refl _ _).alloc (Nat.le_refl _) _)) ?c1 (by simp) ?_)
    case c1 => have := HPL.out; unfold putL maxLen; simp only [List.length_nil]; omega
    intro v2 w2 ho2 hb2
    have hbb := ((Below.refl w1.heap.size w1).alloc (Nat.le_refl _) _).trans hb2
    have HB2 := hide' hbb
    have HO2 := hide' ho2
    clear hb2 hbb ho2
    go_wp2_with (at_builtin; refine wpList_join _ rfl (.tmp 17) (.tmp 18) 23 rfl 5 .u8 1 Try.underlying23 infoU8 w1.heap.size _ _ (putL x) zs rfl rfl HO2.out (HS1.out.ext HB2.out) ?c2 HB2.out.size ?_)
    case c2 => have := HPL.out; have := HZ.out; unfold putL maxLen; omega
    intro v3 w3 ho3 hb3
    have HB3 := hide' (HB2.out.trans hb3)
    have HO3 := hide' ho3
    clear hb3 ho3
    go_wp2_with fail
    refine (get_any _ _ _ HO3.out.sl ?hr1).mono ?_
    case hr1 =>
      intro z hz
      rcases List.mem_append.1 hz with hz | hz
      · exact putF_range 9 x h0 (lt_top h1.out) z hz
      · exact HR.out z hz
    rintro e w4 ⟨rfl, rfl⟩
    rw [getL_putL x zs h0 h1.out (lt_top h1.out)]
    unfold getV
    obtain ⟨a1, c1, hs1, _⟩ := HO.out.sl
    have HS2 := hide' (HO.out.sl.ext HB3.out)
    rw [hs1] at HS2 ⊢
    go_wp2_with fail
    have hne := later_some w4
    have hcv := later_str (P := Try.prog) HS2.out 23 5 9 Try.underlying23 Try.underlying5 Try.underlying9
    have q1 : ((strOfNums (putL x)).toList == (strOfNums (putL x)).toList) = true := by simp
    have q2 : (x == x) = true := by simp
    have q3 : (((putL x).length : Int) == ((putL x).length : Int)) = true := by simp
    clear hs hs1
    refine wp_region_k (fun f args v w => (f = 10 → ∀ x, args = #[.int .u64 x] → Sl .u8 w v (putL x)) ∧ (f = 11 → v = .bool true)) (by kernel_rfl) (by kernel_rfl) (by kernel_rfl) ?_
    refine lexK_take 3 (by kernel_rfl) ?_
    simp only [List.take_succ_cons, List.take_zero, List.drop_succ_cons, List.drop_zero]
    repeat (go_big_quiet_step (fail))
    refine wpQuiet_nil ?_
    refine lexK_call 10 #[.int .u64 x] (fun v w1 w2 h12 h => ⟨fun e x hx => Sl.up w1 w2 h12 (h.1 e x hx), h.2⟩) rfl (fun w' => ?_) (fun w' _ _ => (rput_any x w' h0 h1).mono fun e w'' ⟨s, h1, h2, h3⟩ => ⟨s, h1, h3, fun _ x hx => ?_, fun e => by cases e⟩) ?_
    · go_simp
    · simp only [Array.mk.injEq, List.cons.injEq, Value.int.injEq, true_and, and_true] at hx
      rw [← hx]; exact h2.sl
    intro v w5 _ _ hv5
    refine lexK_val (.string (strOfNums (putL x))) rfl (fun w6 he6 hf6 => ?_) ?_
    · exact run_convert_op rfl rfl ((((hf6 27 (by decide)).2 rfl).1 rfl x rfl).str _ 5 _ Try.underlying23 Try.underlying5 Try.underlying9)
    clear hv5
    simp only [Act.put, List.setIfInBounds_toArray, List.set_cons_succ, List.set_cons_zero]
    refine lexK_take 16 (by kernel_rfl) ?_
    simp only [List.take_succ_cons, List.take_zero, List.drop_succ_cons, List.drop_zero]
    repeat (go_big_quiet_step (fail))
    refine wpQuiet_nil ?_
    refine lexK_call1 11 #[] (.bool true) (fun _ _ => ⟨fun h => h.2 rfl, fun h => ⟨fun e => (by cases e), fun _ => h⟩⟩) rfl (fun w' => ?_) (fun w' _ _ => known_any w') ?_
    · go_simp
    simp only [Act.put, List.setIfInBounds_toArray, List.set_cons_succ, List.set_cons_zero]
    refine lexK_take 2 (by kernel_rfl) ?_
    simp only [List.take_succ_cons, List.take_zero, List.drop_succ_cons, List.drop_zero]
    repeat (go_big_quiet_step (fail))
    refine wpQuiet_nil ?_
    refine lexK_nil ?_
    intro w7 he7 _
    clear hcv hne q1 q2 q3
    go_wp2
    go_ret
    exact ⟨rfl, Ext.trans hb (Ext.trans HB3.out he7)⟩
end Go.Proofs.Ytaklgnjdehmbaaa
