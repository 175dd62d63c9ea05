/- VarintLeast: the walk. -/
import Derived.Test.YtaklgnjdehmbaaaVarKnown
namespace Go.Proofs.Ytaklgnjdehmbaaa
set_option linter.unusedVariables false
set_option linter.unusedSimpArgs false
open Go.RowKit

def with128 (Q : List Int) (k : Nat) : List Int := Q ++ List.replicate k 128
theorem with128_zero (Q : List Int) : with128 Q 0 = Q := by simp [with128]
theorem with128_succ (Q : List Int) (k : Nat) : with128 Q (k + 1) = with128 Q k ++ [128] := by
  unfold with128; rw [List.replicate_succ', ← List.append_assoc]
theorem with128_len (Q : List Int) (k : Nat) : (with128 Q k).length = Q.length + k := by simp [with128]

set_option maxHeartbeats 1000000 in
theorem lawLeast (x n : Int) (w : World) (h0 : 0 ≤ x) (h1 : Hid (x < 18446744073709551616)) :
    Calls Try.prog 5 #[.int .u64 x, .int .i64 n] w fun e w' => e = .returned (.bool true) ∧ Ext w w' := by
  have HPL := hide' (putF_len 9 x)
  go_enter Try.func5, Try.ntmps5
  go_wp2_with fail
  refine (rput_any x w h0 h1).mono ?_
  rintro e w1 ⟨s, rfl, ho, hb⟩
  obtain ⟨a1, c1, hs1, _⟩ := ho.sl
  have HO := hide' ho
  rw [hs1] at HO ⊢
  clear hs1 ho
  have hpl : 1 ≤ ((putL x).length : Int) ∧ ((putL x).length : Int) ≤ 10 := by have := HPL.out; unfold putL; omega
  obtain ⟨hpl1, hpl2⟩ := hpl
  by_cases g1 : n < 1
  · go_wp2
    go_ret
    exact ⟨rfl, hb⟩
  by_cases g2 : 5 < n
  · go_wp2
    go_ret
    exact ⟨rfl, hb⟩
  by_cases g3 : 12 < ((putL x).length : Int) + n
  · go_wp2
    go_ret
    exact ⟨rfl, hb⟩
  have d1 : decide (n < 1) = false := by simpa using g1
  have d2 : decide (5 < n) = false := by simpa using g2
  have d3 : decide (12 < ((putL x).length : Int) + n) = false := by simpa using g3
  have hg1 : 1 ≤ n := by omega
  have hg2 : n ≤ 5 := by omega
  have hg3 : ((putL x).length : Int) + n ≤ 12 := by omega
  clear g1 g2 g3
  obtain ⟨P, d, hPd, hP, hd0, hd1⟩ := putF_split 9 x h0 (lt_top h1.out)
  have HPD : Hid (putL x = P ++ [d]) := hPd
  have HP := hide' hP
  clear hPd hP
  go_wp2_with fail
  refine (get_any _ _ _ (HO.out.sl.take' ((putL x).length - 1) (by omega)) ?hr1).mono ?_
  case hr1 => exact fun z hz => putF_range 9 x h0 (lt_top h1.out) z (List.mem_of_mem_take hz)
  rintro e w2 ⟨rfl, rfl⟩
  have HG : Hid (getL ((putL x).take ((putL x).length - 1)) = (0, 0, false)) := by
    show _ = _
    rw [HPD.out]
    have e1 : (P ++ [d]).take ((P ++ [d]).length - 1) = P ++ [] := by simp
    rw [e1]
    exact getF_all P (fun p hp => (HP.out p hp).1) [] (.inl rfl)
  rw [HG.out]
  unfold getV
  go_wp2_with (at_builtin; refine wpList_join _ rfl (.tmp 39) (.tmp 40) 23 rfl 5 .u8 1 Try.underlying23 infoU8 w2.heap.size _ _ [] (putL x) rfl rfl (Own.made #[] 0 (Nat.le_refl _) (by simp [maxLen]) rfl) (HO.out.sl.ext ((Below.refl _ _).alloc (Nat.le_refl _) _)) ?c1 (by simp) ?_)
  case c1 => have := HPL.out; unfold putL maxLen; simp only [List.length_nil]; omega
  intro v3 w3 ho3 hb3
  have HO3 : Hid (Own .u8 5 w2.heap.size w3 v3 (putL x)) := by first | exact ho3 | simpa using ho3
  have HB3 := hide' (((Below.refl w2.heap.size w2).alloc (Nat.le_refl _) _).trans hb3)
  clear ho3 hb3
  obtain ⟨g, cap, hv3, hgB, hcap, hcapm⟩ := HO3.out.shape (fun h => by have := HPL.out; unfold putL at h; rw [h] at this; simp at this)
  rw [hv3] at HO3 ⊢
  clear hv3
  have hj : (putL x).length - 1 < (putL x).length := by omega
  have hc3 := HO3.out.cell rfl ((putL x).length - 1) hj
  have hD : Hid ((putL x).getD ((putL x).length - 1) 0 = d) := by
    show _ = _
    rw [HPD.out]; simp
  rw [hD.out] at hc3
  have hf3 := HO3.out.frozen rfl ((putL x).length - 1)
  have hor := or128 d hd0 hd1
  have HN := hide' (HO3.out.store rfl ((putL x).length - 1) (d + 128))
  have HSet : Hid ((putL x).set ((putL x).length - 1) (d + 128) = P ++ [d + 128]) := by
    show _ = _
    rw [HPD.out]; simp
  rw [HSet.out] at HN
  have HBs := hide' (HB3.out.setCell (p := ⟨g, (putL x).length - 1, none⟩) hgB (.int .u8 (d + 128)))
  have HPn : Hid (∀ p ∈ P ++ [d + 128], 128 ≤ p) := by
    intro p hp
    simp only [List.mem_append, List.mem_singleton] at hp
    rcases hp with hp | rfl
    · exact (HP.out p hp).1
    · omega
  have HPlen : Hid ((P ++ [d + 128]).length = (putL x).length) := by
    show _ = _
    rw [HPD.out]; simp
  go_wp2_with fail
  generalize hws : w3.setCell ⟨g, (putL x).length - 1, none⟩ (.int .u8 (d + 128)) = ws at *
  clear hws hc3 hf3 hor
  go_loopw [9, 10] (fun v i wr => ∃ k : Nat, (k : Int) ≤ n - 1 ∧ i = .int .i64 (k + 1) ∧ Own .u8 5 w2.heap.size wr v (with128 (P ++ [d + 128]) k) ∧ Below w2.heap.size w2 wr) (fun _ i _ => (n - intOf i).toNat)
  case atStart =>
    refine ⟨0, by omega, rfl, ?_, HBs.out⟩
    have := HN.out
    rw [with128_zero, ← HPlen.out]
    rw [← HPlen.out] at this
    exact this
  case round =>
    obtain ⟨k, hk, rfl, hown, hbel⟩ := hrel
    have HOw := hide' hown
    have HBe := hide' hbel
    have hll : (with128 (P ++ [d + 128]) k).length = (putL x).length + k := by
      rw [with128_len, HPlen.out]
    have HLL := hide' hll
    clear hown hbel hll
    by_cases hlt : (k : Int) + 1 < n
    · go_wp2_with (at_builtin; refine wpList_snoc _ rfl _ _ 23 rfl 5 .u8 1 Try.underlying23 infoU8 w2.heap.size _ _ 128 ⟨wr.heap.size, 0, none⟩ rfl rfl (by simp) (HOw.out.alloc _) ?c3 ?c5 ?_)
      case c3 => rw [HLL.out]; unfold maxLen; omega
      case c5 => have := HBe.out.size; simp; omega
      intro s' w1' O hb1
      have R := (HBe.out.alloc HBe.out.size _).trans hb1
      clear hb1
      go_wp2
      go_roundw
      case rel =>
        refine ⟨k + 1, by omega, by go_num, ?_, R⟩
        rw [with128_succ]
        exact O
      case measure => simp [intOf]; omega
    · go_wp2_with (at_builtin; refine wpList_snoc _ rfl _ _ 23 rfl 5 .u8 1 Try.underlying23 infoU8 w2.heap.size _ _ 0 ⟨wr.heap.size, 0, none⟩ rfl rfl (by simp) (HOw.out.alloc _) ?e3 ?e5 ?_)
      case e3 => rw [HLL.out]; unfold maxLen; omega
      case e5 => have := HBe.out.size; simp; omega
      intro s' w1' O hb1
      have R := hide' ((HBe.out.alloc HBe.out.size _).trans hb1)
      have HO5 := hide' O
      clear hb1 O
      go_wp2_with fail
      refine (get_any _ _ _ HO5.out.sl ?hr5).mono ?_
      case hr5 =>
        intro z hz
        unfold with128 at hz
        simp only [List.mem_append, List.mem_singleton] at hz
        rcases hz with ((hz | rfl) | hz) | rfl
        · have := HP.out z hz; omega
        · omega
        · rw [List.eq_of_mem_replicate hz]; omega
        · omega
      rintro e w5 ⟨rfl, rfl⟩
      rw [getF_all (with128 (P ++ [d + 128]) k) ?hp6 [0] (.inr ⟨by simp [with128], rfl⟩)]
      case hp6 =>
        intro p hp
        unfold with128 at hp
        rcases List.mem_append.1 hp with hp | hp
        · exact HPn.out p hp
        · rw [List.eq_of_mem_replicate hp]; omega
      unfold getV
      go_wp2_with fail
      refine (known_any _).mono ?_
      rintro e w6 ⟨rfl, hb6⟩
      go_wp2
      go_ret
      exact ⟨rfl, Ext.trans hb (Ext.trans R.out hb6)⟩
end Go.Proofs.Ytaklgnjdehmbaaa
