/- CursorWhole: the walk. -/
import Derived.Test.YthdndcoannigmaaCurKnown
import Derived.Test.YthdndcoannigmaaKripApp
namespace Go.Proofs.Ythdndcoannigmaa
set_option linter.unusedVariables false
set_option linter.unusedSimpArgs false
open Go.RowKit

theorem takeL_join (n : Int) (zs : List Int) : (takeL n zs).1 ++ (takeL n zs).2.2 = zs := by
  unfold takeL
  split
  · simp
  · simp

theorem takeL_len (n : Int) (zs : List Int) : (takeL n zs).1.length + (takeL n zs).2.2.length = zs.length := by
  rw [← List.length_append, takeL_join]

set_option maxHeartbeats 1000000 in
theorem lawWhole (v u : Value) (zs ps : List Int) (w : World) (hs : Sl .u8 w v zs) (hr : Bytes8 zs) (hp : Sl .i64 w u ps) :
    Calls Try.prog 5 #[v, u] w fun e w' => e = .returned (.bool true) ∧ Ext w w' := by
  have HS := hide' hs
  have HR := hide' hr
  have HP := hide' hp
  clear hr
  obtain ⟨a, cap, rfl, hm2, hm3, _⟩ := hs
  obtain ⟨a2, cap2, rfl, hn2, hn3, _⟩ := hp
  unfold maxLen at hm3 hn3
  by_cases h0 : (200 : Int) < (zs.length : Int)
  · go_enter Try.func5, Try.ntmps5
    go_wp2
    go_ret
    exact ⟨rfl, Ext.refl _⟩
  have d0 : decide ((200 : Int) < (zs.length : Int)) = false := by simpa using h0
  by_cases h1 : (50 : Int) < (ps.length : Int)
  · go_enter Try.func5, Try.ntmps5
    go_wp2
    go_ret
    exact ⟨rfl, Ext.refl _⟩
  have d1 : decide ((50 : Int) < (ps.length : Int)) = false := by simpa using h1
  have h0' : (zs.length : Int) ≤ 200 := by omega
  have h1' : (ps.length : Int) ≤ 50 := by omega
  clear h0 h1
  have hl : zs.length ≤ 1000000 := by omega
  go_enter Try.func5, Try.ntmps5
  go_wp2_with fail
  refine (new_any a _ cap zs w HS.out hl).mono ?_
  rintro e w1 ⟨b, rfl, hb1, hC1, hE1⟩
  have HC1 := hide' hC1
  have HE1 := hide' hE1
  have hbB : b < w1.heap.size := hC1.lt
  have hB1 : w.heap.size ≤ w1.heap.size := hE1.size
  clear hC1 hE1
  go_wp2
  go_loopw [6, 7] (fun s i wr => ∃ (k : Nat) (acc rest : List Int), i = .int .i64 (k : Int) ∧ k ≤ ps.length ∧ acc.length + rest.length = zs.length ∧ Hid (acc ++ rest = zs) ∧ Own .u8 5 w1.heap.size wr s acc ∧ Cur 51 wr b rest ∧ Ext w wr ∧ w1.heap.size ≤ wr.heap.size) (fun _ i _ => ps.length - (intOf i).toNat)
  case atStart => exact ⟨0, [], zs, rfl, Nat.zero_le _, by simp, rfl, Own.nil _ _ _ _, HC1.out, HE1.out, Nat.le_refl _⟩
  case round =>
    obtain ⟨k, acc, rest, rfl, hk, hlen, hcat, hO, hC, hE, hsz⟩ := hrel
    have HO := hide' hO
    have HC := hide' hC
    have HE := hide' hE
    obtain ⟨ax, cs, hvs, _⟩ := hO.sl
    rw [hvs] at HO ⊢
    clear hO hC hE hvs
    by_cases hlt : k < ps.length
    · obtain ⟨p, HPK⟩ : ∃ p, Hid (ps.getD k 0 = p) := ⟨_, rfl⟩
      obtain ⟨_, g, off, hg, hc⟩ := (HP.out.ext HE.out).at (by intro h; rw [h] at hlt; simp at hlt)
      have hck := hc k hlt
      rw [HPK.out] at hck
      subst hg
      clear hc
      go_wp2_with fail
      refine (take_any b rest p wr HC.out (by omega)).mono ?_
      rintro e w2 ⟨s2, rfl, hO2, hC2, hB2⟩
      have HO2 := hide' hO2
      have HC2 := hide' hC2
      have HB2 := hide' hB2
      have HOk := hide' (HO.out.but hB2 hbB)
      have HE2 := hide' (Ext.but HE.out (by omega) hB2)
      have HT := hide' (takeL_join p rest)
      have htl := takeL_len p rest
      have hsz2 : w1.heap.size ≤ w2.heap.size := Nat.le_trans hsz hB2.size
      have hck2 := (HP.out.ext HE2.out).cellAt k hlt
      rw [HPK.out] at hck2
      clear hO2 hC2 hB2 HO HC HE hck
      have step : ∀ ok : Bool, (takeL p rest).2.1 = ok → (decide (0 ≤ p) && decide (p ≤ (zs.length : Int) - (acc.length : Int))) = ok := by
        intro ok hok
        rw [← hok, show (zs.length : Int) - (acc.length : Int) = (rest.length : Int) by omega]
        unfold takeL
        by_cases g : 0 ≤ p ∧ p ≤ (rest.length : Int)
        · rw [if_pos g]; simp [g.1, g.2]
        · rw [if_neg g]; simp; omega
      have next : ∀ v3 w3, Own .u8 5 w1.heap.size w3 v3 (acc ++ (takeL p rest).1) → Below w1.heap.size w2 w3 → ∃ (k' : Nat) (acc' rest' : List Int), Value.int .i64 ((k : Int) + 1) = .int .i64 (k' : Int) ∧ k' ≤ ps.length ∧ acc'.length + rest'.length = zs.length ∧ Hid (acc' ++ rest' = zs) ∧ Own .u8 5 w1.heap.size w3 v3 acc' ∧ Cur 51 w3 b rest' ∧ Ext w w3 ∧ w1.heap.size ≤ w3.heap.size := by
        intro v3 w3 h1 h2
        refine ⟨k + 1, acc ++ (takeL p rest).1, (takeL p rest).2.2, by simp, by omega, by rw [List.length_append]; omega, ?_, h1, HC2.out.below hbB h2, Below.trans HE2.out (h2.mono hB1), Nat.le_trans hsz2 h2.size⟩
        show _ = _
        rw [List.append_assoc, HT.out, hcat.out]
      have NEXT := hide' next
      clear next
      have STEP := hide' step
      clear step
      obtain ⟨ok, HOK⟩ : ∃ ok, Hid ((takeL p rest).2.1 = ok) := ⟨_, rfl⟩
      rw [HOK.out]
      have h5 := STEP.out ok HOK.out
      by_cases g1 : 0 ≤ p
      · by_cases g2 : p ≤ (zs.length : Int) - (acc.length : Int)
        · have hok : ok = true := by rw [← h5]; simp [g1, g2]
          subst hok
          clear h5
          go_wp2_with (at_builtin; refine wpList_join _ rfl (.tmp 58) (.tmp 59) 22 rfl 5 .u8 1 Try.underlying22 infoU8 w1.heap.size _ _ acc (takeL p rest).1 rfl rfl HOk.out HO2.out.sl ?c1 hsz2 ?_)
          case c1 => unfold maxLen; omega
          intro v3 w3 ho3 hb3
          have HO3 := hide' ho3
          have HB3 := hide' hb3
          clear ho3 hb3 hck2
          go_wp2
          go_roundw
          case rel => exact NEXT.out v3 w3 HO3.out HB3.out
          case measure => simp [intOf]; omega
        · have hok : ok = false := by rw [← h5]; simp [g1, g2]
          subst hok
          clear h5
          go_wp2_with (at_builtin; refine wpList_join _ rfl (.tmp 58) (.tmp 59) 22 rfl 5 .u8 1 Try.underlying22 infoU8 w1.heap.size _ _ acc (takeL p rest).1 rfl rfl HOk.out HO2.out.sl ?c1 hsz2 ?_)
          case c1 => unfold maxLen; omega
          intro v3 w3 ho3 hb3
          have HO3 := hide' ho3
          have HB3 := hide' hb3
          clear ho3 hb3 hck2
          go_wp2
          go_roundw
          case rel => exact NEXT.out v3 w3 HO3.out HB3.out
          case measure => simp [intOf]; omega
      · have hok : ok = false := by rw [← h5]; simp [g1]
        subst hok
        clear h5
        go_wp2_with (at_builtin; refine wpList_join _ rfl (.tmp 58) (.tmp 59) 22 rfl 5 .u8 1 Try.underlying22 infoU8 w1.heap.size _ _ acc (takeL p rest).1 rfl rfl HOk.out HO2.out.sl ?c1 hsz2 ?_)
        case c1 => unfold maxLen; omega
        intro v3 w3 ho3 hb3
        have HO3 := hide' ho3
        have HB3 := hide' hb3
        clear ho3 hb3 hck2
        go_wp2
        go_roundw
        case rel => exact NEXT.out v3 w3 HO3.out HB3.out
        case measure => simp [intOf]; omega
    · have hke : k = ps.length := by omega
      go_wp2_with fail
      refine (left_any b rest _ HC.out).mono ?_
      rintro e w2 ⟨rfl, rfl⟩
      go_wp2_with fail
      refine (take_any b rest (rest.length : Int) _ HC.out (by omega)).mono ?_
      rw [takeL_all]
      rintro e w3 ⟨s3, rfl, hO3, hC3, hB3⟩
      have HO3 : Hid (Own .u8 5 w2.heap.size w3 s3 rest) := hO3
      have HOk := hide' (HO.out.but hB3 hbB)
      have HE3 := hide' (Ext.but HE.out (by omega) hB3)
      have hsz3 : w1.heap.size ≤ w3.heap.size := Nat.le_trans hsz hB3.size
      have hap := HO.out.apart hO3
      have HG := hide' (append_G (P := Try.prog) w3 w1.heap.size 22 5 1 Try.underlying22 infoU8 _ s3 acc rest HOk.out HO3.out.sl (.inr hap) (by unfold maxLen; omega) hsz3)
      clear hO3 hC3 hB3 HO HC HE hap
      obtain ⟨a3, c3, hs3, _⟩ := HO3.out.sl
      rw [hs3] at HO3 HG ⊢
      clear hs3
      go_wp2_with fail
      obtain ⟨go, hgo, hrun⟩ := HG.out
      have HGO := hide' hgo
      have HRUN := hide' hrun
      clear hgo hrun HG
      have hq : ((strOfNums zs).toList == (strOfNums zs).toList) = true := by simp
      have hne := KR.later_some (grel go) w3
      have HA : Hid (Sl .u8 w3 (.slice a zs.length cap) zs ∧ (zs = [] ∨ ∀ x n c, Value.slice a zs.length cap = .slice (some x) n c → x.block < w1.heap.size)) := by
        refine ⟨HS.out.ext HE3.out, ?_⟩
        obtain ⟨a', c', h1, _, _, _, h5⟩ := HS.out
        simp only [Value.slice.injEq] at h1
        rcases h5 with h5 | ⟨g, off, h5, h6⟩
        · exact .inl h5
        · cases hz : zs with
          | nil => exact .inl rfl
          | cons z r =>
            refine .inr fun x n c hv => ?_
            simp only [Value.slice.injEq] at hv
            have h7 : some x = some ⟨g, off, none⟩ := hv.1.symm.trans (h1.1.trans h5)
            simp only [Option.some.injEq] at h7
            rw [h7]
            exact Nat.lt_of_lt_of_le (World.block_lt_of_cell? _ _ (h6 0 (by rw [hz]; simp))) hB1
      have hcv : ∀ l : KR.Later (grel go) w3, (convert 22 9 (.slice a zs.length cap)).run Try.prog l.val = .ok (.string (strOfNums zs)) l.val := fun l =>
        ((HA.out.1.in HA.out.2 (ExtG.below l.ext HGO.out hsz3))).str 22 5 9 Try.underlying22 Try.underlying5 Try.underlying9
      refine KR.wp_region_k (E := grel go) (fun f args v w => v = .bool true) (by kernel_rfl) (by kernel_rfl) (by kernel_rfl) ?_
      refine KR.lexK_take 4 (by kernel_rfl) ?_
      simp only [List.take_succ_cons, List.take_zero, List.drop_succ_cons, List.drop_zero]
      repeat (go_big_quiet_step (fail))
      refine wpQuiet_nil ?_
      refine KR.lexK_some (fun u w => ∀ w'', ExtG go w w'' → Sl .u8 w'' u zs) (fun u w1 w2 h12 h w'' h2 => h w'' (ExtG.trans h12 h2)) rfl (fun w4 he4 hf4 => ?_) ?_
      · obtain ⟨u, w', r1, r2, r3⟩ := HRUN.out _ w4 he4
        refine ⟨u, w', run_append_op rfl rfl rfl r1, r2, fun w'' h'' => ?_⟩
        rw [← hcat.out]; exact r3 w'' h''
      intro u w4 _ _ hu
      refine KR.lexK_val (.string (strOfNums zs)) rfl (fun w5 he5 hf5 => ?_) ?_
      · exact run_convert_op rfl rfl (((hf5 72 (by decide)).2 rfl w5 (ExtG.refl _)).str _ 5 _ Try.underlying22 Try.underlying5 Try.underlying9)
      simp only [Act.put, List.setIfInBounds_toArray, List.set_cons_succ, List.set_cons_zero]
      refine KR.lexK_take 5 (by kernel_rfl) ?_
      simp only [List.take_succ_cons, List.take_zero, List.drop_succ_cons, List.drop_zero]
      repeat (go_big_quiet_step (fail))
      refine wpQuiet_nil ?_
      refine KR.lexK_call1 17 #[] (.bool true) (fun v w => Iff.rfl) rfl (fun w' => ?_) (fun w' _ _ => (known_any w').mono fun e w'' ⟨h1, h2⟩ => ⟨h1, ExtG.ofExt h2⟩) ?_
      · go_simp
      simp only [Act.put, List.setIfInBounds_toArray, List.set_cons_succ, List.set_cons_zero]
      refine KR.lexK_take 2 (by kernel_rfl) ?_
      simp only [List.take_succ_cons, List.take_zero, List.drop_succ_cons, List.drop_zero]
      repeat (go_big_quiet_step (fail))
      refine wpQuiet_nil ?_
      refine KR.lexK_nil ?_
      intro w6 he6 _
      clear hne hcv hu hq
      go_wp2
      go_ret
      exact ⟨rfl, Below.trans HE3.out ((ExtG.below he6 HGO.out hsz3).mono hB1)⟩
end Go.Proofs.Ythdndcoannigmaa
