/- CursorPlays: the walk. -/
import Derived.Test.YthdndcoannigmaaCurKnown
import Derived.Test.YthdndcoannigmaaCurRef
import Derived.Test.YthdndcoannigmaaArgsP
namespace Go.Proofs.Ythdndcoannigmaa
set_option linter.unusedVariables false
set_option linter.unusedSimpArgs false
open Go.RowKit

theorem byteL_drop (zs : List Int) : ∃ m, (byteL zs).2.2 = zs.drop m := by
  cases zs with
  | nil => exact ⟨0, rfl⟩
  | cons z r => exact ⟨1, rfl⟩
theorem takeL_drop (n : Int) (zs : List Int) : ∃ m, (takeL n zs).2.2 = zs.drop m := by
  unfold takeL; split
  · exact ⟨_, rfl⟩
  · exact ⟨0, rfl⟩
theorem varL_drop (n : Int) (zs : List Int) : ∃ m, (varL n zs).2.2 = zs.drop m := by
  unfold varL; split
  · exact ⟨_, rfl⟩
  · exact ⟨0, rfl⟩
theorem fourL_drop (zs : List Int) : ∃ m, (fourL zs).2.2 = zs.drop m := by
  unfold fourL; split
  · exact ⟨4, rfl⟩
  · exact ⟨0, rfl⟩
theorem Bytes8.drop {zs : List Int} (h : Bytes8 zs) (m : Nat) : Bytes8 (zs.drop m) := fun z hz => h z (List.mem_of_mem_drop hz)
theorem Bytes8.take {zs : List Int} (h : Bytes8 zs) (n : Int) : Bytes8 (takeL n zs).1 := by
  unfold takeL; split
  · exact fun z hz => h z (List.mem_of_mem_take hz)
  · exact fun z hz => by simp at hz

set_option maxRecDepth 100000 in
set_option maxHeartbeats 2000000 in
theorem lawPlays (v u : Value) (zs : List Int) (l : List (Int × Int)) (w : World) (hs : Sl .u8 w v zs) (hr : Bytes8 zs) (hp : Pairs w u l) (hl64 : ∀ p ∈ l, p.2 < 9223372036854775808) :
    Calls Try.prog 3 #[v, u] w fun e w' => e = .returned (.bool true) ∧ Ext w w' := by
  have HS := hide' hs
  have HR := hide' hr
  have HP := hide' hp
  have HL := hide' hl64
  clear hr hl64
  obtain ⟨a, cap, rfl, hm2, hm3, _⟩ := hs
  obtain ⟨a2, cap2, rfl, hn2, _⟩ := hp
  unfold maxLen at hm3 hn2
  by_cases h0 : (300 : Int) < (zs.length : Int)
  · go_enter Try.func3, Try.ntmps3
    go_wp2
    go_ret
    exact ⟨rfl, Ext.refl _⟩
  have d0 : decide ((300 : Int) < (zs.length : Int)) = false := by simpa using h0
  by_cases h1 : (100 : Int) < (l.length : Int)
  · go_enter Try.func3, Try.ntmps3
    go_wp2
    go_ret
    exact ⟨rfl, Ext.refl _⟩
  have d1 : decide ((100 : Int) < (l.length : Int)) = false := by simpa using h1
  have h0' : (zs.length : Int) ≤ 300 := by omega
  have h1' : (l.length : Int) ≤ 100 := by omega
  clear h0 h1
  have hl : zs.length ≤ 1000000 := by omega
  go_enter Try.func3, Try.ntmps3
  go_wp2_with (at_builtin; refine wpList_join _ rfl _ _ 22 rfl 5 .u8 1 Try.underlying22 infoU8 w.heap.size _ _ [] zs rfl rfl (Own.made #[] 0 (Nat.le_refl _) (by simp [maxLen]) rfl) (HS.out.ext (ext_alloc w _)) ?c1 (by simp) ?_)
  case c1 => unfold maxLen; simp only [List.length_nil]; omega
  intro v1 w1 ho1 hb1
  have HI : Hid (Sl .u8 w1 v1 zs) := by have := Own.sl ho1; first | exact this | simpa using this
  have HX1 : Hid (Ext w w1) := Below.trans (ext_alloc w (.cells #[] 5)) hb1
  clear ho1 hb1
  obtain ⟨a1, c1, hv1, _⟩ := HI.out
  rw [hv1] at HI ⊢
  clear hv1
  go_wp2_with fail
  refine (new_any a1 _ c1 zs w1 HI.out hl).mono ?_
  rintro e w2 ⟨b, rfl, hb2, hC2, hE2⟩
  have HC2 := hide' (hC2.ext (ext_alloc w2 (.cells #[.slice a zs.length cap] 28)))
  have HX2 := hide' (HX1.out.trans hE2)
  have HCx2 := hide' (Cur.made (T := 28) w2 (HS.out.ext HX2.out))
  have hbx : b ≠ w2.heap.size := Nat.ne_of_lt hC2.lt
  have hbw : w.heap.size ≤ b := Nat.le_trans HX1.out.size hb2
  have hxw : w.heap.size ≤ w2.heap.size := HX2.out.size
  have HX3 := hide' (HX2.out.trans (ext_alloc w2 (.cells #[.slice a zs.length cap] 28)))
  clear hC2 hE2
  go_wp2
  generalize hws : w2.alloc (.cells #[.slice a zs.length cap] 28) = ws at *
  generalize hbxe : w2.heap.size = bx at *
  clear hws hbxe
  go_loopw [7] (fun i wr => ∃ (k : Nat) (rest : List Int), i = .int .i64 (k : Int) ∧ k ≤ l.length ∧ rest.length ≤ 300 ∧ Hid (Bytes8 rest) ∧ Cur 51 wr b rest ∧ Cur 28 wr bx rest ∧ Ext w wr) (fun i _ => l.length - (intOf i).toNat)
  case atStart => exact ⟨0, zs, rfl, Nat.zero_le _, by omega, HR.out, HC2.out, HCx2.out, HX3.out⟩
  case round =>
    obtain ⟨k, rest, rfl, hk, hlen, hby, hC, hCx, hE⟩ := hrel
    have HC := hide' hC
    have HCx := hide' hCx
    have HE := hide' hE
    clear hC hCx hE HC2 HCx2 HX3
    by_cases hlt : k < l.length
    · obtain ⟨K, HK⟩ : ∃ K, Hid ((l.getD k (0, 0)).1 = K) := ⟨_, rfl⟩
      obtain ⟨n, HN⟩ : ∃ n, Hid ((l.getD k (0, 0)).2 = n) := ⟨_, rfl⟩
      have hn : n < 9223372036854775808 := by
        rw [← HN.out]
        have := HL.out (l.getD k (0, 0)) (by simp [List.getD, List.getElem?_eq_getElem hlt])
        exact this
      obtain ⟨_, g, off, hg⟩ := (HP.out.ext HE.out).at (by intro h; rw [h] at hlt; simp at hlt)
      subst hg
      have hck := (HP.out.ext HE.out).cellAt k hlt
      rw [HK.out, HN.out] at hck
      obtain ⟨hck0, hck1⟩ := hck
      by_cases k1 : K = 1
      · subst k1
        obtain ⟨z, ok, HZ⟩ : ∃ z ok, Hid ((byteL rest).1 = z ∧ (byteL rest).2.1 = ok) := ⟨_, _, rfl, rfl⟩
        go_wp2_with fail
        refine (byte_any b rest _ HC.out).mono ?_
        rintro e w3 ⟨rfl, hC3, hB3⟩
        have HC3 := hide' hC3
        have HCx3 := hide' (HCx.out.but HC.out (Ne.symm hbx) hB3)
        have HE3 := hide' (Ext.but HE.out hbw hB3)
        clear hC3 hB3 hck0 hck1
        rw [HZ.out.1, HZ.out.2]
        go_wp2_with fail
        refine (rbyte_any bx rest _ HCx3.out).mono ?_
        rintro e w4 ⟨rfl, hCx4, hB4⟩
        have HCx4 := hide' hCx4
        have HC4 := hide' (HC3.out.but HCx3.out hbx hB4)
        have HE4 := hide' (Ext.but HE3.out hxw hB4)
        clear hCx4 hB4 HC HCx HE HC3 HCx3 HE3
        rw [HZ.out.1, HZ.out.2]
        have q1 : (z == z) = true := by simp
        have q2 : (ok == ok) = true := by simp
        obtain ⟨m, HM⟩ : ∃ m, Hid ((byteL rest).2.2 = rest.drop m) := byteL_drop rest
        rw [HM.out] at HC4 HCx4
        obtain ⟨r, HRD⟩ : ∃ r, Hid (rest.drop m = r) := ⟨_, rfl⟩
        have hrl : r.length ≤ 300 := by rw [← HRD.out]; simp; omega
        have HBR : Hid (Bytes8 r) := by rw [← HRD.out]; exact hby.out.drop m
        rw [HRD.out] at HC4 HCx4
        obtain ⟨vx, hx1, ax, cx, hvx, _⟩ := HCx4.out.sl
        have hcx : w4.cell? ⟨bx, 0, none⟩ = some (.slice ax r.length cx) := by simp [World.cell?, hx1, hvx]
        clear hx1 hvx
        have hne := later_some w4
        have hlc := later_cell hcx
        have hqr : ((r.length : Int) == (r.length : Int)) = true := by simp
        go_wp2_with fail
        refine wp_region_k (fun f args v w => v = .int .i64 (r.length : Int)) (by kernel_rfl) (by kernel_rfl) (by kernel_rfl) ?_
        refine lexK_take 4 (by kernel_rfl) ?_
        simp only [List.take_succ_cons, List.take_zero, List.drop_succ_cons, List.drop_zero]
        repeat (go_big_quiet_step (fail))
        refine wpQuiet_nil ?_
        refine lexK_call1 16 #[.pointer (some ⟨b, 0, none⟩)] (.int .i64 (r.length : Int)) (fun v w => Iff.rfl) rfl (fun w' => ?_) (fun w' he' _ => (left_any b r w' (HC4.out.ext he')).mono fun e w'' ⟨h1, h2⟩ => ⟨h1, by rw [h2]; exact Ext.refl _⟩) ?_
        · go_simp
        simp only [Act.put, List.setIfInBounds_toArray, List.set_cons_succ, List.set_cons_zero]
        refine lexK_take 7 (by kernel_rfl) ?_
        simp only [List.take_succ_cons, List.take_zero, List.drop_succ_cons, List.drop_zero]
        repeat (go_big_quiet_step (fail))
        refine wpQuiet_nil ?_
        refine lexK_nil ?_
        intro w6 he6 _
        clear hne hlc hcx
        go_wp2
        go_roundw
        case rel => exact ⟨k + 1, r, by go_num, by omega, hrl, HBR.out, HC4.out.ext he6, HCx4.out.ext he6, HE4.out.trans he6⟩
        case measure => simp [intOf]; omega
      have e1 : (K == 1) = false := by simpa using k1
      by_cases k2 : K = 2
      · subst k2
        obtain ⟨ok, HZ⟩ : ∃ ok, Hid ((takeL n rest).2.1 = ok) := ⟨_, rfl⟩
        go_wp2_with fail
        refine (take_any b rest n _ HC.out (by omega)).mono ?_
        rintro e w3 ⟨s3, rfl, hO3, hC3, hB3⟩
        have HO3 := hide' hO3.sl
        have HC3 := hide' hC3
        have HCx3 := hide' (HCx.out.but HC.out (Ne.symm hbx) hB3)
        have HE3 := hide' (Ext.but HE.out hbw hB3)
        have hc3 := (HP.out.ext HE3.out).cellAt k hlt
        rw [HK.out, HN.out] at hc3
        obtain ⟨hc30, hc31⟩ := hc3
        clear hO3 hC3 hB3 hck0 hck1
        obtain ⟨a3, c3, hs3, _⟩ := HO3.out
        rw [hs3] at HO3 ⊢
        clear hs3
        rw [HZ.out]
        go_wp2_with fail
        refine (rtake_any bx rest n _ HCx3.out).mono ?_
        rintro e w4 ⟨s4, rfl, hS4, hCx4, hB4⟩
        have HS3 := hide' (HO3.out.cur HCx3.out hB4)
        have HS4 := hide' hS4
        have HCx4 := hide' hCx4
        have HC4 := hide' (HC3.out.but HCx3.out hbx hB4)
        have HE4 := hide' (Ext.but HE3.out hxw hB4)
        clear hS4 hCx4 hB4 HC HCx HE HC3 HCx3 HE3 HO3 hc30 hc31
        obtain ⟨a4, c4, hs4, _⟩ := HS4.out
        rw [hs4] at HS4 ⊢
        clear hs4
        rw [HZ.out]
        obtain ⟨ys, HY⟩ : ∃ ys, Hid ((takeL n rest).1 = ys) := ⟨_, rfl⟩
        rw [HY.out] at HS3 HS4 ⊢
        have st1 := HS3.out.str (P := Try.prog) 22 5 9 Try.underlying22 Try.underlying5 Try.underlying9
        have st2 := HS4.out.str (P := Try.prog) 22 5 9 Try.underlying22 Try.underlying5 Try.underlying9
        have q1 : ((strOfNums ys).toList == (strOfNums ys).toList) = true := by simp
        have q2 : (ok == ok) = true := by simp
        obtain ⟨m, HM⟩ : ∃ m, Hid ((takeL n rest).2.2 = rest.drop m) := takeL_drop n rest
        rw [HM.out] at HC4 HCx4
        obtain ⟨r, HRD⟩ : ∃ r, Hid (rest.drop m = r) := ⟨_, rfl⟩
        have hrl : r.length ≤ 300 := by rw [← HRD.out]; simp; omega
        have HBR : Hid (Bytes8 r) := by rw [← HRD.out]; exact hby.out.drop m
        rw [HRD.out] at HC4 HCx4
        obtain ⟨vx, hx1, ax, cx, hvx, _⟩ := HCx4.out.sl
        have hcx : w4.cell? ⟨bx, 0, none⟩ = some (.slice ax r.length cx) := by simp [World.cell?, hx1, hvx]
        clear hx1 hvx
        have hne := later_some w4
        have hlc := later_cell hcx
        have hqr : ((r.length : Int) == (r.length : Int)) = true := by simp
        go_wp2_with fail
        refine wp_region_k (fun f args v w => v = .int .i64 (r.length : Int)) (by kernel_rfl) (by kernel_rfl) (by kernel_rfl) ?_
        refine lexK_take 4 (by kernel_rfl) ?_
        simp only [List.take_succ_cons, List.take_zero, List.drop_succ_cons, List.drop_zero]
        repeat (go_big_quiet_step (fail))
        refine wpQuiet_nil ?_
        refine lexK_call1 16 #[.pointer (some ⟨b, 0, none⟩)] (.int .i64 (r.length : Int)) (fun v w => Iff.rfl) rfl (fun w' => ?_) (fun w' he' _ => (left_any b r w' (HC4.out.ext he')).mono fun e w'' ⟨h1, h2⟩ => ⟨h1, by rw [h2]; exact Ext.refl _⟩) ?_
        · go_simp
        simp only [Act.put, List.setIfInBounds_toArray, List.set_cons_succ, List.set_cons_zero]
        refine lexK_take 7 (by kernel_rfl) ?_
        simp only [List.take_succ_cons, List.take_zero, List.drop_succ_cons, List.drop_zero]
        repeat (go_big_quiet_step (fail))
        refine wpQuiet_nil ?_
        refine lexK_nil ?_
        intro w6 he6 _
        clear hne hlc hcx
        go_wp2
        go_roundw
        case rel => exact ⟨k + 1, r, by go_num, by omega, hrl, HBR.out, HC4.out.ext he6, HCx4.out.ext he6, HE4.out.trans he6⟩
        case measure => simp [intOf]; omega
      have e2 : (K == 2) = false := by simpa using k2
      by_cases k3 : K = 3
      · subst k3
        obtain ⟨z, ok, HZ⟩ : ∃ z ok, Hid ((varL n rest).1 = z ∧ (varL n rest).2.1 = ok) := ⟨_, _, rfl, rfl⟩
        go_wp2_with fail
        refine (varint_any b rest n _ HC.out hby.out hn).mono ?_
        rintro e w3 ⟨rfl, hC3, hB3⟩
        have HC3 := hide' hC3
        have HCx3 := hide' (HCx.out.but HC.out (Ne.symm hbx) hB3)
        have HE3 := hide' (Ext.but HE.out hbw hB3)
        have hc3 := (HP.out.ext HE3.out).cellAt k hlt
        rw [HK.out, HN.out] at hc3
        obtain ⟨hc30, hc31⟩ := hc3
        clear hC3 hB3 hck0 hck1
        rw [HZ.out.1, HZ.out.2]
        go_wp2_with fail
        refine (rvarint_any bx rest n _ HCx3.out hby.out hn).mono ?_
        rintro e w4 ⟨rfl, hCx4, hB4⟩
        have HCx4 := hide' hCx4
        have HC4 := hide' (HC3.out.but HCx3.out hbx hB4)
        have HE4 := hide' (Ext.but HE3.out hxw hB4)
        clear hCx4 hB4 HC HCx HE HC3 HCx3 HE3 hc30 hc31
        rw [HZ.out.1, HZ.out.2]
        have q1 : (z == z) = true := by simp
        have q2 : (ok == ok) = true := by simp
        obtain ⟨m, HM⟩ : ∃ m, Hid ((varL n rest).2.2 = rest.drop m) := varL_drop n rest
        rw [HM.out] at HC4 HCx4
        obtain ⟨r, HRD⟩ : ∃ r, Hid (rest.drop m = r) := ⟨_, rfl⟩
        have hrl : r.length ≤ 300 := by rw [← HRD.out]; simp; omega
        have HBR : Hid (Bytes8 r) := by rw [← HRD.out]; exact hby.out.drop m
        rw [HRD.out] at HC4 HCx4
        obtain ⟨vx, hx1, ax, cx, hvx, _⟩ := HCx4.out.sl
        have hcx : w4.cell? ⟨bx, 0, none⟩ = some (.slice ax r.length cx) := by simp [World.cell?, hx1, hvx]
        clear hx1 hvx
        have hne := later_some w4
        have hlc := later_cell hcx
        have hqr : ((r.length : Int) == (r.length : Int)) = true := by simp
        go_wp2_with fail
        refine wp_region_k (fun f args v w => v = .int .i64 (r.length : Int)) (by kernel_rfl) (by kernel_rfl) (by kernel_rfl) ?_
        refine lexK_take 4 (by kernel_rfl) ?_
        simp only [List.take_succ_cons, List.take_zero, List.drop_succ_cons, List.drop_zero]
        repeat (go_big_quiet_step (fail))
        refine wpQuiet_nil ?_
        refine lexK_call1 16 #[.pointer (some ⟨b, 0, none⟩)] (.int .i64 (r.length : Int)) (fun v w => Iff.rfl) rfl (fun w' => ?_) (fun w' he' _ => (left_any b r w' (HC4.out.ext he')).mono fun e w'' ⟨h1, h2⟩ => ⟨h1, by rw [h2]; exact Ext.refl _⟩) ?_
        · go_simp
        simp only [Act.put, List.setIfInBounds_toArray, List.set_cons_succ, List.set_cons_zero]
        refine lexK_take 7 (by kernel_rfl) ?_
        simp only [List.take_succ_cons, List.take_zero, List.drop_succ_cons, List.drop_zero]
        repeat (go_big_quiet_step (fail))
        refine wpQuiet_nil ?_
        refine lexK_nil ?_
        intro w6 he6 _
        clear hne hlc hcx
        go_wp2
        go_roundw
        case rel => exact ⟨k + 1, r, by go_num, by omega, hrl, HBR.out, HC4.out.ext he6, HCx4.out.ext he6, HE4.out.trans he6⟩
        case measure => simp [intOf]; omega
      have e3 : (K == 3) = false := by simpa using k3
      obtain ⟨z, ok, HZ⟩ : ∃ z ok, Hid ((fourL rest).1 = z ∧ (fourL rest).2.1 = ok) := ⟨_, _, rfl, rfl⟩
      go_wp2_with fail
      refine (four_any b rest _ HC.out hby.out).mono ?_
      rintro e w3 ⟨rfl, hC3, hB3⟩
      have HC3 := hide' hC3
      have HCx3 := hide' (HCx.out.but HC.out (Ne.symm hbx) hB3)
      have HE3 := hide' (Ext.but HE.out hbw hB3)
      clear hC3 hB3 hck0 hck1
      rw [HZ.out.1, HZ.out.2]
      go_wp2_with fail
      refine (rfour_any bx rest _ HCx3.out hby.out).mono ?_
      rintro e w4 ⟨rfl, hCx4, hB4⟩
      have HCx4 := hide' hCx4
      have HC4 := hide' (HC3.out.but HCx3.out hbx hB4)
      have HE4 := hide' (Ext.but HE3.out hxw hB4)
      clear hCx4 hB4 HC HCx HE HC3 HCx3 HE3
      rw [HZ.out.1, HZ.out.2]
      have q1 : (z == z) = true := by simp
      have q2 : (ok == ok) = true := by simp
      obtain ⟨m, HM⟩ : ∃ m, Hid ((fourL rest).2.2 = rest.drop m) := fourL_drop rest
      rw [HM.out] at HC4 HCx4
      obtain ⟨r, HRD⟩ : ∃ r, Hid (rest.drop m = r) := ⟨_, rfl⟩
      have hrl : r.length ≤ 300 := by rw [← HRD.out]; simp; omega
      have HBR : Hid (Bytes8 r) := by rw [← HRD.out]; exact hby.out.drop m
      rw [HRD.out] at HC4 HCx4
      obtain ⟨vx, hx1, ax, cx, hvx, _⟩ := HCx4.out.sl
      have hcx : w4.cell? ⟨bx, 0, none⟩ = some (.slice ax r.length cx) := by simp [World.cell?, hx1, hvx]
      clear hx1 hvx
      have hne := later_some w4
      have hlc := later_cell hcx
      have hqr : ((r.length : Int) == (r.length : Int)) = true := by simp
      go_wp2_with fail
      refine wp_region_k (fun f args v w => v = .int .i64 (r.length : Int)) (by kernel_rfl) (by kernel_rfl) (by kernel_rfl) ?_
      refine lexK_take 4 (by kernel_rfl) ?_
      simp only [List.take_succ_cons, List.take_zero, List.drop_succ_cons, List.drop_zero]
      repeat (go_big_quiet_step (fail))
      refine wpQuiet_nil ?_
      refine lexK_call1 16 #[.pointer (some ⟨b, 0, none⟩)] (.int .i64 (r.length : Int)) (fun v w => Iff.rfl) rfl (fun w' => ?_) (fun w' he' _ => (left_any b r w' (HC4.out.ext he')).mono fun e w'' ⟨h1, h2⟩ => ⟨h1, by rw [h2]; exact Ext.refl _⟩) ?_
      · go_simp
      simp only [Act.put, List.setIfInBounds_toArray, List.set_cons_succ, List.set_cons_zero]
      refine lexK_take 7 (by kernel_rfl) ?_
      simp only [List.take_succ_cons, List.take_zero, List.drop_succ_cons, List.drop_zero]
      repeat (go_big_quiet_step (fail))
      refine wpQuiet_nil ?_
      refine lexK_nil ?_
      intro w6 he6 _
      clear hne hlc hcx
      go_wp2
      go_roundw
      case rel => exact ⟨k + 1, r, by go_num, by omega, hrl, HBR.out, HC4.out.ext he6, HCx4.out.ext he6, HE4.out.trans he6⟩
      case measure => simp [intOf]; omega
    · have hke : k = l.length := by omega
      go_wp2_with fail
      refine (known_any _).mono ?_
      rintro e w3 ⟨rfl, hE3⟩
      go_wp2
      go_ret
      exact ⟨rfl, HE.out.trans hE3⟩
end Go.Proofs.Ythdndcoannigmaa
