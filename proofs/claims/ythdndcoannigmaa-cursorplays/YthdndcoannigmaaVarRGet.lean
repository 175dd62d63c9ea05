/- Contract of the document's own Get. -/
import Derived.Test.YthdndcoannigmaaVarRPut
import Derived.Test.YthdndcoannigmaaVarGet
namespace Go.Proofs.Ythdndcoannigmaa
set_option linter.unusedVariables false
set_option linter.unusedSimpArgs false
open Go.RowKit

theorem and127 (x : Int) (hx0 : 0 ≤ x) (hx1 : x ≤ 255) : bits .and .u8 x 127 = x % 128 := by
  obtain ⟨x, rfl⟩ := Int.eq_ofNat_of_zero_le hx0
  have e1 : bits .and .u8 (x : Int) ((127 : Nat) : Int) = ((x &&& 127 : Nat) : Int) := u8_and_nat x 127 (by omega) (by omega)
  have e2 : x &&& 127 = x % 128 := Nat.and_two_pow_sub_one_eq_mod x 7
  have a1 : ((127 : Nat) : Int) = 127 := rfl
  rw [a1] at e1
  rw [e1, e2]; omega

/-- 'y | (x & 127) << 7k', whatever wraps. -/
theorem rget_or (k : Nat) (y x : Int) (hk : k ≤ 9) (hy0 : 0 ≤ y) (hy1 : y < 128 ^ k) (hx0 : 0 ≤ x) (hx1 : x ≤ 255) :
    bits .or .u64 y (IntKind.u64.wrap (x % 128 * 2 ^ (7 * k))) = y + (if k = 9 then x % 2 else x % 128) * 128 ^ k := by
  by_cases h9 : k = 9
  · subst h9
    rw [if_pos rfl]
    have h1 := get_or 9 y (x % 2) (by omega) hy0 hy1 (by omega) (fun _ => by omega)
    have h2 : IntKind.u64.wrap (x % 128 * 2 ^ (7 * 9)) = IntKind.u64.wrap (x % 2 % 128 * 2 ^ (7 * 9)) := by
      rw [IntKind.wrap_u64, IntKind.wrap_u64]
      have : (2 : Int) ^ (7 * 9) = 9223372036854775808 := by decide
      rw [this]; omega
    have h3 : x % 2 % 128 = x % 2 := by omega
    rw [h2, h1, h3]
  · rw [if_neg h9]
    exact get_or k y x hk hy0 hy1 hx0 (fun e => absurd e h9)

theorem take_snoc (zs : List Int) (k : Nat) (x : Int) (h : k < zs.length) (hx : zs.getD k 0 = x) : zs.take (k + 1) = zs.take k ++ [x] := by
  rw [List.take_succ_eq_append_getElem h]
  simp [List.getD, List.getElem?_eq_getElem h] at hx
  rw [hx]

theorem getL_at (zs : List Int) (k : Nat) (x : Int) (hlt : k < zs.length) (hx : zs.getD k 0 = x) (hP : ∀ p ∈ zs.take k, 128 ≤ p) (hk : k ≤ 9) :
    getL zs = getF k (valL (zs.take k)) (x :: zs.drop (k + 1)) := by
  have hlen : (zs.take k).length = k := by simp; omega
  have h := getF_run (zs.take k) (x :: zs.drop (k + 1)) hP 0 0 (by omega)
  rw [← drop_cons zs k x hlt hx, List.take_append_drop, hlen] at h
  unfold getL
  rw [h, drop_cons zs k x hlt hx]
  simp

/-- What the last byte of a number decides. -/
theorem rget_dec (zs : List Int) (k : Nat) (y x : Int) (hlt : k < zs.length) (hx : zs.getD k 0 = x) (hr : ∀ x ∈ zs, 0 ≤ x ∧ x ≤ 255) (hP : ∀ p ∈ zs.take k, 128 ≤ p) (hk : k ≤ 9)
    (hy : y = valL (zs.take k)) (hx0 : 0 ≤ x) (hx1 : x < 128) :
    ∃ V, bits .or .u64 y (IntKind.u64.wrap (x % 128 * 2 ^ (7 * k))) = V ∧ 0 ≤ V ∧ V < 18446744073709551616 ∧
      ((putL V = zs.take (k + 1) ∧ getL zs = (V, (k : Int) + 1, true)) ∨ (putL V ≠ zs.take (k + 1) ∧ getL zs = (0, 0, false))) := by
  have hlen : (zs.take k).length = k := by simp; omega
  have hb := valL_bound (zs.take k)
  rw [hlen, ← hy] at hb
  have hO := rget_or k y x hk hb.1 hb.2 hx0 (by omega)
  have hT := take_snoc zs k x hlt hx
  have hG := getL_at zs k x hlt hx hP hk
  rw [← hy] at hG
  have hp9 := pow_le9 k hk
  have hpp := pow_pos128 k
  have hPr : ∀ p ∈ zs.take k, 128 ≤ p ∧ p ≤ 255 := fun p hp => ⟨hP p hp, (hr p (List.mem_of_mem_take hp)).2⟩
  have hval : valL (zs.take (k + 1)) = y + x % 128 * 128 ^ k := by rw [hT, valL_snoc, hlen, hy]
  refine ⟨_, hO, ?_⟩
  by_cases hov : k = 9 ∧ 1 < x
  · obtain ⟨rfl, h1⟩ := hov
    rw [if_pos rfl]
    have e9 : (128 : Int) ^ 9 = 9223372036854775808 := by decide
    rw [e9] at hb hval ⊢
    have hl : y + x % 2 * 9223372036854775808 < 128 * 128 ^ 9 := by rw [e9]; omega
    refine ⟨by omega, by omega, .inr ⟨fun h => ?_, by rw [hG, getF_over _ _ _ h1]⟩⟩
    have h2 := valL_putF 9 _ (by omega) hl
    unfold putL at h
    rw [h, hval] at h2
    omega
  · have hxx : (if k = 9 then x % 2 else x % 128) = x % 128 := by split <;> omega
    rw [hxx, ← hval]
    have hv0 : 0 ≤ valL (zs.take (k + 1)) := (valL_bound _).1
    have hvu : valL (zs.take (k + 1)) < 18446744073709551616 := by
      rw [hval]
      by_cases e : k = 9
      · subst e
        have := mul_lt_pow (x % 128) 9 1 (by omega) (by omega)
        omega
      · have h3 := pow_le9 (k + 1) (by omega)
        rw [pow_s128] at h3
        have := mul_lt_pow (x % 128) k 127 (by omega) (by omega)
        omega
    refine ⟨hv0, hvu, ?_⟩
    by_cases hz : x = 0 ∧ 0 < k
    · obtain ⟨rfl, hk0⟩ := hz
      refine .inr ⟨fun h => ?_, by rw [hG, getF_nought _ _ _ hk0]⟩
      have hl : valL (zs.take (k + 1)) < 128 * 128 ^ 9 := lt_top hvu
      unfold putL at h
      rw [hT] at h hl hv0
      have := putF_last 9 _ (zs.take k) hv0 hl h
      rw [this] at hlen
      simp at hlen; omega
    · refine .inl ⟨?_, ?_⟩
      · rw [hT]
        exact putF_valL (zs.take k) x 9 (by omega) hPr hx0 hx1 (fun e => by
          have : k = 0 := by omega
          rw [this]; simp)
      · rw [hG, getF_end k y x _ (by omega) hx1 (by omega), hval]

set_option maxHeartbeats 1000000 in
theorem rget_some (b off c : Nat) (zs : List Int) (w : World) (hm : zs.length ≤ c) (hmc : c ≤ maxLen) (hr : ∀ x ∈ zs, 0 ≤ x ∧ x ≤ 255)
    (hc : ∀ i, i < zs.length → w.cell? ⟨b, off + i, none⟩ = some (.int .u8 (zs.getD i 0))) :
    Calls Try.prog 23 #[.slice (some ⟨b, off, none⟩) zs.length c] w fun e w' => e = .returned (getV (getL zs)) ∧ Ext w w' := by
  unfold maxLen at hmc
  have HR := hide' hr
  have HC := hide' hc
  clear hr hc
  go_enter Try.func23, Try.ntmps23
  go_wp2
  go_loop [5, 6] (fun v i => ∃ (k : Nat) (y : Int), k ≤ zs.length ∧ k ≤ 10 ∧ i = .int .i64 k ∧ v = .int .u64 y ∧ Hid (k ≤ 9 → y = valL (zs.take k)) ∧ Hid (∀ p ∈ zs.take k, 128 ≤ p)) (fun _ i => zs.length - (intOf i).toNat)
  case atStart => exact ⟨0, 0, Nat.zero_le _, Nat.zero_le _, rfl, rfl, fun _ => rfl, fun p hp => by simp at hp⟩
  case round =>
    obtain ⟨k, y, hk, hk10, rfl, rfl, hy, hP⟩ := hrel
    by_cases hlt : k < zs.length
    · by_cases h10 : k < 10
      · have hce := HC.out k hlt
        obtain ⟨x, HX⟩ : ∃ x, Hid (zs.getD k 0 = x) := ⟨_, rfl⟩
        rw [HX.out] at hce
        have hxr : 0 ≤ x ∧ x ≤ 255 := by
          have := HX.out
          simp [List.getD, List.getElem?_eq_getElem hlt] at this
          rw [← this]; exact HR.out _ (List.getElem_mem hlt)
        obtain ⟨hx0, hx1⟩ := hxr
        have HT := hide' (take_snoc zs k x hlt HX.out)
        have HY := hide' (hy.out (by omega))
        have hb := valL_bound (zs.take k)
        have hlen : (zs.take k).length = k := by simp; omega
        rw [hlen, ← HY.out] at hb
        have HB := hide' hb
        have HO := hide' (rget_or k y x (by omega) hb.1 hb.2 hx0 hx1)
        have ha := and127 x hx0 hx1
        clear hb hlen
        by_cases h128 : x < 128
        · have HDec := hide' (rget_dec zs k y x hlt HX.out HR.out hP.out (by omega) HY.out hx0 h128)
          clear HO
          go_wp2_with fail
          obtain ⟨V, HV, HV0, HV1, hd⟩ := HDec.out
          rw [HV]
          have HTr : ∀ z ∈ zs.take (k + 1), 0 ≤ z ∧ z ≤ 255 := fun z hz => HR.out z (List.mem_of_mem_take hz)
          have hE0 := hide' (strOfNums_inj (xs := putL V) (ys := zs.take (k + 1)) (putF_range 9 V HV0 (lt_top HV1)) HTr)
          have hne := later_some w
          have hcv := later_str (P := Try.prog) (Sl.take (k := .u8) (w := w) (b := b) (off := off) (c := c) (k + 1) (by omega) hm (by unfold maxLen; omega) HC.out) 22 5 9 Try.underlying22 Try.underlying5 Try.underlying9
          clear HTr HV
          rcases hd with ⟨d1, d2⟩ | ⟨d1, d2⟩
          all_goals
            first
              | (have hE : ((strOfNums (putL V)).toList == (strOfNums (zs.take (k + 1))).toList) = true := by rw [hE0.out]; simpa using d1)
              | (have hE : ((strOfNums (putL V)).toList == (strOfNums (zs.take (k + 1))).toList) = false := by rw [hE0.out]; simpa using d1)
            have D2 := hide' d2
            clear d1 d2
            refine wp_region_k (fun f args v w => ∀ x, args = #[.int .u64 x] → Sl .u8 w v (putL x)) (by kernel_rfl) (by kernel_rfl) (by kernel_rfl) ?_
            refine lexK_take 1 (by kernel_rfl) ?_
            simp only [List.take_succ_cons, List.take_zero, List.drop_succ_cons, List.drop_zero]
            repeat (go_big_quiet_step (fail))
            refine wpQuiet_nil ?_
            refine lexK_call 18 #[.int .u64 V] (fun v w1 w2 h12 h x hx => Sl.up w1 w2 h12 (h x hx)) rfl (fun w' => ?_) (fun w' _ _ => (rput_any V w' HV0 HV1).mono fun e w'' ⟨s, h1, h2, h3⟩ => ⟨s, h1, h3, fun x hx => ?_⟩) ?_
            · go_simp
            · simp only [Array.mk.injEq, List.cons.injEq, Value.int.injEq, true_and, and_true] at hx
              rw [← hx]; exact h2.sl
            intro v w1 _ _ hv1
            refine lexK_val (.string (strOfNums (putL V))) rfl (fun w2 he2 hf2 => ?_) ?_
            · exact run_convert_op rfl rfl (((hf2 35 (by decide)).2 rfl V rfl).str _ 5 _ Try.underlying22 Try.underlying5 Try.underlying9)
            simp only [Act.put, List.setIfInBounds_toArray, List.set_cons_succ, List.set_cons_zero]
            refine lexK_take 6 (by kernel_rfl) ?_
            simp only [List.take_succ_cons, List.take_zero, List.drop_succ_cons, List.drop_zero]
            repeat (go_big_quiet_step (fail))
            refine wpQuiet_nil ?_
            refine lexK_nil ?_
            intro w3 he3 _
            clear hE hne hcv hv1
            go_wp2
            go_ret3
            exact ⟨ret3 D2.out, he3⟩
        · have h128' : 128 ≤ x := by omega
          go_wp2
          go_round
          case rel =>
            refine ⟨k + 1, _, by omega, by omega, by go_num, rfl, ?_, ?_⟩
            · intro hk9
              rw [HO.out, if_neg (by omega), HT.out, valL_snoc, ← HY.out]
              rw [List.length_take, Nat.min_eq_left (by omega)]
            · show ∀ p ∈ zs.take (k + 1), 128 ≤ p
              rw [HT.out]
              intro p hp
              simp only [List.mem_append, List.mem_singleton] at hp
              rcases hp with hp | rfl
              · exact hP.out p hp
              · exact h128'
          case measure => simp [intOf]; omega
      · have HG : Hid (getL zs = (0, 0, false)) := by
          have h9 : 9 < zs.length := by omega
          have hP9 : ∀ p ∈ zs.take 10, 128 ≤ p := by
            have : k = 10 := by omega
            rw [← this]; exact hP.out
          have hT := take_snoc zs 9 _ h9 rfl
          rw [hT] at hP9
          have h1 := getL_at zs 9 _ h9 rfl (fun p hp => hP9 p (by simp only [List.mem_append]; exact .inl hp)) (by omega)
          have h2 := hP9 (zs.getD 9 0) (by simp only [List.mem_append, List.mem_singleton]; exact .inr trivial)
          show _ = _
          rw [h1, getF_over _ _ _ (by omega)]
        go_wp2
        go_ret3
        exact ⟨ret3 HG.out, Ext.refl _⟩
    · have HG : Hid (getL zs = (0, 0, false)) := by
        have hkk : zs.take k = zs := List.take_of_length_le (by omega)
        have hP' := hP.out
        rw [hkk] at hP'
        show getF 0 0 zs = _
        by_cases hl : zs.length ≤ 9
        · have := getF_run zs [] hP' 0 0 (by omega)
          rw [List.append_nil] at this
          rw [this]; rfl
        · have h9 : 9 < zs.length := by omega
          have h1 := getL_at zs 9 _ h9 rfl (fun p hp => hP' p (List.mem_of_mem_take hp)) (by omega)
          have h2 := hP' (zs.getD 9 0) (by simp [List.getD, List.getElem?_eq_getElem h9])
          have h3 : getF 0 0 zs = getL zs := rfl
          rw [h3, h1, getF_over _ _ _ (by omega)]
      go_wp2
      go_ret3
      exact ⟨ret3 HG.out, Ext.refl _⟩

theorem rget_none (a : Option Addr) (c : Nat) (w : World) :
    Calls Try.prog 23 #[.slice a 0 c] w fun e w' => e = .returned (getV (getL [])) ∧ Ext w w' := by
  go_enter Try.func23, Try.ntmps23
  go_wp2
  refine wp_loop_rounds 1 ?_
  rw [rounds_succ]
  go_wp2
  go_ret3
  exact ⟨ret3 rfl, Ext.refl _⟩

/-- The document's Get, of whatever bytes. -/
theorem rget_any (v : Value) (zs : List Int) (w : World) (hs : Sl .u8 w v zs) (hr : ∀ x ∈ zs, 0 ≤ x ∧ x ≤ 255) :
    Calls Try.prog 23 #[v] w fun e w' => e = .returned (getV (getL zs)) ∧ Ext w w' := by
  obtain ⟨a, c, rfl, h1, h2, _, h3⟩ := hs
  rcases h3 with rfl | ⟨b, off, rfl, h5⟩
  · exact rget_none a c w
  · exact rget_some b off c zs w h1 h2 hr h5
end Go.Proofs.Ythdndcoannigmaa
