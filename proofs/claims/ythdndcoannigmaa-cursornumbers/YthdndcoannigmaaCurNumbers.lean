/- CursorNumbers: the walk. -/
import Derived.Test.YthdndcoannigmaaCurKnown
namespace Go.Proofs.Ythdndcoannigmaa
set_option linter.unusedVariables false
set_option linter.unusedSimpArgs false
open Go.RowKit

def flatL (ls : List Int) : List Int := ls.flatMap putL
theorem flatL_cons (x : Int) (ls : List Int) : flatL (x :: ls) = putL x ++ flatL ls := by simp [flatL]
theorem flatL_take (ls : List Int) (k : Nat) (x : Int) (h : k < ls.length) (hx : ls.getD k 0 = x) : flatL (ls.take (k + 1)) = flatL (ls.take k) ++ putL x := by
  rw [List.take_succ_eq_append_getElem h]
  simp [List.getD, List.getElem?_eq_getElem h] at hx
  rw [hx]; simp [flatL]
theorem flatL_drop (ls : List Int) (k : Nat) (x : Int) (h : k < ls.length) (hx : ls.getD k 0 = x) : flatL (ls.drop k) = putL x ++ flatL (ls.drop (k + 1)) := by
  rw [drop_cons ls k x h hx, flatL_cons]
theorem flatL_len (ls : List Int) : (flatL ls).length ≤ 10 * ls.length := by
  induction ls with
  | nil => simp [flatL]
  | cons x ls ih =>
    rw [flatL_cons, List.length_append, List.length_cons]
    have := putF_len 9 x
    unfold putL
    omega
theorem flatL_bytes (ls : List Int) (h : ∀ z ∈ ls, 0 ≤ z ∧ z ≤ 1099511627776) : Bytes8 (flatL ls) := by
  intro z hz
  simp only [flatL, List.mem_flatMap] at hz
  obtain ⟨x, hx, hz⟩ := hz
  have := h x hx
  exact putF_range 9 x this.1 (lt_top (by omega)) z hz
/-- What is taken at its bound, and what below it. -/
theorem varL_put (x : Int) (r : List Int) (h0 : 0 ≤ x) (h1 : x ≤ 1099511627776) : varL x (putL x ++ r) = (x, true, r) := by
  have h := getL_putL x r h0 (by omega) (lt_top (by omega))
  rw [varL_in h h0 (Int.le_refl _), Int.toNat_natCast, List.drop_left]
theorem varL_less (x m : Int) (r : List Int) (h0 : 0 ≤ x) (h1 : x ≤ 1099511627776) (hm : m < x) : varL m (putL x ++ r) = (0, false, putL x ++ r) := by
  have h := getL_putL x r h0 (by omega) (lt_top (by omega))
  exact varL_out h (by omega)

set_option maxHeartbeats 1000000 in
theorem lawNumbers (v : Value) (ls : List Int) (less : Int) (w : World) (hs : Sl .i64 w v ls) :
    Calls Try.prog 6 #[v, .int .i64 less] w fun e w' => e = .returned (.bool true) ∧ Ext w w' := by
  have HS := hide' hs
  obtain ⟨a, cap, rfl, hm2, hm3, _⟩ := hs
  unfold maxLen at hm3
  by_cases h0 : (50 : Int) < (ls.length : Int)
  · go_enter Try.func6, Try.ntmps6
    go_wp2
    go_ret
    exact ⟨rfl, Ext.refl _⟩
  have d0 : decide ((50 : Int) < (ls.length : Int)) = false := by simpa using h0
  by_cases h1 : less < 1
  · go_enter Try.func6, Try.ntmps6
    go_wp2
    go_ret
    exact ⟨rfl, Ext.refl _⟩
  have d1 : decide (less < 1) = false := by simpa using h1
  by_cases h2 : 9 < less
  · go_enter Try.func6, Try.ntmps6
    go_wp2
    go_ret
    exact ⟨rfl, Ext.refl _⟩
  have d2 : decide (9 < less) = false := by simpa using h2
  have h0' : (ls.length : Int) ≤ 50 := by omega
  have h1' : 1 ≤ less := by omega
  have h2' : less ≤ 9 := by omega
  clear h0 h1 h2
  go_enter Try.func6, Try.ntmps6
  go_wp2
  go_loopw [5, 6] (fun s i wr => ∃ (k : Nat), i = .int .i64 (k : Int) ∧ k ≤ ls.length ∧ Hid (∀ z ∈ ls.take k, 0 ≤ z ∧ z ≤ 1099511627776) ∧ Own .u8 5 w.heap.size wr s (flatL (ls.take k)) ∧ Ext w wr) (fun _ i _ => ls.length - (intOf i).toNat)
  case atStart => exact ⟨0, rfl, Nat.zero_le _, (fun z hz => by simp at hz), Own.nil _ _ _ _, Ext.refl _⟩
  case round =>
    obtain ⟨k, rfl, hk, hrange, hO, hE⟩ := hrel
    have HO := hide' hO
    have HE := hide' hE
    obtain ⟨ax, cs, hvs, _⟩ := hO.sl
    rw [hvs] at HO ⊢
    clear hO hE hvs
    have hfl := flatL_len (ls.take k)
    have htl : (ls.take k).length ≤ ls.length := by simp; omega
    have HFL : Hid ((flatL (ls.take k)).length ≤ 500) := by show _ ≤ _; omega
    clear hfl htl
    by_cases hlt : k < ls.length
    · obtain ⟨x, HX⟩ : ∃ x, Hid (ls.getD k 0 = x) := ⟨_, rfl⟩
      obtain ⟨_, g, off, hg, hc⟩ := (HS.out.ext HE.out).at (by intro h; rw [h] at hlt; simp at hlt)
      have hck := hc k hlt
      rw [HX.out] at hck
      subst hg
      clear hc
      by_cases g1 : x < 0
      · go_wp2
        go_ret
        exact ⟨rfl, HE.out⟩
      have d3 : decide (x < 0) = false := by simpa using g1
      by_cases g2 : 1099511627776 < x
      · go_wp2
        go_ret
        exact ⟨rfl, HE.out⟩
      have d4 : decide (1099511627776 < x) = false := by simpa using g2
      have g1' : 0 ≤ x := by omega
      have g2' : x ≤ 1099511627776 := by omega
      clear g1 g2
      have hw : IntKind.u64.wrap x = x := by rw [IntKind.wrap_u64]; omega
      go_wp2_with fail
      refine (rput_any x wr g1' (by show x < _; omega)).mono ?_
      rintro e w2 ⟨s2, rfl, hO2, hE2⟩
      have HO2 := hide' hO2.sl
      have HOk := hide' (HO.out.ext hE2)
      have HE2 : Hid (Ext w w2) := Ext.trans HE.out hE2
      have hpl := putF_len 9 x
      have HPL : Hid ((putL x).length ≤ 10) := hpl.2
      have hsz : w.heap.size ≤ w2.heap.size := HE2.out.size
      clear hO2 hE2 HO hck hpl
      go_wp2_with (at_builtin; refine wpList_join _ rfl (.tmp 42) (.tmp 48) 22 rfl 5 .u8 1 Try.underlying22 infoU8 w.heap.size _ _ (flatL (ls.take k)) (putL x) rfl rfl HOk.out HO2.out ?c1 hsz ?_)
      case c1 => have := HPL.out; have := HFL.out; unfold maxLen; omega
      intro v3 w3 ho3 hb3
      have HO3 := hide' ho3
      have HB3 := hide' hb3
      clear ho3 hb3
      go_wp2
      go_roundw
      case rel =>
        refine ⟨k + 1, by go_num, by omega, ?_, ?_, Below.trans HE2.out HB3.out⟩
        · intro z hz
          rw [List.take_succ_eq_append_getElem hlt] at hz
          simp only [List.mem_append, List.mem_singleton] at hz
          rcases hz with hz | rfl
          · exact hrange.out z hz
          · have := HX.out
            simp [List.getD, List.getElem?_eq_getElem hlt] at this
            rw [this]; exact ⟨g1', g2'⟩
        · rw [flatL_take ls k x hlt HX.out]; exact HO3.out
      case measure => simp [intOf]; omega
    · have hke : k = ls.length := by omega
      have HA : Hid (ls.take k = ls) := by show _ = _; rw [hke]; exact List.take_length
      rw [HA.out] at HO HFL hrange ⊢
      go_wp2_with fail
      refine (new_any ax _ cs (flatL ls) wr HO.out.sl (by have := HFL.out; omega)).mono ?_
      rintro e w1 ⟨b, rfl, hb1, hC1, hE1⟩
      have hbw : w.heap.size ≤ b := Nat.le_trans HE.out.size hb1
      have HC1 := hide' hC1
      have HE1 : Hid (Ext w w1) := Ext.trans HE.out hE1
      clear hC1 hE1 HO HE
      go_wp2
      go_loopw [8] (fun i wr => ∃ (k : Nat), i = .int .i64 (k : Int) ∧ k ≤ ls.length ∧ Cur 51 wr b (flatL (ls.drop k)) ∧ Ext w wr) (fun i _ => ls.length - (intOf i).toNat)
      case atStart => exact ⟨0, rfl, Nat.zero_le _, HC1.out, HE1.out⟩
      case round =>
        obtain ⟨j, rfl, hj, hC, hE⟩ := hrel
        have HC := hide' hC
        have HE := hide' hE
        clear hC hE HC1 HE1
        by_cases hlt2 : j < ls.length
        · obtain ⟨x, HX⟩ : ∃ x, Hid (ls.getD j 0 = x) := ⟨_, rfl⟩
          have hxr : 0 ≤ x ∧ x ≤ 1099511627776 := by
            have := HX.out
            simp [List.getD, List.getElem?_eq_getElem hlt2] at this
            rw [← this]; exact hrange.out _ (List.getElem_mem hlt2)
          obtain ⟨x0, x1⟩ := hxr
          obtain ⟨_, g, off, hg, hc⟩ := (HS.out.ext HE.out).at (by intro h; rw [h] at hlt2; simp at hlt2)
          have hck := hc j hlt2
          rw [HX.out] at hck
          subst hg
          clear hc
          have HBy : Hid (Bytes8 (flatL (ls.drop j))) := flatL_bytes _ fun z hz => hrange.out z (List.mem_of_mem_drop hz)
          rw [flatL_drop ls j x hlt2 HX.out] at HC HBy
          go_wp2_with fail
          refine (varint_any b _ (x - less) _ HC.out HBy.out (by omega)).mono ?_
          rw [varL_less x (x - less) _ x0 x1 (by omega)]
          rintro e w2 ⟨rfl, hC2, hB2⟩
          have HC2 := hide' hC2
          have HE2 := hide' (Ext.but HE.out hbw hB2)
          clear hC2 hB2 HC HE hck
          have hck := (HS.out.ext HE2.out).cellAt j hlt2
          rw [HX.out] at hck
          go_wp2_with fail
          refine (varint_any b _ x w2 HC2.out HBy.out (by omega)).mono ?_
          rw [varL_put x _ x0 x1]
          rintro e w3 ⟨rfl, hC3, hB3⟩
          have HC3 := hide' hC3
          have HE3 := hide' (Ext.but HE2.out hbw hB3)
          clear hC3 hB3 HC2 HE2 hck
          have hck := (HS.out.ext HE3.out).cellAt j hlt2
          rw [HX.out] at hck
          go_wp2
          go_roundw
          case rel => exact ⟨j + 1, by go_num, by omega, HC3.out, HE3.out⟩
          case measure => simp [intOf]; omega
        · have hje : j = ls.length := by omega
          have HN : Hid (flatL (ls.drop j) = []) := by show _ = _; rw [hje, List.drop_length]; rfl
          rw [HN.out] at HC
          go_wp2_with fail
          refine (left_any b [] _ HC.out).mono ?_
          rintro e w2 ⟨rfl, rfl⟩
          go_wp2_with fail
          refine (known_any _).mono ?_
          rintro e w3 ⟨rfl, hE3⟩
          go_wp2
          go_ret
          exact ⟨rfl, HE.out.trans hE3⟩
end Go.Proofs.Ythdndcoannigmaa
