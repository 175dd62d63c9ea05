/- Contract of necklace.inOrder. -/
import Derived.Test.YtjccpkekhjhafaaNecRing
import Derived.Test.YtjccpkekhjhafaaNecSort2
namespace Go.Proofs.Ytjccpkekhjhafaa
set_option linter.unusedVariables false
set_option linter.unusedSimpArgs false
open Go.RowKit

/-- Words that may be asked: so many, so long, of bytes. -/
def Words8 (zss : List (List Int)) : Prop := zss.length ≤ 100000 ∧ ∀ k, Bytes8 (zss.getD k []) ∧ (zss.getD k []).length ≤ 1000000

theorem baseL_take_some {zss : List (List Int)} {k : Nat} {zs : List Int} (hk : k < zss.length) (h : zss.getD k [] = zs) (h0 : 0 < zs.length) : baseL (zss.take (k + 1)) = baseL (zss.take k) ++ [ofI zs] := by
  rw [List.getD_eq_getElem?_getD, List.getElem?_eq_getElem hk, Option.getD_some] at h
  rw [List.take_add_one, List.getElem?_eq_getElem hk, Option.toList_some, baseL_app, h, baseL_one h0]
theorem baseL_take_none {zss : List (List Int)} {k : Nat} {zs : List Int} (hk : k < zss.length) (h : zss.getD k [] = zs) (h0 : zs.length = 0) : baseL (zss.take (k + 1)) = baseL (zss.take k) := by
  rw [List.getD_eq_getElem?_getD, List.getElem?_eq_getElem hk, Option.getD_some] at h
  rw [List.take_add_one, List.getElem?_eq_getElem hk, Option.toList_some, baseL_app, h, baseL_none h0, List.append_nil]
theorem baseL_len_take (zss : List (List Int)) (k : Nat) : (baseL (zss.take k)).length ≤ k := by
  unfold baseL
  rw [List.length_map]
  exact Nat.le_trans (List.length_filter_le _ _) (by rw [List.length_take]; omega)

theorem slice_of' {w : World} {v : Value} {zs : List Int} {k : IntKind} (h : Sl k w v zs) : ∃ a n c, v = .slice a n c := by
  obtain ⟨a, c, h, _⟩ := h
  exact ⟨a, _, c, h⟩
theorem getD_all' {P : List Int → Prop} {l : List (List Int)} (h : ∀ x ∈ l, P x) (h0 : P []) (k : Nat) : P (l.getD k []) := by
  rw [List.getD_eq_getElem?_getD]
  cases hk : l[k]? with
  | none => exact h0
  | some x => exact h x (List.mem_of_getElem? hk)

set_option maxHeartbeats 1000000 in
theorem inOrder_any (v : Value) (zss : List (List Int)) (w : World) (hs : Sls w v zss) (hw : Words8 zss) :
    Calls Try.prog 18 #[v] w fun e w' => ∃ s l, e = .returned s ∧ l.map (·.x) = canonL zss ∧ SlR w' s l ∧ (∀ r ∈ l, RgOk w.heap.size w' r) ∧ Ext w w' := by
  have HS := hide' hs
  have HW := hide' hw
  obtain ⟨a, c, rfl, hm, _⟩ := hs
  have hlen := hw.1
  clear hw hm
  obtain ⟨N, HN⟩ : ∃ n, Hid (zss.length = n) := ⟨_, rfl⟩
  rw [HN.out] at HS hlen ⊢
  go_enter Try.func18, Try.ntmps18
  go_wp2
  go_loopw [3, 8] (fun sv vk wr => ∃ (k : Nat) (l : List Rg), k ≤ N ∧ vk = .int .i64 k ∧ Hid (l.map (·.x) = baseL (zss.take k)) ∧ Hid (OwnR w.heap.size wr sv l) ∧ Hid (∀ r ∈ l, RgOk w.heap.size wr r) ∧ Hid (Ext w wr)) (fun _ vk _ => N - (intOf vk).toNat)
  case atStart => exact ⟨0, [], Nat.zero_le _, rfl, rfl, OwnR.nil _ _, (fun r h => by cases h), Ext.refl _⟩
  case round =>
    obtain ⟨k, l, hk, rfl, HX, HO, HR, HE⟩ := hrel
    by_cases hlt : k < N
    · have hlt' : (k : Int) < N := by omega
      have HI : Hid (k < zss.length) := by show _ < _; rw [HN.out]; exact hlt
      obtain ⟨g, off, a2, c2, rfl, hc, h10, h9, h8⟩ := (HS.out.ext HE.out).row HI.out
      obtain ⟨zs, HZ⟩ : ∃ zs, Hid (zss.getD k [] = zs) := ⟨_, rfl⟩
      have HB := hide' (HW.out.2 k)
      rw [HZ.out] at hc h9 h8 HB
      have H8 := hide' h8
      clear h8
      obtain ⟨m, HM⟩ : ∃ m, Hid (zs.length = m) := ⟨_, rfl⟩
      rw [HM.out] at hc h9 H8
      unfold maxLen at h10
      by_cases h0 : m = 0
      · have d0 : decide ((0 : Int) < (m : Int)) = false := by simp; omega
        have d1 : decide (0 < m) = false := by simp; omega
        have HX2 : Hid (l.map (·.x) = baseL (zss.take (k + 1))) := by show _ = _; rw [baseL_take_none HI.out HZ.out (by rw [HM.out]; exact h0)]; exact HX.out
        clear h0
        go_wp2
        go_roundw
        case rel => exact ⟨k + 1, l, by omega, by go_num, HX2, HO, HR, HE⟩
        case measure => simp [intOf]; omega
      · have d0 : decide ((0 : Int) < (m : Int)) = true := by simp; omega
        have d1 : decide (0 < m) = true := by simp; omega
        have h0' : 0 < zs.length := by rw [HM.out]; omega
        have HX2 : Hid (baseL (zss.take (k + 1)) = baseL (zss.take k) ++ [ofI zs]) := baseL_take_some HI.out HZ.out h0'
        clear h0
        go_wp2_with fail
        refine (ringOf_any _ zs wr H8.out HB.out.1 h0' HB.out.2).mono ?_
        rintro e w1 ⟨⟨tv, rv, x⟩, rfl, hx, hok, he⟩
        dsimp only at hx hok ⊢
        obtain ⟨ta, tn, tc, ht⟩ : ∃ a n c, tv = .slice a n c := by obtain ⟨a, c, h, _⟩ := hok.1.sl; exact ⟨a, _, c, h⟩
        obtain ⟨ra, rn, rc, hr⟩ : ∃ a n c, rv = .slice a n c := by obtain ⟨a, c, h, _⟩ := hok.2.1.sl; exact ⟨a, _, c, h⟩
        subst ht hr
        obtain ⟨n, HT⟩ : ∃ n, Hid (tmI x = n) := ⟨_, rfl⟩
        rw [HT.out]
        have H1 := hide' hok
        have E1 := hide' (HE.out.trans he)
        have HO1 := hide' (HO.out.ext he)
        have HR1 : Hid (∀ r ∈ l, RgOk w.heap.size w1 r) := fun r hr => (HR.out r hr).ext he
        have HXX := hide' hx
        have HBW := hide' HE.out.size
        have LL : Hid (l.length + 1 ≤ 1000000) := by
          have h1 := baseL_len_take zss k
          rw [← HX.out, List.length_map] at h1
          show _ ≤ _
          omega
        clear hx hok he HO HR H8 hc
        go_wp2_with (at_builtin; refine wpList_snocR _ rfl _ _ rfl w.heap.size _ l ⟨.slice ta tn tc, .slice ra rn rc, x⟩ w1.heap.size rfl rfl ?c1 (fun v hv => H1.out.enc1 v hv) (HO1.out.ext (ext_alloc _ _)) LL.out ?c2 ?_)
        case c1 => rw [HT.out]; first | exact heap_alloc_top _ _ | exact (Array.getElem?_eq_some_iff.1 (heap_alloc_top w1 _)).2
        case c2 => exact Nat.le_trans E1.out.size (by simp)
        intro v1 w2 ho1 hg1
        have OX := HO1.out.ext (ext_alloc w1 (.cells #[.slice ta tn tc, .slice ra rn rc, .int .i64 (n : Int)] 38))
        have HO2 := hide' ho1
        have HR2 : Hid (∀ r ∈ l ++ [⟨.slice ta tn tc, .slice ra rn rc, x⟩], RgOk w.heap.size w2 r) := fun r hr => by
          rcases List.mem_append.1 hr with hr | hr
          · exact ((HR1.out r hr).ext (ext_alloc _ _)).other OX hg1
          · simp only [List.mem_singleton] at hr
            subst hr
            have h2 := (H1.out.ext (ext_alloc w1 (.cells #[.slice ta tn tc, .slice ra rn rc, .int .i64 (n : Int)] 38))).other OX hg1
            exact ⟨h2.1.low HBW.out, h2.2.1.low HBW.out, h2.2.2⟩
        have E2 : Hid (Ext w w2) := Below.trans (E1.out.trans (ext_alloc _ _)) (owns_grown OX (Nat.le_trans E1.out.size (by simp)) hg1)
        have HX3 : Hid ((l ++ [(⟨.slice ta tn tc, .slice ra rn rc, x⟩ : Rg)]).map (·.x) = baseL (zss.take (k + 1))) := by
          show _ = _
          rw [List.map_append, HX.out, HX2.out, ← HXX.out]
          rfl
        clear ho1 hg1 OX HO1 HR1 H1
        go_wp2
        go_roundw
        case rel => exact ⟨k + 1, _, by omega, by go_num, HX3, HO2, HR2, E2⟩
        case measure => simp [intOf]; omega
    · have hlt' : (N : Int) ≤ k := by omega
      have HXX : Hid (l.map (·.x) = baseL zss) := by
        have h1 := HX.out
        rw [List.take_of_length_le (by rw [HN.out]; omega)] at h1
        exact h1
      have LL : Hid (l.length ≤ 1000000) := by
        have h1 := baseL_len_take zss k
        rw [← HX.out, List.length_map] at h1
        show _ ≤ _
        omega
      go_wp2_with fail
      refine (sortRing_any w.heap.size wr _ l HO.out HR.out LL.out HE.out.size).mono ?_
      rintro e w1 ⟨rfl, l', hp, hsrt, hsl, hok, hbl⟩
      have H1 : Hid (l'.map (·.x) = canonL zss) := by
        refine canonL_eq ?_ ?_
        · rw [← HXX.out]; exact hp.map _
        · rw [List.pairwise_map]; exact hsrt
      have H2 := hide' hsl
      have H3 := hide' hok
      have E1 : Hid (Ext w w1) := Below.trans HE.out hbl
      clear hp hsrt hsl hok hbl
      go_wp2
      go_ret
      exact ⟨_, l', rfl, H1.out, H2.out, H3.out, E1.out⟩

/-- Rings are words that may be asked. -/
theorem canonL_words' {zss : List (List Int)} (h : Words8 zss) : Words8 (canonL zss) := by
  refine ⟨?_, fun k => ?_⟩
  · have h1 := baseL_len_take zss zss.length
    rw [List.take_of_length_le (Nat.le_refl _), ← canonL_len] at h1
    have := h.1
    omega
  · refine getD_all' (P := fun x => Bytes8 x ∧ x.length ≤ 1000000) (fun x hx => ?_) ⟨(fun z hz => by cases hz), by simp⟩ k
    obtain ⟨_, y, hy, rfl⟩ := canonL_mem hx
    obtain ⟨i, hi, e⟩ := List.mem_iff_getElem.1 hy
    have h2 := h.2 i
    rw [List.getD_eq_getElem?_getD, List.getElem?_eq_getElem hi, Option.getD_some, e] at h2
    exact ⟨ofI_bytes h2.1, by rw [ofI_len]; exact h2.2⟩
end Go.Proofs.Ytjccpkekhjhafaa
