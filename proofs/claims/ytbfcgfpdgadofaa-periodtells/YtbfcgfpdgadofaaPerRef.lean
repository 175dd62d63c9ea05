/- Contracts of the document's own Borders, Least and Root. -/
import Derived.Test.YtbfcgfpdgadofaaPerOps
namespace Go.Proofs.Ytbfcgfpdgadofaa
set_option linter.unusedVariables false
set_option linter.unusedSimpArgs false
open Go.RowKit

theorem Sl.strN {P : Program} {w : World} {v : Value} {zs : List Int} (h : Sl .u8 w v zs) (src e dst : TypeId) (hs : P.underlying src = some (.slice e)) (he : P.underlying e = some (.int .u8)) (hd : P.underlying dst = some .string) :
    ∀ m, (convert src dst v).run P (w.drewN m) = .ok (.string (strOfNums zs)) (w.drewN m) := fun m => (h.drewN m).str src e dst hs he hd

/-- All longer ones are none. -/
def Down (s : List Int) (n k : Nat) : Prop := ∀ j, k < j → j < n → ¬ Per s n (n - j)
theorem Down.found {s : List Int} {n k : Nat} (hn : n ≤ s.length) (hk : k < n) (h : Down s n k) (hp : Per s n (n - k)) : borI s n = k := by
  refine borI_eq hn ⟨⟨hk, hp⟩, fun j hj => ?_⟩
  by_cases hkj : k < j
  · exact absurd hj.2 (h j hkj hj.1)
  · omega
theorem Down.next {s : List Int} {n k : Nat} (h : Down s n (k + 1)) (hp : ¬ Per s n (n - (k + 1))) : Down s n k := by
  intro j hj hn
  by_cases hjk : j = k + 1
  · subst hjk; exact hp
  · exact h j (by omega) hn
theorem borsL_snoc {s : List Int} {n : Nat} (hn : n < s.length) : (borsL s).take (n + 1) = (borsL s).take n ++ [(borI s (n + 1) : Int)] := by
  rw [List.take_add_one]
  congr 1
  have h := borsL_at hn
  rw [List.getD_eq_getElem?_getD, List.getElem?_eq_getElem (by rw [borsL_len]; exact hn)] at h
  rw [List.getElem?_eq_getElem (by rw [borsL_len]; exact hn)]
  simp at h ⊢
  exact h

set_option maxHeartbeats 800000 in
theorem rborders_any (v : Value) (zs : List Int) (w : World) (hs : Sl .u8 w v zs) (hb : Bytes8 zs) (hlen : zs.length ≤ 1000000) :
    Calls Try.prog 12 #[v] w fun e w' => ∃ s, e = .returned s ∧ Own .i64 3 w.heap.size w' s (borsL zs) ∧ Ext w w' := by
  have HS := hide' hs
  have HB := hide' hb
  obtain ⟨a, c, rfl, h2, h3, _⟩ := hs
  unfold maxLen at h3
  clear hb
  obtain ⟨L, hL⟩ : ∃ n, zs.length = n := ⟨_, rfl⟩
  have HL := hide' hL
  rw [hL] at HS h2 hlen ⊢
  clear hL
  go_enter Try.func12, Try.ntmps12
  go_wp2
  go_loopw [3, 4] (fun vo vn wr => ∃ (n : Nat), n ≤ L ∧ vn = .int .i64 ((n : Int) + 1) ∧ Hid (Own .i64 3 w.heap.size wr vo ((borsL zs).take n)) ∧ Hid (Ext w wr)) (fun _ vn _ => L + 1 - (intOf vn).toNat)
  case atStart => exact ⟨0, Nat.zero_le _, rfl, Own.nil _ _ _ _, Ext.refl _⟩
  case round =>
    obtain ⟨n, hn, rfl, HO, HE⟩ := hrel
    by_cases hlt : n < L
    · have hlt' : (n : Int) + 1 ≤ L := by omega
      have HSr := hide' (HS.out.ext HE.out)
      go_wp2
      go_loopw [5] (fun vk wk => ∃ (k : Nat), k < n + 1 ∧ vk = .int .i64 k ∧ Hid (Down zs (n + 1) k) ∧ ∃ m, wk = wr.drewN m) (fun vk _ => (intOf vk).toNat)
      case atStart => exact ⟨n, by omega, rfl, (show Down _ _ _ from fun j h1 h2 => by omega), 0, rfl⟩
      case round =>
        obtain ⟨k, hk, rfl, HD, m, rfl⟩ := hrel
        obtain ⟨t1, s1⟩ := HSr.out.runTake (P := Try.prog) 22 5 Try.underlying22 size8 k (by rw [HL.out]; omega)
        obtain ⟨a2, t2, s2⟩ := HSr.out.runCut (P := Try.prog) 22 5 Try.underlying22 size8 (n + 1 - k) (n + 1) (by omega) (by rw [HL.out]; omega)
        have hsub : (n : Int) + 1 - (k : Int) = ((n + 1 - k : Nat) : Int) := by omega
        have hq1 := s1.strN (P := Try.prog) 22 5 9 Try.underlying22 Try.underlying5 Try.underlying9
        have hq2 := s2.strN (P := Try.prog) 22 5 9 Try.underlying22 Try.underlying5 Try.underlying9
        have hE0 := strOfNums_inj (xs := zs.take k) (ys := (zs.take (n + 1)).drop (n + 1 - k)) (HB.out.takeN k) ((HB.out.takeN (n + 1)).drop _)
        have hI := bord_iff (s := zs) (n := n + 1) (k := k) (by omega) (by rw [HL.out]; omega)
        clear s1 s2
        obtain ⟨J, hJ⟩ : ∃ j, n + 1 - k = j := ⟨_, rfl⟩
        rw [hJ] at hsub t2 hq2 hE0 hI
        obtain ⟨d2, hd2⟩ : ∃ j, n + 1 - J = j := ⟨_, rfl⟩
        rw [hd2] at t2 hq2
        obtain ⟨d3, hd3⟩ : ∃ j, c - J = j := ⟨_, rfl⟩
        rw [hd3] at t2 hq2
        obtain ⟨X, hX⟩ : ∃ x, zs.take k = x := ⟨_, rfl⟩
        obtain ⟨Y, hY⟩ : ∃ x, (zs.take (n + 1)).drop J = x := ⟨_, rfl⟩
        rw [hX] at hq1 hE0 hI
        rw [hY] at hq2 hE0 hI
        have t2' : ∀ W, (Instr.slice 22 (.slice a L c) (some (.int .i64 (J : Int))) (some (.int .i64 ((n : Int) + 1))) none).run Try.prog W = .ok (.slice a2 d2 d3) W := t2
        by_cases hxy : X = Y
        · have hE : ((strOfNums X).toList == (strOfNums Y).toList) = true := by rw [hE0, decide_eq_true hxy]
          have HF : Hid (borI zs (n + 1) = k) := HD.out.found (by rw [HL.out]; omega) hk (by rw [hJ]; exact hI.1 hxy)
          have HSN := hide' (borsL_snoc (s := zs) (n := n) (by rw [HL.out]; omega))
          rw [HF.out] at HSN
          have hol : ((borsL zs).take n).length ≤ 1000000 := by rw [List.length_take]; omega
          clear hE0 hI hX hY hxy hd2 hd3 hJ t2
          go_wp2_with fail
          go_quiet (fail)
          clear t1 t2' hq1 hq2 hE
          have hsz := HE.out.size
          go_wp2_with (at_builtin; refine wpList_snoc _ rfl _ _ 26 rfl 3 .i64 8 Try.underlying26 infoI64 w.heap.size _ ((borsL zs).take n) (k : Int) ⟨wr.heap.size, 0, none⟩ rfl rfl ?c4 ((HO.out.ext (Ext.drewN _ _)).alloc _) ?c3 ?c5 ?_)
          case c4 => simp [World.cell?, World.alloc]
          case c3 => unfold maxLen; omega
          case c5 => simp; omega
          intro v1 w1 ho1 hb1
          rw [← HSN.out] at ho1
          have HO1 := hide' ho1
          have HE1 : Hid (Ext w w1) := Below.trans ((HE.out.trans (Ext.drewN _ _)).trans (ext_alloc _ _)) hb1
          clear ho1 hb1
          go_wp2
          go_roundw
          case rel => exact ⟨n + 1, by omega, by go_num, HO1, HE1⟩
          case measure => simp [intOf]; omega
        · have hE : ((strOfNums X).toList == (strOfNums Y).toList) = false := by rw [hE0, decide_eq_false hxy]
          have hk0 : k ≠ 0 := by
            intro h
            refine hxy ?_
            rw [← hX, ← hY, h]
            have : J = n + 1 := by omega
            rw [this]
            simp
          have HD2 : Hid (Down zs (n + 1) (k - 1)) := by
            obtain ⟨k, rfl⟩ : ∃ j, k = j + 1 := ⟨k - 1, by omega⟩
            exact HD.out.next (fun h => hxy (hI.2 (by rwa [hJ] at h)))
          have hk1 : (k : Int) - 1 = ((k - 1 : Nat) : Int) := by omega
          clear hE0 hI hX hY hxy hd2 hd3 hJ t2
          go_wp2_with fail
          go_quiet (fail)
          clear t1 t2' hq1 hq2 hE
          go_wp2
          go_roundw
          case rel => exact ⟨k - 1, by omega, by go_num, HD2, _, rfl⟩
          case measure => simp [intOf]; omega
    · have hlt' : decide ((n : Int) + 1 ≤ L) = false := by simp; omega
      have he : (borsL zs).take n = borsL zs := List.take_of_length_le (by rw [borsL_len, HL.out]; omega)
      rw [he] at HO
      clear he
      go_wp2
      go_ret
      exact ⟨_, rfl, HO.out, HE.out⟩
end Go.Proofs.Ytbfcgfpdgadofaa
