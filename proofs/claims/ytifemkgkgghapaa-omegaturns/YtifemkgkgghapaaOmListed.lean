/- Contract of omega.listed. -/
import Derived.Test.YtifemkgkgghapaaTurnMath
import Derived.Test.YtifemkgkgghapaaPr
import Derived.Test.YtifemkgkgghapaaSlss
namespace Go.Proofs.Ytifemkgkgghapaa
set_option linter.unusedVariables false
set_option linter.unusedSimpArgs false
open Go.RowKit

theorem Sls.word {w : World} {a : Option Addr} {n c : Nat} {zss : List (List Int)} (h : Sls w (.slice a n c) zss) {k : Nat} (hk : k < zss.length) :
    ∃ g off a2 c2, a = some ⟨g, off, .none⟩ ∧ w.cell? ⟨g, off + k, .none⟩ = some (.slice a2 (wordAt zss k).length c2) ∧ c2 ≤ maxLen ∧ (wordAt zss k).length ≤ c2 ∧ Sl .u8 w (.slice a2 (wordAt zss k).length c2) (wordAt zss k) := h.row hk

set_option maxHeartbeats 1000000 in
theorem listed_any (v : Value) (zss : List (List Int)) (w : World) (hs : Sls w v zss) (hlen : zss.length ≤ 100000) (htot : offP zss zss.length ≤ 100000) :
    Calls Try.prog 20 #[v] w fun e w' => ∃ s, e = .returned s ∧ OwnP w.heap.size w' s (listP zss) ∧ Ext w w' := by
  have HS := hide' hs
  obtain ⟨a, c, rfl, _⟩ := hs
  have OM : Hid (∀ k, k ≤ zss.length → offP zss k ≤ 100000) := fun k hk => Nat.le_trans (offP_mono zss hk) htot
  have OS : Hid (∀ k, offP zss (k + 1) = offP zss k + (wordAt zss k).length) := offP_succ zss
  obtain ⟨n, HN⟩ : ∃ n, Hid (zss.length = n) := ⟨_, rfl⟩
  rw [HN.out] at HS hlen htot OM ⊢
  go_enter Try.func20, Try.ntmps20
  go_wp2
  go_loop [3, 12] (fun vt vi => ∃ (i t : Nat), i ≤ n ∧ t ≤ 100000 ∧ vi = .int .i64 i ∧ vt = .int .i64 t ∧ Hid (offP zss i = t)) (fun _ vi => n - (intOf vi).toNat)
  case atStart => exact ⟨0, 0, Nat.zero_le _, Nat.zero_le _, rfl, rfl, rfl⟩
  case round =>
    obtain ⟨i, t, hi, ht, rfl, rfl, HT⟩ := hrel
    by_cases hlt : i < n
    · have hlt' : (i : Int) < n := by omega
      obtain ⟨g, off, a2, c2, rfl, hc, hm1, hm2, _⟩ := HS.out.word (k := i) (by rw [HN.out]; exact hlt)
      unfold maxLen at hm1
      have hsum := OM.out (i + 1) (by omega)
      rw [OS.out, HT.out] at hsum
      have HT2 : Hid (offP zss (i + 1) = t + (wordAt zss i).length) := by show _ = _; rw [OS.out, HT.out]
      generalize (wordAt zss i).length = m at *
      go_wp2
      go_round
      case rel => exact ⟨i + 1, t + m, by omega, by omega, by go_num, by go_num, HT2⟩
      case measure => simp [intOf]; omega
    · have hlt' : decide ((i : Int) < n) = false := by simp; omega
      have hin : i = n := by omega
      subst hin
      obtain ⟨w1, hmk, ho, he⟩ := make_room w t (by omega)
      have HO : Hid (OwnP w.heap.size w1 (.slice (some ⟨w.heap.size, 0, none⟩) 0 t) (listK zss 0)) := ho
      have HE := hide' he
      clear ho he
      go_wp2
      clear hmk
      go_loopw [6, 25] (fun sv vi wr => ∃ (k : Nat), k ≤ i ∧ vi = .int .i64 k ∧ Hid (OwnP w.heap.size wr sv (listK zss k)) ∧ Hid (Ext w wr)) (fun _ vi _ => i - (intOf vi).toNat)
      case atStart => exact ⟨0, Nat.zero_le _, rfl, HO, HE⟩
      case round =>
        clear HO HE
        obtain ⟨k, hk, rfl, HO, HE⟩ := hrel
        by_cases hlt2 : k < i
        · have hlt2' : (k : Int) < i := by omega
          obtain ⟨g, off, a2, c2, rfl, hc, hm1, hm2, _⟩ := (HS.out.ext HE.out).word (k := k) (by rw [HN.out]; exact hlt2)
          unfold maxLen at hm1
          have hsum := OM.out (k + 1) (by omega)
          rw [OS.out] at hsum
          have HL : Hid ((listK zss k).length + (wordAt zss k).length ≤ 100000) := hsum
          have HR : Hid (listK zss (k + 1) = listK zss k ++ rowP k (wordAt zss k).length) := listK_succ zss k
          generalize (wordAt zss k).length = m at *
          have HO0 : Hid (OwnP w.heap.size wr u6 (listK zss k ++ rowP k 0)) := by show OwnP _ _ _ _; simpa [rowP] using HO.out
          go_wp2
          go_loopw [6, 32] (fun sv vj wr => ∃ (j : Nat), j ≤ m ∧ vj = .int .i64 j ∧ Hid (OwnP w.heap.size wr sv (listK zss k ++ rowP k j)) ∧ Hid (Ext w wr)) (fun _ vj _ => m - (intOf vj).toNat)
          case atStart => exact ⟨0, Nat.zero_le _, rfl, HO0, HE⟩
          case round =>
            clear HO0 HO HE hc
            obtain ⟨j, hj, rfl, HO, HE⟩ := hrel
            by_cases hlt3 : j < m
            · have hlt3' : (j : Int) < m := by omega
              have hll : (listK zss k ++ rowP k j).length + 1 ≤ 1000000 := by
                have := HL.out
                rw [List.length_append, rowP_len]; omega
              have HLL := hide' hll
              have hsz := HE.out.size
              clear hll
              go_wp2_with (at_builtin; refine wpList_snocP _ rfl _ _ rfl w.heap.size _ (listK zss k ++ rowP k j) (k, j) _ rfl rfl ?c4 (HO.out.ext (ext_alloc _ _)) HLL.out ?c5 ?_)
              case c4 => exact (Array.getElem?_eq_some_iff.1 (heap_alloc_top wr _)).2
              case c5 => exact Nat.le_trans hsz (ext_alloc _ _).size
              intro v1 w3 ho1 hb1
              have HO1 : Hid (OwnP w.heap.size w3 v1 (listK zss k ++ rowP k (j + 1))) := by show OwnP _ _ _ _; rw [rowP_succ]; exact ho1
              have HE1 := hide' (Below.trans (HE.out.trans (ext_alloc _ _)) hb1)
              clear ho1 hb1
              go_wp2
              go_roundw
              case rel => exact ⟨j + 1, by omega, by go_num, HO1, HE1⟩
              case measure => simp [intOf]; omega
            · have hlt3' : decide ((j : Int) < m) = false := by simp; omega
              have hjm : j = m := by omega
              subst hjm
              rw [← HR.out] at HO
              go_wp2
              go_roundw
              case rel => exact ⟨k + 1, by omega, by go_num, HO, HE⟩
              case measure => simp [intOf]; omega
        · have hlt2' : decide ((k : Int) < i) = false := by simp; omega
          have hki : k = i := by omega
          subst hki
          have HQ : Hid (listP zss = listK zss k) := by show _ = _; unfold listP; rw [HN.out]
          go_wp2
          go_ret
          exact ⟨_, rfl, by rw [HQ.out]; exact HO.out, HE.out⟩
end Go.Proofs.Ytifemkgkgghapaa
