/- KindsEnds: the walk. -/
import Derived.Test.YtjlekbmjjcompaaKinKnown
namespace Go.Proofs.Ytjlekbmjjcompaa
set_option linter.unusedVariables false
set_option linter.unusedSimpArgs false
open Go.RowKit

/-- So many numbers that rise. -/
def upI (f : Int) (k : Nat) : List Int := (List.range k).map fun (j : Nat) => f + (j : Int)
/-- So many numbers that fall. -/
def dnI (f : Int) (k : Nat) : List Int := (List.range k).map fun (j : Nat) => f - (j : Int)
theorem upI_len (f : Int) (k : Nat) : (upI f k).length = k := by simp [upI]
theorem dnI_len (f : Int) (k : Nat) : (dnI f k).length = k := by simp [dnI]
theorem upI_at {f : Int} {k i : Nat} (h : i < k) : (upI f k).getD i 0 = f + i := by simp [upI, List.getD, h]
theorem dnI_at {f : Int} {k i : Nat} (h : i < k) : (dnI f k).getD i 0 = f - i := by simp [dnI, List.getD, h]
theorem upI_succ (f : Int) (k : Nat) : upI f k ++ [f + (k : Int)] = upI f (k + 1) := by simp [upI, List.range_succ]
theorem dnI_succ (f : Int) (k : Nat) : dnI f k ++ [f - (k : Int)] = dnI f (k + 1) := by simp [dnI, List.range_succ]
theorem upI_rise (f : Int) (k : Nat) : ∀ i, i + 1 < (upI f k).length → (upI f k).getD i 0 < (upI f k).getD (i + 1) 0 := by
  intro i hi
  rw [upI_len] at hi
  rw [upI_at (by omega), upI_at hi]
  omega
theorem dnI_fall (f : Int) (k : Nat) : ∀ i, i + 1 < (dnI f k).length → (dnI f k).getD (i + 1) 0 < (dnI f k).getD i 0 := by
  intro i hi
  rw [dnI_len] at hi
  rw [dnI_at hi, dnI_at (by omega)]
  omega
theorem upI_small {f : Int} {k i : Nat} (h : i + 1 < k) : smB (upI f k) i = true := by
  rw [smB_rise (upI_rise f k), upI_len]
  exact decide_eq_true h
theorem dnI_small {f : Int} {k i : Nat} (h : i + 1 < k) : smB (dnI f k) i = false := smB_fall (dnI_fall f k) i
theorem upI_first (f : Int) (k : Nat) : natL (firstN (upI f k)) = [] := by
  unfold firstN
  rw [firN_none (fsB_rise (upI_rise f k))]; rfl
theorem dnI_first (f : Int) (k : Nat) : natL (firstN (dnI f k)) = [] := by
  unfold firstN
  rw [firN_none (fsB_fall (dnI_fall f k))]; rfl

set_option maxHeartbeats 2000000 in
theorem endsUp (n : Nat) (f : Int) (w : World) (hn1 : 1 ≤ n) (hn2 : n ≤ 100) (hf1 : -1099511627776 ≤ f) (hf2 : f ≤ 1099511627776) :
    Calls Try.prog 6 #[.int .i64 (n : Int), .int .i64 f, .bool true] w fun e w' => e = .returned (.bool true) ∧ Ext w w' := by
  have d1 : decide ((n : Int) < 1) = false := by simp; omega
  have d1n : decide (n < 1) = false := by simp; omega
  have d2 : decide ((100 : Int) < (n : Int)) = false := by simp; omega
  have d3 : decide (f < -1099511627776) = false := by simp; omega
  have d4 : decide (1099511627776 < f) = false := by simp; omega
  go_enter Try.func6, Try.ntmps6
  go_wp2
  go_loopw [7, 8] (fun sv vi wr => ∃ (i : Nat), i ≤ n ∧ vi = .int .i64 i ∧ Hid (Own .i64 3 w.heap.size wr sv (upI f i)) ∧ Hid (Ext w wr)) (fun _ vi _ => n - (intOf vi).toNat)
  case atStart => exact ⟨0, Nat.zero_le _, rfl, Own.nil _ _ _ _, Ext.refl _⟩
  case round =>
    obtain ⟨i, hi, rfl, HO, HE⟩ := hrel
    have hsz := HE.out.size
    by_cases hlt : i < n
    · have hlt' : (i : Int) < n := by omega
      have hw1 : IntKind.i64.wrap (f + (i : Int)) = f + (i : Int) := by rw [IntKind.wrap_i64]; omega
      have HX := hide' (upI_succ f i)
      have HLL := hide' (upI_len f i)
      go_wp2_with (at_builtin; refine wpList_snoc _ rfl _ _ 22 rfl 3 .i64 8 Try.underlying22 infoI64 w.heap.size _ (upI f i) (f + (i : Int)) ⟨wr.heap.size, 0, none⟩ rfl rfl ?c4 (HO.out.alloc _) ?c3 ?c5 ?_)
      case c3 => rw [HLL.out]; unfold maxLen; omega
      case c5 => simp; omega
      case c4 => simp only [World.cell?, heap_alloc_top]; simp
      intro v1 w2 ho1 hb1
      have HO1 : Hid (Own .i64 3 w.heap.size w2 v1 (upI f (i + 1))) := by rw [← HX.out]; exact ho1
      have HE1 : Hid (Ext w w2) := Below.trans (HE.out.trans (ext_alloc _ _)) hb1
      clear ho1 hb1
      go_wp2
      go_roundw
      case rel => exact ⟨i + 1, by omega, by go_num, HO1, HE1⟩
      case measure => simp [intOf]; omega
    · have hlt' : decide ((i : Int) < n) = false := by simp; omega
      have hin : i = n := by omega
      subst hin
      have HS := hide' HO.out.sl
      have HLL := hide' (upI_len f i)
      have HL1 : Hid ((upI f i).length ≤ 1000000) := by show _ ≤ _; rw [HLL.out]; omega
      have HL4 : Hid ((upI f i).length ≤ 4000000) := by show _ ≤ _; rw [HLL.out]; omega
      have HSL : Hid ((smallI (upI f i)).length = i) := by show _ = _; rw [smallI_len, HLL.out]
      have HBT : Hid (∀ j, j < i → (smallI (upI f i)).getD j false = smB (upI f i) j) := fun j hj => smallI_at (by rw [HLL.out]; exact hj)
      have HLA : Hid (∀ j, i ≤ j + 1 → smB (upI f i) j = false) := fun j hj => smB_last (by rw [HLL.out]; exact hj)
      have HSM : Hid (∀ j, j + 1 < i → smB (upI f i) j = true) := fun j hj => upI_small hj
      have HFI := hide' (upI_first f i)
      generalize upI f i = Z at *
      clear HO
      go_wp2_with fail
      refine (small_any _ Z wr HS.out HL4.out).mono ?_
      rintro e w1 ⟨s1, rfl, ho, he⟩
      have O1 := hide' ho.sl
      have X1 := hide' (HE.out.trans he)
      have HS1 := hide' (HS.out.ext he)
      clear ho he HE HS
      obtain ⟨a1, c1, rfl, _⟩ := O1.out
      rw [HSL.out] at O1 ⊢
      obtain ⟨_, _, _, hc1⟩ := O1.out.truth
      obtain ⟨g1, o1, rfl, k1⟩ := hc1 (by omega)
      have K1 : Hid (∀ j, j < i → w1.cell? ⟨g1, o1 + j, none⟩ = some (.bool (smB Z j))) := fun j hj => by rw [k1 j hj, HBT.out j hj]
      clear k1 hc1 O1
      obtain ⟨t, HT⟩ : ∃ t, Hid (i = t + 1) := ⟨i - 1, by show _ = _; omega⟩
      have ht2 : (i : Int) - 1 = (t : Int) := by have := HT.out; omega
      have ht3 : (t : Int) < (i : Int) := by omega
      have ht5 : t < i := by omega
      have hl := K1.out t ht5
      rw [HLA.out t (by have := HT.out; omega)] at hl
      go_wp2
      clear hl
      go_loopw [10] (fun vj wq => ∃ (j : Nat), j < i ∧ vj = .int .i64 j ∧ wq = w1) (fun vj _ => i - (intOf vj).toNat)
      case atStart => exact ⟨0, by omega, rfl, rfl⟩
      case round =>
        obtain ⟨j, hj, rfl, rfl⟩ := hrel
        by_cases hjt : j + 1 < i
        · have hj1 : (j : Int) < (i : Int) := by omega
          have hj2 : (j : Int) + 1 < (i : Int) := by omega
          have q1 := K1.out j hj
          rw [HSM.out j hjt] at q1
          go_wp2
          go_roundw
          case rel => exact ⟨j + 1, hjt, by go_num, by first | exact trivial | rfl⟩
          case measure => simp [intOf]; omega
        · have hj1 : decide ((j : Int) + 1 < (i : Int)) = false := by simp; omega
          have hj2 : decide (j + 1 < i) = false := by simp; omega
          go_wp2_with fail
          refine (first_any _ Z _ HS1.out HL1.out).mono ?_
          rw [HFI.out]
          rintro e w3 ⟨s3, rfl, ho, he⟩
          have X3 := hide' (X1.out.trans he)
          obtain ⟨a3, c3, rfl, _⟩ := ho.sl
          clear ho he
          go_wp2_with fail
          refine (known_any w3).mono ?_
          rintro e w7 ⟨rfl, he⟩
          have X7 := hide' (X3.out.trans he)
          clear he
          go_wp2
          go_ret
          exact ⟨rfl, X7.out⟩

set_option maxHeartbeats 2000000 in
theorem endsDown (n : Nat) (f : Int) (w : World) (hn1 : 1 ≤ n) (hn2 : n ≤ 100) (hf1 : -1099511627776 ≤ f) (hf2 : f ≤ 1099511627776) :
    Calls Try.prog 6 #[.int .i64 (n : Int), .int .i64 f, .bool false] w fun e w' => e = .returned (.bool true) ∧ Ext w w' := by
  have d1 : decide ((n : Int) < 1) = false := by simp; omega
  have d1n : decide (n < 1) = false := by simp; omega
  have d2 : decide ((100 : Int) < (n : Int)) = false := by simp; omega
  have d3 : decide (f < -1099511627776) = false := by simp; omega
  have d4 : decide (1099511627776 < f) = false := by simp; omega
  go_enter Try.func6, Try.ntmps6
  go_wp2
  go_loopw [7, 8] (fun sv vi wr => ∃ (i : Nat), i ≤ n ∧ vi = .int .i64 i ∧ Hid (Own .i64 3 w.heap.size wr sv (dnI f i)) ∧ Hid (Ext w wr)) (fun _ vi _ => n - (intOf vi).toNat)
  case atStart => exact ⟨0, Nat.zero_le _, rfl, Own.nil _ _ _ _, Ext.refl _⟩
  case round =>
    obtain ⟨i, hi, rfl, HO, HE⟩ := hrel
    have hsz := HE.out.size
    by_cases hlt : i < n
    · have hlt' : (i : Int) < n := by omega
      have hw1 : IntKind.i64.wrap (f - (i : Int)) = f - (i : Int) := by rw [IntKind.wrap_i64]; omega
      have HX := hide' (dnI_succ f i)
      have HLL := hide' (dnI_len f i)
      go_wp2_with (at_builtin; refine wpList_snoc _ rfl _ _ 22 rfl 3 .i64 8 Try.underlying22 infoI64 w.heap.size _ (dnI f i) (f - (i : Int)) ⟨wr.heap.size, 0, none⟩ rfl rfl ?c4 (HO.out.alloc _) ?c3 ?c5 ?_)
      case c3 => rw [HLL.out]; unfold maxLen; omega
      case c5 => simp; omega
      case c4 => simp only [World.cell?, heap_alloc_top]; simp
      intro v1 w2 ho1 hb1
      have HO1 : Hid (Own .i64 3 w.heap.size w2 v1 (dnI f (i + 1))) := by rw [← HX.out]; exact ho1
      have HE1 : Hid (Ext w w2) := Below.trans (HE.out.trans (ext_alloc _ _)) hb1
      clear ho1 hb1
      go_wp2
      go_roundw
      case rel => exact ⟨i + 1, by omega, by go_num, HO1, HE1⟩
      case measure => simp [intOf]; omega
    · have hlt' : decide ((i : Int) < n) = false := by simp; omega
      have hin : i = n := by omega
      subst hin
      have HS := hide' HO.out.sl
      have HLL := hide' (dnI_len f i)
      have HL1 : Hid ((dnI f i).length ≤ 1000000) := by show _ ≤ _; rw [HLL.out]; omega
      have HL4 : Hid ((dnI f i).length ≤ 4000000) := by show _ ≤ _; rw [HLL.out]; omega
      have HSL : Hid ((smallI (dnI f i)).length = i) := by show _ = _; rw [smallI_len, HLL.out]
      have HBT : Hid (∀ j, j < i → (smallI (dnI f i)).getD j false = smB (dnI f i) j) := fun j hj => smallI_at (by rw [HLL.out]; exact hj)
      have HLA : Hid (∀ j, i ≤ j + 1 → smB (dnI f i) j = false) := fun j hj => smB_last (by rw [HLL.out]; exact hj)
      have HSM : Hid (∀ j, j + 1 < i → smB (dnI f i) j = false) := fun j hj => dnI_small hj
      have HFI := hide' (dnI_first f i)
      generalize dnI f i = Z at *
      clear HO
      go_wp2_with fail
      refine (small_any _ Z wr HS.out HL4.out).mono ?_
      rintro e w1 ⟨s1, rfl, ho, he⟩
      have O1 := hide' ho.sl
      have X1 := hide' (HE.out.trans he)
      have HS1 := hide' (HS.out.ext he)
      clear ho he HE HS
      obtain ⟨a1, c1, rfl, _⟩ := O1.out
      rw [HSL.out] at O1 ⊢
      obtain ⟨_, _, _, hc1⟩ := O1.out.truth
      obtain ⟨g1, o1, rfl, k1⟩ := hc1 (by omega)
      have K1 : Hid (∀ j, j < i → w1.cell? ⟨g1, o1 + j, none⟩ = some (.bool (smB Z j))) := fun j hj => by rw [k1 j hj, HBT.out j hj]
      clear k1 hc1 O1
      obtain ⟨t, HT⟩ : ∃ t, Hid (i = t + 1) := ⟨i - 1, by show _ = _; omega⟩
      have ht2 : (i : Int) - 1 = (t : Int) := by have := HT.out; omega
      have ht3 : (t : Int) < (i : Int) := by omega
      have ht5 : t < i := by omega
      have hl := K1.out t ht5
      rw [HLA.out t (by have := HT.out; omega)] at hl
      go_wp2
      clear hl
      go_loopw [10] (fun vj wq => ∃ (j : Nat), j < i ∧ vj = .int .i64 j ∧ wq = w1) (fun vj _ => i - (intOf vj).toNat)
      case atStart => exact ⟨0, by omega, rfl, rfl⟩
      case round =>
        obtain ⟨j, hj, rfl, rfl⟩ := hrel
        by_cases hjt : j + 1 < i
        · have hj1 : (j : Int) < (i : Int) := by omega
          have hj2 : (j : Int) + 1 < (i : Int) := by omega
          have q1 := K1.out j hj
          rw [HSM.out j hjt] at q1
          go_wp2
          go_roundw
          case rel => exact ⟨j + 1, hjt, by go_num, by first | exact trivial | rfl⟩
          case measure => simp [intOf]; omega
        · have hj1 : decide ((j : Int) + 1 < (i : Int)) = false := by simp; omega
          have hj2 : decide (j + 1 < i) = false := by simp; omega
          go_wp2_with fail
          refine (first_any _ Z _ HS1.out HL1.out).mono ?_
          rw [HFI.out]
          rintro e w3 ⟨s3, rfl, ho, he⟩
          have X3 := hide' (X1.out.trans he)
          obtain ⟨a3, c3, rfl, _⟩ := ho.sl
          clear ho he
          go_wp2_with fail
          refine (known_any w3).mono ?_
          rintro e w7 ⟨rfl, he⟩
          have X7 := hide' (X3.out.trans he)
          clear he
          go_wp2
          go_ret
          exact ⟨rfl, X7.out⟩

set_option maxHeartbeats 1000000 in
theorem lawEnds (n f : Int) (up : Bool) (w : World) :
    Calls Try.prog 6 #[.int .i64 n, .int .i64 f, .bool up] w fun e w' => e = .returned (.bool true) ∧ Ext w w' := by
  by_cases h1 : n < 1
  · go_enter Try.func6, Try.ntmps6
    go_wp2
    go_ret
    exact ⟨rfl, Ext.refl _⟩
  have d1 : decide (n < 1) = false := by simp; omega
  by_cases h2 : 100 < n
  · go_enter Try.func6, Try.ntmps6
    go_wp2
    go_ret
    exact ⟨rfl, Ext.refl _⟩
  have d2 : decide (100 < n) = false := by simp; omega
  by_cases h3 : f < -1099511627776
  · go_enter Try.func6, Try.ntmps6
    go_wp2
    go_ret
    exact ⟨rfl, Ext.refl _⟩
  have d3 : decide (f < -1099511627776) = false := by simp; omega
  by_cases h4 : 1099511627776 < f
  · go_enter Try.func6, Try.ntmps6
    go_wp2
    go_ret
    exact ⟨rfl, Ext.refl _⟩
  obtain ⟨m, rfl⟩ := Int.eq_ofNat_of_zero_le (show 0 ≤ n by omega)
  cases up
  · exact endsDown m f w (by omega) (by omega) (by omega) (by omega)
  · exact endsUp m f w (by omega) (by omega) (by omega) (by omega)
end Go.Proofs.Ytjlekbmjjcompaa
