/- whorllaw2's known answer, and the walks of CrcSums and CrcNext. -/
import Derived.Test.YtkeelcjfpnbfkaaCrcSum
import Derived.Lib.SlBytesConst
namespace Go.Proofs.Ytkeelcjfpnbfkaa
set_option linter.unusedVariables false
set_option linter.unusedSimpArgs false
open Go.RowKit

theorem Sls.one {w : World} {s : Value} {zs : List Int} {e : TypeId} (h : Sl .u8 w s zs) (g : Nat) (hg : g = w.heap.size) : Sls (w.alloc (.cells #[s] e)) (.slice (some ⟨g, 0, none⟩) 1 1) [zs] := by
  subst hg
  refine ⟨_, 1, rfl, by simp [maxLen], .inr ⟨w.heap.size, 0, rfl, fun i hi => ?_⟩⟩
  have he : Ext w (w.alloc (.cells #[s] e)) := (Below.refl _ _).alloc (Nat.le_refl _) _
  match i, hi with
  | 0, _ => exact ⟨s, by simp, h.ext he⟩
theorem Sls.two {w : World} {s u : Value} {zs ys : List Int} {e : TypeId} (h : Sl .u8 w s zs) (h' : Sl .u8 w u ys) (g : Nat) (hg : g = w.heap.size) : Sls (w.alloc (.cells #[s, u] e)) (.slice (some ⟨g, 0, none⟩) 2 2) [zs, ys] := by
  subst hg
  refine ⟨_, 2, rfl, by simp [maxLen], .inr ⟨w.heap.size, 0, rfl, fun i hi => ?_⟩⟩
  have he : Ext w (w.alloc (.cells #[s, u] e)) := (Below.refl _ _).alloc (Nat.le_refl _) _
  match i, hi with
  | 0, _ => exact ⟨s, by simp, h.ext he⟩
  | 1, _ => exact ⟨u, by simp, h'.ext he⟩
theorem Sls.none (w : World) : Sls w (.slice .none 0 0) [] := ⟨_, 0, rfl, by simp, .inl rfl⟩

theorem ext_alloc (w : World) (o : Obj) : Ext w (w.alloc o) := (Below.refl _ _).alloc (Nat.le_refl _) _

/-- From a world in which block b is new: all that was there is as it was. -/
theorem Ext.but {b : Nat} {w w1 w2 : World} (h : Ext w w1) (hb : w.heap.size ≤ b) (k : But b w1 w2) : Ext w w2 := Below.trans h (k.below hb h.size)

theorem heap_alloc_top (w : World) (o : Obj) : (w.alloc o).heap[w.heap.size]? = some o := heap_alloc_new w o

/-- A row just laid, whatever its mark, reads as its numbers. -/
theorem Sl.lit' {k : IntKind} {e : TypeId} {fr : Nat × Nat} (w : World) (zs : List Int) (n : Nat) (hn : zs.length = n) (hm : n ≤ maxLen) : Sl k (w.alloc (.cells (zs.map (Value.int k)).toArray e fr)) (.slice (some ⟨w.heap.size, 0, none⟩) n n) zs := by
  subst hn
  refine ⟨_, _, rfl, Nat.le_refl _, hm, (fun h => by cases h), .inr ⟨w.heap.size, 0, rfl, fun i hi => ?_⟩⟩
  simp only [World.cell?, heap_alloc_top]
  simp [hi]

def nine : List Int := [49, 50, 51, 52, 53, 54, 55, 56, 57]

set_option maxHeartbeats 800000 in
theorem known_any (w : World) : Calls Try.prog 11 #[] w fun e w' => e = .returned (.bool true) ∧ Ext w w' := by
  go_enter Try.func11, Try.ntmps11
  go_wp2_with fail
  refine (new_any w).mono ?_
  rintro e w1 ⟨rfl, hA, hE⟩
  have HA := hide' hA
  have HE := hide' hE
  clear hA hE
  go_wp2_with fail
  refine (runs_any w.heap.size _ 0 0 0 zeroL HA.out (by omega) (by omega)).mono ?_
  rintro e w2 ⟨rfl, rfl⟩
  have hcv := Go.Lib.run_convert_bytes_const (P := Try.prog) w2 22 5 #[.int .u8 49, .int .u8 50, .int .u8 51, .int .u8 52, .int .u8 53, .int .u8 54, .int .u8 55, .int .u8 56, .int .u8 57] 9 9 Try.underlying22 Try.underlying5
  simp only [List.size_toArray, List.length_cons, List.length_nil] at hcv
  go_wp2_with fail
  have HS := hide' (Sls.one (e := 22) (Sl.lit' (k := .u8) (e := 5) (fr := (9, 10)) w2 nine 9 rfl (by decide)) (w2.heap.size + 1) (by simp))
  have HX := hide' (HE.out.trans ((ext_alloc w2 (.cells (nine.map (Value.int .u8)).toArray 5 (9, 10))).trans (ext_alloc _ (.cells #[.slice (some ⟨w2.heap.size, 0, none⟩) 9 9] 22))))
  have HA2 := hide' (HA.out.ext ((ext_alloc w2 (.cells (nine.map (Value.int .u8)).toArray 5 (9, 10))).trans (ext_alloc _ (.cells #[.slice (some ⟨w2.heap.size, 0, none⟩) 9 9] 22))))
  refine (sum_any w.heap.size _ _ [nine] (.inl HA2.out) HS.out (by decide)).mono ?_
  rintro e w3 ⟨rfl, hA3, hB3⟩
  have HA3 := hide' hA3
  have HX3 := hide' (HX.out.but (Nat.le_refl _) hB3)
  clear hA3 hB3
  rw [show sumN [nine].flatten = 3421780262 from sum_known]
  go_wp2_with fail
  refine (runs_any w.heap.size _ 1 0 1 tabL HA3.out (by omega) (by omega)).mono ?_
  rintro e w4 ⟨rfl, rfl⟩
  go_wp2
  go_ret
  exact ⟨rfl, HX3.out⟩

set_option maxHeartbeats 800000 in
theorem lawSums (v : Value) (zs : List Int) (w : World) (hs : Sl .u8 w v zs) (hr : ∀ z ∈ zs, 0 ≤ z ∧ z ≤ 255) :
    Calls Try.prog 3 #[v] w fun e w' => e = .returned (.bool true) ∧ Ext w w' := by
  have HS := hide' hs
  have HR := hide' hr
  clear hr
  obtain ⟨a, c, rfl, hm2, hm3, _⟩ := hs
  unfold maxLen at hm3
  by_cases h0 : 2000 < zs.length
  · have h0' : (2000 : Int) < (zs.length : Int) := by omega
    go_enter Try.func3, Try.ntmps3
    go_wp2
    go_ret
    exact ⟨rfl, Ext.refl _⟩
  have h0' : (zs.length : Int) ≤ 2000 := by omega
  go_enter Try.func3, Try.ntmps3
  go_wp2_with fail
  refine (new_any w).mono ?_
  rintro e w1 ⟨rfl, hA, hE⟩
  have HA := hide' hA
  have HE := hide' hE
  clear hA hE
  go_wp2_with fail
  have HS1 := hide' (Sls.one (e := 22) (HS.out.ext HE.out) w1.heap.size rfl)
  refine (sum_any w.heap.size _ _ [zs] (.inl (HA.out.ext (ext_alloc _ _))) HS1.out (by simpa using HR.out)).mono ?_
  rintro e w2 ⟨rfl, hA2, hB2⟩
  have HX2 := hide' ((HE.out.trans (ext_alloc w1 _)).but (Nat.le_refl _) hB2)
  clear hA2 hB2
  rw [show sumN [zs].flatten = sumN zs by simp]
  go_wp2_with fail
  refine (rsum_any _ zs _ (HS.out.ext HX2.out) HR.out).mono ?_
  rintro e w3 ⟨rfl, rfl⟩
  have hq : ((sumN zs : Int) == (sumN zs : Int)) = true := by simp
  go_wp2_with fail
  refine (known_any _).mono ?_
  rintro e w4 ⟨rfl, hE4⟩
  go_wp2
  go_ret
  exact ⟨rfl, HX2.out.trans hE4⟩
end Go.Proofs.Ytkeelcjfpnbfkaa
