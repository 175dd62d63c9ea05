/- What sorters answer: a row and an error's number; bytes as numbers; rows of bytes made. No conditions. -/
import Derived.Test.YtmojnliljaefbaaOrdMore
import Derived.Test.YtmojnliljaefbaaPermMath
import Derived.Test.YtmojnliljaefbaaRepMath
import Derived.Test.YtmojnliljaefbaaByt
namespace Go.Proofs.Ytmojnliljaefbaa
set_option linter.unusedVariables false
set_option linter.unusedSimpArgs false
open Go.RowKit

/-- What is answered: a row and an error's number. -/
def ResI (s : List Int) (k : Int) (L : List Int) (c : Int) : Prop :=
  (100000 < s.length ∧ L = [] ∧ c = 2) ∨ (s.length ≤ 100000 ∧ fitB s k = false ∧ L = [] ∧ c = 1) ∨ (s.length ≤ 100000 ∧ fitB s k = true ∧ c = 0 ∧ ∃ R, InOrd s R ∧ L = natL R)
theorem ResI.eq {s L L' : List Int} {k c c' : Int} (h : ResI s k L c) (h' : ResI s k L' c') : L = L' ∧ c = c' := by
  rcases h with ⟨h1, h2, h3⟩ | ⟨h1, h2, h3, h4⟩ | ⟨h1, h2, h3, R, h4, h5⟩ <;> rcases h' with ⟨g1, g2, g3⟩ | ⟨g1, g2, g3, g4⟩ | ⟨g1, g2, g3, R', g4, g5⟩
  · exact ⟨by rw [h2, g2], by rw [h3, g3]⟩
  · omega
  · omega
  · omega
  · exact ⟨by rw [h3, g3], by rw [h4, g4]⟩
  · rw [h2] at g2; cases g2
  · omega
  · rw [h2] at g2; cases g2
  · exact ⟨by rw [h5, g5, h4.eq g4], by rw [h3, g3]⟩
theorem ResI.ok {s L : List Int} {k c : Int} (h : ResI s k L c) (hl : s.length ≤ 100000) (hf : fitB s k = true) : c = 0 ∧ ∃ R, InOrd s R ∧ L = natL R := by
  rcases h with ⟨h1, h2, h3⟩ | ⟨h1, h2, h3, h4⟩ | ⟨h1, h2, h3, h4⟩
  · omega
  · rw [hf] at h2; cases h2
  · exact ⟨h3, h4⟩
theorem ResI.long {s L : List Int} {k c : Int} (h : ResI s k L c) (hl : 100000 < s.length) : c = 2 ∧ L = [] := by
  rcases h with ⟨h1, h2, h3⟩ | ⟨h1, h2, h3, h4⟩ | ⟨h1, h2, h3, h4⟩
  · exact ⟨h3, h2⟩
  · omega
  · omega
theorem ResI.len {s L : List Int} {k c : Int} (h : ResI s k L c) : L.length ≤ s.length := by
  rcases h with ⟨h1, h2, h3⟩ | ⟨h1, h2, h3, h4⟩ | ⟨h1, h2, h3, R, h4, h5⟩
  · rw [h2]; simp
  · rw [h3]; simp
  · rw [h5, natL_len, h4.len]; exact Nat.le_refl _

/-- A row of one kind as far as it is laid. -/
structure HalfI (zs : List Int) (i : Nat) (r : List Int) : Prop where
  len : r.length = zs.length
  at' : ∀ t, t < i → r.getD t 0 = zs.getD t 0
theorem HalfI.start (zs : List Int) : HalfI zs 0 (List.replicate zs.length 0) := ⟨List.length_replicate, fun t h => by omega⟩
theorem HalfI.next {zs r : List Int} {i : Nat} (h : HalfI zs i r) (hi : i < zs.length) : HalfI zs (i + 1) (r.set i (zs.getD i 0)) := by
  refine ⟨by rw [List.length_set]; exact h.len, fun t ht => ?_⟩
  by_cases e : t = i
  · subst e
    rw [setI_same (by rw [h.len]; exact hi)]
  · rw [setI_other (by omega)]
    exact h.at' t (by omega)
theorem HalfI.done {zs r : List Int} (h : HalfI zs zs.length r) : r = zs :=
  rowI_ext h.len fun i hi => h.at' i (by rw [h.len] at hi; exact hi)

theorem fit256 {zs : List Int} (h : Bytes8 zs) : fitB zs 256 = true := fitB_iff.2 ⟨by omega, by omega, goodI_iff.2 fun z hz => by have := h z hz; omega⟩

theorem Bytes8.rep {zs : List Int} (h : Bytes8 zs) (n : Nat) : Bytes8 (repI zs n) := by
  induction n with
  | zero => intro z hz; simp [repI] at hz
  | succ n ih => rw [repI_succ]; exact ih.app h

/-- 'make([]byte, n)' -/
theorem make_bytes (w : World) (n : Nat) (hn : n ≤ 4000000) : ∃ w', (Instr.makeSlice 22 (.int .i64 (n : Int)) (.int .i64 (n : Int))).run Try.prog w = .ok (.slice (some ⟨w.heap.size, 0, none⟩) n n) w' ∧ Own .u8 5 w.heap.size w' (.slice (some ⟨w.heap.size, 0, none⟩) n n) (List.replicate n 0) ∧ Ext w w' := by
  obtain ⟨i0, hi, hz0, hz1, hz2⟩ := info_parts infoU8
  obtain ⟨w', h1, h2, h3⟩ := run_make_full (P := Try.prog) w w.heap.size 22 5 i0 (.int .u8 0) 1 Try.underlying22 hi hz0 hz1 .i64 .i64 n (by rw [hz2]; omega) (by unfold maxLen; omega) (Nat.le_refl _)
  refine ⟨w', h1, ?_, ⟨h3.os, h3.tape, h3.output, h3.size, fun k hk => h3.block k hk (by simp)⟩⟩
  unfold Own
  have e1 : (Value.int .u8 0).cells = #[Value.int .u8 0] := rfl
  rw [e1, Nat.mul_one, toList_madeCells_one] at h2
  simpa using h2
theorem zero_bytes (n : Nat) : Bytes8 (List.replicate n 0) := fun z hz => by
  rw [(List.mem_replicate.1 hz).2]
  omega

/-- Spread apart. -/
def sprI (b m : Int) (s : List Int) : List Int := s.map fun z => z * b + m
theorem sprI_len (b m : Int) (s : List Int) : (sprI b m s).length = s.length := List.length_map _
theorem sprI_snoc (b m : Int) {s : List Int} {i : Nat} (h : i < s.length) : sprI b m (s.take (i + 1)) = sprI b m (s.take i) ++ [s.getD i 0 * b + m] := by
  unfold sprI
  rw [takeI_succ h, List.map_append]
  rfl
theorem sprI_fit {b m : Int} {s : List Int} (hs : ∀ i, i < s.length → 0 ≤ s.getD i 0 ∧ s.getD i 0 ≤ 200) (hb0 : 1 ≤ b) (hb1 : b ≤ 9) (hm0 : 0 ≤ m) (hm1 : m ≤ 9) : fitB (sprI b m s) (200 * b + m + 1) = true := by
  refine fitB_iff.2 ⟨by omega, by omega, goodI_iff.2 fun z hz => ?_⟩
  obtain ⟨x, hx, rfl⟩ := List.mem_map.1 hz
  obtain ⟨i, hi, rfl⟩ := List.getElem_of_mem hx
  have h1 := hs i hi
  rw [show s.getD i 0 = s[i] by simp [List.getD, hi]] at h1
  have h2 := spread_in h1.1 h1.2 hb0 hb1
  omega
theorem plain_fit {s : List Int} (hs : ∀ i, i < s.length → 0 ≤ s.getD i 0 ∧ s.getD i 0 ≤ 200) : fitB s 201 = true :=
  fitB_iff.2 ⟨by omega, by omega, goodI_of fun j hj => by have := hs j hj; omega⟩
theorem banana_ord : InOrd [98, 97, 110, 97, 110, 97] [5, 3, 1, 0, 4, 2] := by
  refine ⟨by decide, ?_⟩
  show List.Pairwise (fun a b => cmpI (([98, 97, 110, 97, 110, 97] : List Int).drop a) (([98, 97, 110, 97, 110, 97] : List Int).drop b) < 0) [5, 3, 1, 0, 4, 2]
  decide
theorem banana_bytes : Bytes8 [98, 97, 110, 97, 110, 97] := by
  intro z hz
  simp only [List.mem_cons, List.not_mem_nil, or_false] at hz
  omega
end Go.Proofs.Ytmojnliljaefbaa
