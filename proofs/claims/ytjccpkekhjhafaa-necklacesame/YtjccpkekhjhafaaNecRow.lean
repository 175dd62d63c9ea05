/- Rows of rings ([]necklace.ring): owned, appended to, sorted. -/
import Derived.Test.YtjccpkekhjhafaaVals
import Derived.Test.YtjccpkekhjhafaaNecMath
import Derived.Test.YtjccpkekhjhafaaNecLay
import Derived.Shelf.SlSortCmp.WholeK
namespace Go.Proofs.Ytjccpkekhjhafaa
set_option linter.unusedVariables false
set_option linter.unusedSimpArgs false
open Go.RowKit

/-- A ring: its turn's slice, its root's slice, its word. -/
structure Rg where
  tv : Value
  rv : Value
  x : List Int

def encR (r : Rg) : List Value := [r.tv, r.rv, .int .i64 (tmI r.x : Int)]
def cellsR (l : List Rg) : List Value := l.flatMap encR
theorem cellsR_app (l l' : List Rg) : cellsR (l ++ l') = cellsR l ++ cellsR l' := by unfold cellsR; rw [List.flatMap_append]

def RgOk (B : Nat) (w : World) (r : Rg) : Prop := Own .u8 5 B w r.tv r.x ∧ Own .u8 5 B w r.rv (rtI r.x) ∧ Bytes8 r.x ∧ 0 < r.x.length ∧ r.x.length ≤ 1000000
def OwnR (B : Nat) (w : World) (s : Value) (l : List Rg) : Prop := w.ownsRow B 38 3 s l.length (cellsR l)
/-- A row of rings that may be read. -/
def SlR (w : World) (s : Value) (l : List Rg) : Prop :=
  ∃ a c, s = .slice a l.length c ∧ l.length ≤ c ∧ c ≤ maxLen ∧ (l = [] ∨ ∃ b, a = some ⟨b, 0, none⟩ ∧ ∀ i r, l[i]? = some r → w.cell? ⟨b, i * 3, none⟩ = some r.tv ∧ w.cell? ⟨b, i * 3 + 1, none⟩ = some r.rv ∧ w.cell? ⟨b, i * 3 + 2, none⟩ = some (.int .i64 (tmI r.x : Int)))

theorem RgOk.ext {B : Nat} {w w' : World} {r : Rg} (h : RgOk B w r) (he : Ext w w') : RgOk B w' r := ⟨h.1.ext he, h.2.1.ext he, h.2.2⟩
theorem SlR.ext {w w' : World} {s : Value} {l : List Rg} (h : SlR w s l) (he : Ext w w') : SlR w' s l := by
  obtain ⟨a, c, h1, h2, h3, h4⟩ := h
  refine ⟨a, c, h1, h2, h3, ?_⟩
  rcases h4 with h4 | ⟨b, h4, h5⟩
  · exact .inl h4
  · exact .inr ⟨b, h4, fun i r hr => ⟨he.cellOf (h5 i r hr).1, he.cellOf (h5 i r hr).2.1, he.cellOf (h5 i r hr).2.2⟩⟩
theorem OwnR.nil (B : Nat) (w : World) : OwnR B w (.slice none 0 0) [] := World.ownsRow_nil _ _ _ _
theorem OwnR.ext {B : Nat} {w w' : World} {s : Value} {l : List Rg} (h : OwnR B w s l) (he : Ext w w') : OwnR B w' s l :=
  World.ownsRow.kept (row := none) h ⟨he.os, he.tape, he.output, he.size, fun i hi _ => he.block i hi⟩ (by cases hv : s.ownBlock <;> simp)
theorem RgOk.other {B B' : Nat} {w w' : World} {s : Value} {l : List Rg} {r : Rg} (h : RgOk B w r) (hv : OwnR B' w s l) (hg : w.grownBy w' s.ownBlock) : RgOk B w' r :=
  ⟨owns_other hv h.1 (by decide) hg, owns_other hv h.2.1 (by decide) hg, h.2.2⟩
theorem RgOk.enc1 {B : Nat} {w : World} {r : Rg} (h : RgOk B w r) : ∀ v ∈ encR r, v.oneCell' = true := fun v hv => by
  simp only [encR, List.mem_cons, List.not_mem_nil, or_false] at hv
  rcases hv with rfl | rfl | rfl
  · exact h.1.sl.cell1
  · exact h.2.1.sl.cell1
  · rfl

theorem infoR : (Try.prog.info? 38).map (fun i => (i.zero, i.size, i.bytes)) = some (some (.agg #[.slice none 0 0, .slice none 0 0, .int .i64 0]), 3, 56) := by kernel_rfl

/-- 'append(row, ring{..})' -/
theorem wpList_snocR (w : World) {ops : Array Oper} {rest : List Oper} {o : Oper} {a : Act} {Q : Exit → Act → World → Prop} (hgd : o.guard = none) (s x : Operand)
    (ho : o.op = .call { callee := .builtin .append, args := #[s, x], argTypes := #[35, 35] }) (B : Nat) (v : Value) (l : List Rg) (r : Rg) (g : Nat) (hs : a.eval s = v) (hx : a.eval x = .slice (some ⟨g, 0, none⟩) 1 1)
    (hc : w.heap[g]? = some (.cells #[r.tv, r.rv, .int .i64 (tmI r.x : Int)] 38 (0, 0))) (h1 : ∀ v ∈ encR r, v.oneCell' = true) (hown : OwnR B w v l) (hlen : l.length + 1 ≤ 1000000) (hB : B ≤ w.heap.size)
    (h : ∀ v' w', OwnR B w' v' (l ++ [r]) → w.grownBy w' v.ownBlock → wpList Try.prog ops Q rest (a.put o.dst v') w') : wpList Try.prog ops Q (o :: rest) a w := by
  obtain ⟨i0, hi, hz0, hz1, hz2⟩ := info_partsV infoR
  refine wpList_append_own w hgd s x 35 ho B 38 i0 (.agg #[.slice none 0 0, .slice none 0 0, .int .i64 0]) 3 56 Try.underlying35 hi hz0 hz1 hz2 rfl (by decide) v _ _ hs hown ⟨g, 0, none⟩ 1 1 (encR r) hx rfl ?_ h1 (by unfold maxLen; omega) (by omega) hB ?_
  · intro j u hj
    rw [Addr.add_mid, Nat.zero_add]
    match j, hj with
    | 0, hj => simp [encR] at hj; subst hj; simp [World.cell?, hc]
    | 1, hj => simp [encR] at hj; subst hj; simp [World.cell?, hc]
    | 2, hj => simp [encR] at hj; subst hj; simp [World.cell?, hc]
  · intro v' w' k1 k2 _
    refine h v' w' ?_ k2
    unfold OwnR
    rw [cellsR_app, List.length_append]
    simpa [cellsR] using k1

/-! ### The row as the library's sort takes it -/
theorem flat_at {α : Type} (enc : α → List Value) (hk : ∀ x, (enc x).length = 3) : ∀ (m : List α) (i c : Nat) (hi : i < m.length), c < 3 → (m.flatMap enc)[i * 3 + c]? = (enc (m[i]'hi))[c]?
  | x :: m, 0, c, _, hc => by
    rw [List.flatMap_cons, Nat.zero_mul, Nat.zero_add, List.getElem?_append_left (by rw [hk]; exact hc)]
    rfl
  | x :: m, i + 1, c, hi, hc => by
    rw [List.flatMap_cons, List.getElem?_append_right (by rw [hk]; omega), hk, show (i + 1) * 3 + c - 3 = i * 3 + c by omega, flat_at enc hk m i c (by simpa using hi) hc]
    rfl
theorem but_sort {α : Type} [Inhabited α] (enc : α → List Value) (k : Nat) (w : World) (g n : Nat) (d : Array α) (os : Array Obj) (hg : g < w.heap.size) : But g w (sortWorldK enc k w g 0 n d os) := by
  refine ⟨rfl, rfl, rfl, size_sortWorldK_c enc k w g 0 n d os, fun i hi hne => ?_⟩
  unfold sortWorldK
  rw [Go.Sort.heap_grow_old _ _ (by rw [Go.Sort.size_putRowK]; exact hi)]
  simp only [Go.Sort.putRowK, Go.Sort.putRow, Go.Sort.mapBlock, Array.getElem?_modify]
  rw [if_neg (fun e => hne (by rw [e]))]
  rfl

theorem keyC_lt_trans {r s t : List Int} {n m p : Nat} (h : keyC r s n m < 0) (k : keyC s t m p < 0) : keyC r t n p < 0 := by
  have h1 := keyC_trans (Int.le_of_lt h) (Int.le_of_lt k)
  rcases Int.lt_or_eq_of_le h1 with h2 | h2
  · exact h2
  · obtain ⟨e1, e2⟩ := keyC_zero h2
    subst e1 e2
    have := keyC_swap r s n m
    omega
theorem rcI_swo {α : Type} (f : α → List Int) : Go.Sort.SWO (ltOf fun a b : α => rcI (f a) (f b)) := by
  refine ⟨fun a => ?_, fun a b c h1 h2 => ?_, fun a b c h1 h2 => ?_⟩
  · simp [ltOf, rcI_self]
  · simp only [ltOf, decide_eq_true_eq] at *
    exact keyC_lt_trans h1 h2
  · simp only [ltOf, decide_eq_false_iff_not] at *
    have e1 := rcI_swap (f a) (f b)
    have e2 := rcI_swap (f b) (f c)
    have e3 := rcI_swap (f a) (f c)
    have := rcI_trans (x := f c) (y := f b) (z := f a) (by omega) (by omega)
    omega
end Go.Proofs.Ytjccpkekhjhafaa
