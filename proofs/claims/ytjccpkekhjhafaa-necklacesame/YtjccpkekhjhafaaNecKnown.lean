/- whorllaw9's known answer, and its test of length. -/
import Derived.Test.YtjccpkekhjhafaaNecCanon
import Derived.Test.YtjccpkekhjhafaaNecRows
import Derived.Lib.SlBytesConst
namespace Go.Proofs.Ytjccpkekhjhafaa
set_option linter.unusedVariables false
set_option linter.unusedSimpArgs false
open Go.RowKit

theorem Sls.three {w : World} {s u t : Value} {zs ys xs : List Int} {e : TypeId} (h : Sl .u8 w s zs) (h' : Sl .u8 w u ys) (h'' : Sl .u8 w t xs) (g : Nat) (hg : g = w.heap.size) : Sls (w.alloc (.cells #[s, u, t] e)) (.slice (some ⟨g, 0, .none⟩) 3 3) [zs, ys, xs] := by
  subst hg
  refine ⟨_, 3, rfl, by simp [maxLen], .inr ⟨w.heap.size, 0, rfl, fun i hi => ?_⟩⟩
  have he : Ext w (w.alloc (.cells #[s, u, t] e)) := (Below.refl _ _).alloc (Nat.le_refl _) _
  match i, hi with
  | 0, _ => exact ⟨s, by simp, h.ext he⟩
  | 1, _ => exact ⟨u, by simp, h'.ext he⟩
  | 2, _ => exact ⟨t, by simp, h''.ext he⟩

theorem known_canon : canonL [[98, 97], [97, 98, 97, 98], [97]] = [[97], [97, 98], [97, 98, 97, 98]] := by
  refine (canonL_eq ?_ ?_).symm
  · have e : baseL [[98, 97], [97, 98, 97, 98], [97]] = [[97, 98], [97, 98, 97, 98], [97]] := by decide
    rw [e]
    decide
  · decide
theorem known_words : Words8 [[98, 97], [97, 98, 97, 98], [97]] := by
  refine ⟨by decide, fun k => ?_⟩
  refine getD_all' (P := fun x => Bytes8 x ∧ x.length ≤ 1000000) (fun x hx => ?_) ⟨(fun z hz => by cases hz), by simp⟩ k
  simp only [List.mem_cons, List.not_mem_nil, or_false] at hx
  rcases hx with rfl | rfl | rfl
  · exact ⟨fun z hz => by simp at hz; omega, by decide⟩
  · exact ⟨fun z hz => by simp at hz; omega, by decide⟩
  · exact ⟨fun z hz => by simp at hz; omega, by decide⟩

theorem conv_at (W : World) (g : Nat) (hg : W.heap.size = g) (zs : List Int) (n : Nat) (hn : zs.length = n) :
    (convert 31 31 (Value.slice (some ⟨g, 0, none⟩) n n)).run Try.prog (W.alloc (Obj.cells (zs.map (Value.int .u8)).toArray 5)) = .ok (Value.slice (some ⟨g, 0, none⟩) n n) (W.alloc (Obj.cells (zs.map (Value.int .u8)).toArray 5 (n, n + 1))) := by
  subst hg hn
  have := Go.Lib.run_convert_bytes_const (P := Try.prog) W 31 5 (zs.map (Value.int .u8)).toArray zs.length zs.length Try.underlying31 Try.underlying5
  simpa using this
theorem lit_at (W : World) (g : Nat) (hg : W.heap.size = g) (zs : List Int) (n : Nat) (hn : zs.length = n) (hm : n ≤ maxLen) :
    Sl .u8 (W.alloc (Obj.cells (zs.map (Value.int .u8)).toArray 5 (n, n + 1))) (.slice (some ⟨g, 0, none⟩) n n) zs := by
  subst hg
  exact Sl.lit' W zs n hn hm

theorem known_any (w : World) : Calls Try.prog 14 #[] w fun e w' => e = .returned (.bool true) ∧ Ext w w' := by
  have k0 : (convert 31 31 (Value.slice (some ⟨w.heap.size, 0, none⟩) 2 2)).run Try.prog (w.alloc (Obj.cells #[Value.int IntKind.u8 98, Value.int IntKind.u8 97] 5)) = .ok (Value.slice (some ⟨w.heap.size, 0, none⟩) 2 2) (w.alloc (Obj.cells #[Value.int IntKind.u8 98, Value.int IntKind.u8 97] 5 (2, 3))) := conv_at w _ (by simp) [98, 97] 2 rfl
  have L0 : Hid (Sl .u8 (w.alloc (Obj.cells #[Value.int IntKind.u8 98, Value.int IntKind.u8 97] 5 (2, 3))) (.slice (some ⟨w.heap.size, 0, none⟩) 2 2) [98, 97]) := lit_at w _ (by simp) [98, 97] 2 rfl (by decide)
  have k1 : ∀ o, (convert 31 31 (Value.slice (some ⟨w.heap.size + 1, 0, none⟩) 4 4)).run Try.prog ((w.alloc o).alloc (Obj.cells #[Value.int IntKind.u8 97, Value.int IntKind.u8 98, Value.int IntKind.u8 97, Value.int IntKind.u8 98] 5)) = .ok (Value.slice (some ⟨w.heap.size + 1, 0, none⟩) 4 4) ((w.alloc o).alloc (Obj.cells #[Value.int IntKind.u8 97, Value.int IntKind.u8 98, Value.int IntKind.u8 97, Value.int IntKind.u8 98] 5 (4, 5))) := fun o => conv_at (w.alloc o) _ (by simp) [97, 98, 97, 98] 4 rfl
  have L1 : Hid (∀ o, Sl .u8 ((w.alloc o).alloc (Obj.cells #[Value.int IntKind.u8 97, Value.int IntKind.u8 98, Value.int IntKind.u8 97, Value.int IntKind.u8 98] 5 (4, 5))) (.slice (some ⟨w.heap.size + 1, 0, none⟩) 4 4) [97, 98, 97, 98]) := fun o => lit_at (w.alloc o) _ (by simp) [97, 98, 97, 98] 4 rfl (by decide)
  have k2 : ∀ o o', (convert 31 31 (Value.slice (some ⟨w.heap.size + 1 + 1, 0, none⟩) 1 1)).run Try.prog (((w.alloc o).alloc o').alloc (Obj.cells #[Value.int IntKind.u8 97] 5)) = .ok (Value.slice (some ⟨w.heap.size + 1 + 1, 0, none⟩) 1 1) (((w.alloc o).alloc o').alloc (Obj.cells #[Value.int IntKind.u8 97] 5 (1, 2))) := fun o o' => conv_at ((w.alloc o).alloc o') _ (by simp) [97] 1 rfl
  have L2 : Hid (∀ o o', Sl .u8 (((w.alloc o).alloc o').alloc (Obj.cells #[Value.int IntKind.u8 97] 5 (1, 2))) (.slice (some ⟨w.heap.size + 1 + 1, 0, none⟩) 1 1) [97]) := fun o o' => lit_at ((w.alloc o).alloc o') _ (by simp) [97] 1 rfl (by decide)
  go_enter Try.func14, Try.ntmps14
  go_wp2_with fail
  refine (canon_any _ [[98, 97], [97, 98, 97, 98], [97]] _ (Sls.three (((L0.out.ext (ext_alloc _ _)).ext (ext_alloc _ _))) ((L1.out _).ext (ext_alloc _ _)) (L2.out _ _) _ (by simp)) known_words).mono ?_
  rw [known_canon]
  rintro e w1 ⟨s, vs, rfl, ho, hr, he⟩
  have X1 : Hid (Ext w w1) := ((((ext_alloc _ _).trans (ext_alloc _ _)).trans (ext_alloc _ _)).trans (ext_alloc _ _)).trans he
  have S1 := hide' (ho.sl.sls hr.read)
  clear ho hr he k0 k1 k2 L0 L1 L2
  have k0 : (convert 31 31 (Value.slice (some ⟨w1.heap.size, 0, none⟩) 1 1)).run Try.prog (w1.alloc (Obj.cells #[Value.int IntKind.u8 97] 5)) = .ok (Value.slice (some ⟨w1.heap.size, 0, none⟩) 1 1) (w1.alloc (Obj.cells #[Value.int IntKind.u8 97] 5 (1, 2))) := conv_at w1 _ (by simp) [97] 1 rfl
  have L0 : Hid (Sl .u8 (w1.alloc (Obj.cells #[Value.int IntKind.u8 97] 5 (1, 2))) (.slice (some ⟨w1.heap.size, 0, none⟩) 1 1) [97]) := lit_at w1 _ (by simp) [97] 1 rfl (by decide)
  have k1 : ∀ o, (convert 31 31 (Value.slice (some ⟨w1.heap.size + 1, 0, none⟩) 2 2)).run Try.prog ((w1.alloc o).alloc (Obj.cells #[Value.int IntKind.u8 97, Value.int IntKind.u8 98] 5)) = .ok (Value.slice (some ⟨w1.heap.size + 1, 0, none⟩) 2 2) ((w1.alloc o).alloc (Obj.cells #[Value.int IntKind.u8 97, Value.int IntKind.u8 98] 5 (2, 3))) := fun o => conv_at (w1.alloc o) _ (by simp) [97, 98] 2 rfl
  have L1 : Hid (∀ o, Sl .u8 ((w1.alloc o).alloc (Obj.cells #[Value.int IntKind.u8 97, Value.int IntKind.u8 98] 5 (2, 3))) (.slice (some ⟨w1.heap.size + 1, 0, none⟩) 2 2) [97, 98]) := fun o => lit_at (w1.alloc o) _ (by simp) [97, 98] 2 rfl (by decide)
  have k2 : ∀ o o', (convert 31 31 (Value.slice (some ⟨w1.heap.size + 1 + 1, 0, none⟩) 4 4)).run Try.prog (((w1.alloc o).alloc o').alloc (Obj.cells #[Value.int IntKind.u8 97, Value.int IntKind.u8 98, Value.int IntKind.u8 97, Value.int IntKind.u8 98] 5)) = .ok (Value.slice (some ⟨w1.heap.size + 1 + 1, 0, none⟩) 4 4) (((w1.alloc o).alloc o').alloc (Obj.cells #[Value.int IntKind.u8 97, Value.int IntKind.u8 98, Value.int IntKind.u8 97, Value.int IntKind.u8 98] 5 (4, 5))) := fun o o' => conv_at ((w1.alloc o).alloc o') _ (by simp) [97, 98, 97, 98] 4 rfl
  have L2 : Hid (∀ o o', Sl .u8 (((w1.alloc o).alloc o').alloc (Obj.cells #[Value.int IntKind.u8 97, Value.int IntKind.u8 98, Value.int IntKind.u8 97, Value.int IntKind.u8 98] 5 (4, 5))) (.slice (some ⟨w1.heap.size + 1 + 1, 0, none⟩) 4 4) [97, 98, 97, 98]) := fun o o' => lit_at ((w1.alloc o).alloc o') _ (by simp) [97, 98, 97, 98] 4 rfl (by decide)
  have kw := hide' (canonL_words' known_words)
  rw [known_canon] at kw
  go_wp2_with fail
  refine (rrows_any _ _ [[97], [97, 98], [97, 98, 97, 98]] [[97], [97, 98], [97, 98, 97, 98]] _ ((((S1.out.ext (ext_alloc _ _)).ext (ext_alloc _ _)).ext (ext_alloc _ _)).ext (ext_alloc _ _)) (Sls.three (((L0.out.ext (ext_alloc _ _)).ext (ext_alloc _ _))) ((L1.out _).ext (ext_alloc _ _)) (L2.out _ _) _ (by simp)) (fun k => (kw.out.2 k).1) (fun k => (kw.out.2 k).1) (by decide) (by decide)).mono ?_
  rw [decide_eq_true rfl]
  rintro e w2 ⟨rfl, he⟩
  have X2 : Hid (Ext w w2) := X1.out.trans (((((ext_alloc _ _).trans (ext_alloc _ _)).trans (ext_alloc _ _)).trans (ext_alloc _ _)).trans he)
  clear he
  go_wp2
  go_ret
  exact ⟨rfl, X2.out⟩
end Go.Proofs.Ytjccpkekhjhafaa
