/- sync.Once over a Crc: doSlow and Do. -/
import Derived.Test.YtkeelcjfpnbfkaaCrcOnce
namespace Go.Proofs.Ytkeelcjfpnbfkaa
set_option linter.unusedVariables false
set_option linter.unusedSimpArgs false
open Go.RowKit

set_option maxRecDepth 100000 in
set_option maxHeartbeats 1600000 in
theorem slow_any (b : Nat) (w : World) (h : At w b 0 0 0 zeroL) :
    Calls Try.prog 19 #[.pointer (some ⟨b, 0, none⟩), .func (.func 16) #[.pointer (some ⟨b, 0, none⟩)] #[]] w fun e w' => e = .returned (.tuple #[]) ∧ At w' b 1 0 1 tabL ∧ But b w w' := by
  have H := hide' h
  have H1 := hide' (h.set1 1)
  have c1 := h.c1
  have f1 := h.frozen 1
  have hl := run_call_load (P := Try.prog) Try.func23 (by kernel_rfl) (by kernel_rfl) (by kernel_rfl) .u32 (by kernel_rfl) (w := w.setCell ⟨b, 1, none⟩ (.int .i32 1)) (a := ⟨b, 0, none⟩) (x := 0) H1.out.c0
  have hnot : ∀ (x : Bool) (w : World), (Op.unary .not (.bool x)).run Try.prog w = .ok (.bool (!x)) w := fun _ _ => rfl
  clear h
  go_enter_defers Try.func19, Try.ntmps19
  go_wp2_with (first | (go_at_call 24; refine (lock_free ⟨b, 1, none⟩ _ c1 f1).mono ?_; rintro e w' ⟨rfl, rfl⟩) | (go_at_call 18; go_in))
  refine (fill_any b _ H1.out).mono ?_
  rintro e w1 ⟨rfl, hA1, hB1⟩
  have HA1 := hide' hA1
  have HB1 := hide' hB1
  clear hl hA1 hB1
  go_wp2
  refine leaves_cons (f := 26) (args := #[.pointer (some ⟨b, 0, none⟩), .bool true]) (by simp) (by simp [go_sem]) ?_
  refine (store_deferred ⟨b, 0, none⟩ (.int .u32 0) .returning _ HA1.out.c0 (HA1.out.frozen 0)).mono ?_
  rintro e u' w2 ⟨rfl, rfl, rfl⟩
  have HA2 := hide' (HA1.out.drew.set0 1)
  refine leaves_cons (f := 25) (args := #[.pointer (some ⟨b, 1, none⟩)]) (by simp [settle]) (by simp [go_sem]) ?_
  refine (unlock_deferred ⟨b, 1, none⟩ _ _ HA2.out.c1 (HA2.out.frozen 1)).mono ?_
  rintro e u' w3 ⟨rfl, rfl, rfl⟩
  simp only [Leaves, settle, results, Try.results19]
  refine ⟨.tuple #[], by simp, rfl, HA2.out.set1 0, ?_⟩
  exact ((((But.refl b w).setCell 1 (.int .i32 1)).trans HB1.out).drew.setCell 0 (.int .u32 1)).setCell 1 (.int .i32 0)

/-- '(*sync.Once).Do' of a new Crc. -/
theorem do_first (b : Nat) (w : World) (h : At w b 0 0 0 zeroL) :
    Calls Try.prog 15 #[.pointer (some ⟨b, 0, none⟩), .func (.func 16) #[.pointer (some ⟨b, 0, none⟩)] #[]] w fun e w' => e = .returned (.tuple #[]) ∧ At w' b 1 0 1 tabL ∧ But b w w' := by
  have H := hide' h
  have hl := run_call_load (P := Try.prog) Try.func23 (by kernel_rfl) (by kernel_rfl) (by kernel_rfl) .u32 (by kernel_rfl) h.c0
  have hnot : ∀ (x : Bool) (w : World), (Op.unary .not (.bool x)).run Try.prog w = .ok (.bool (!x)) w := fun _ _ => rfl
  clear h
  go_enter Try.func15, Try.ntmps15
  go_wp2_with (first | (go_at_call 19; refine (slow_any b _ H.out).mono ?_; rintro e w' ⟨rfl, hA, hB⟩) | (go_at_call 18; go_in))
  go_end0
  exact ⟨rfl, hA, hB⟩

/-- '(*sync.Once).Do', done already: the function is not called. -/
theorem do_done (b : Nat) (fv : Value) (w : World) (h : At w b 1 0 1 tabL) :
    Calls Try.prog 15 #[.pointer (some ⟨b, 0, none⟩), fv] w fun e w' => e = .returned (.tuple #[]) ∧ w' = w := by
  have hl := run_call_load (P := Try.prog) Try.func23 (by kernel_rfl) (by kernel_rfl) (by kernel_rfl) .u32 (by kernel_rfl) h.c0
  have hnot : ∀ (x : Bool) (w : World), (Op.unary .not (.bool x)).run Try.prog w = .ok (.bool (!x)) w := fun _ _ => rfl
  clear h
  go_enter Try.func15, Try.ntmps15
  go_wp2_with (go_at_call 18; go_in)
  go_end0
  exact ⟨rfl, rfl⟩

/-- A Crc, new or with its table. -/
def Crc (w : World) (b : Nat) : Prop := At w b 0 0 0 zeroL ∨ At w b 1 0 1 tabL
theorem Crc.ext {w w' : World} {b : Nat} (h : Crc w b) (he : Ext w w') : Crc w' b := h.imp (·.ext he) (·.ext he)
theorem Crc.lt {w : World} {b : Nat} (h : Crc w b) : b < w.heap.size := h.elim (·.lt) (·.lt)

theorem do_any (b : Nat) (w : World) (h : Crc w b) :
    Calls Try.prog 15 #[.pointer (some ⟨b, 0, none⟩), .func (.func 16) #[.pointer (some ⟨b, 0, none⟩)] #[]] w fun e w' => e = .returned (.tuple #[]) ∧ At w' b 1 0 1 tabL ∧ But b w w' := by
  rcases h with h | h
  · exact do_first b w h
  · refine (do_done b _ w h).mono ?_
    rintro e w' ⟨rfl, rfl⟩
    exact ⟨rfl, h, But.refl _ _⟩
end Go.Proofs.Ytkeelcjfpnbfkaa
