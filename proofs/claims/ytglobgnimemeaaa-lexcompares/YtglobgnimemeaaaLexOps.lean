/- Contracts of lex: isEnding, isTurn, next, Endings, Turns, Common (and of bytes.Compare, cmp.Compare at bytes). -/
import Derived.Test.YtglobgnimemeaaaByt
import Derived.Test.YtglobgnimemeaaaLexMath
import Derived.Laws.Externs
namespace Go.Proofs.Ytglobgnimemeaaa
set_option linter.unusedVariables false
set_option linter.unusedSimpArgs false
open Go.RowKit

theorem isEnding_any (a : Option Addr) (len c : Nat) (i : Int) (w : World) (hl : len ≤ 9223372036854775807) :
    Calls Try.prog 14 #[.slice a len c, .int .i64 i] w fun e w' => e = .returned (.bool (decide (0 ≤ i ∧ i ≤ (len : Int)))) ∧ w' = w := by
  by_cases g1 : i < 0
  · have e1 : decide (0 ≤ i ∧ i ≤ (len : Int)) = false := by simp; omega
    rw [e1]
    go_enter Try.func14, Try.ntmps14
    go_wp2
    go_ret
    exact ⟨rfl, rfl⟩
  · have g1' : 0 ≤ i := by omega
    by_cases g2 : i ≤ (len : Int)
    · have e1 : decide (0 ≤ i ∧ i ≤ (len : Int)) = true := by simp; omega
      rw [e1]
      go_enter Try.func14, Try.ntmps14
      go_wp2
      go_ret
      exact ⟨rfl, rfl⟩
    · have g2' : (len : Int) < i := by omega
      have e1 : decide (0 ≤ i ∧ i ≤ (len : Int)) = false := by simp; omega
      rw [e1]
      go_enter Try.func14, Try.ntmps14
      go_wp2
      go_ret
      exact ⟨rfl, rfl⟩

theorem isTurn_any (a : Option Addr) (len c : Nat) (i : Int) (w : World) (hl : len ≤ 9223372036854775807) :
    Calls Try.prog 17 #[.slice a len c, .int .i64 i] w fun e w' => e = .returned (.bool (decide (0 ≤ i ∧ i < (len : Int)))) ∧ w' = w := by
  by_cases g1 : i < 0
  · have e1 : decide (0 ≤ i ∧ i < (len : Int)) = false := by simp; omega
    rw [e1]
    go_enter Try.func17, Try.ntmps17
    go_wp2
    go_ret
    exact ⟨rfl, rfl⟩
  · have g1' : 0 ≤ i := by omega
    by_cases g2 : i < (len : Int)
    · have e1 : decide (0 ≤ i ∧ i < (len : Int)) = true := by simp; omega
      rw [e1]
      go_enter Try.func17, Try.ntmps17
      go_wp2
      go_ret
      exact ⟨rfl, rfl⟩
    · have g2' : (len : Int) ≤ i := by omega
      have e1 : decide (0 ≤ i ∧ i < (len : Int)) = false := by simp; omega
      rw [e1]
      go_enter Try.func17, Try.ntmps17
      go_wp2
      go_ret
      exact ⟨rfl, rfl⟩

theorem next_any (a : Option Addr) (len c i : Nat) (w : World) (hl : len ≤ 1000000) (hi : i < len) :
    Calls Try.prog 19 #[.slice a len c, .int .i64 (i : Int)] w fun e w' => e = .returned (.int .i64 (((i + 1) % len : Nat) : Int)) ∧ w' = w := by
  by_cases g : i + 1 = len
  · have e1 : (i + 1) % len = 0 := by rw [g]; exact Nat.mod_self _
    have d1 : ((i : Int) + 1 == (len : Int)) = true := by simp; omega
    rw [e1]
    go_enter Try.func19, Try.ntmps19
    go_wp2
    go_ret
    exact ⟨rfl, rfl⟩
  · have e1 : (i + 1) % len = i + 1 := Nat.mod_eq_of_lt (by omega)
    have d1 : ((i : Int) + 1 == (len : Int)) = false := by simp; omega
    rw [e1]
    go_enter Try.func19, Try.ntmps19
    go_wp2
    go_ret
    exact ⟨rfl, rfl⟩

theorem bytealgCompare (args : Array Value) (w : World) : (callFunc 21 args).run Try.prog w = ((Extern.BytealgCompare.compare args).run Try.prog w).andThen fun v w' => .ok (.value v) w' :=
  run_callFunc_extern Try.func21 (by kernel_rfl) (by kernel_rfl) (by kernel_rfl) (by kernel_rfl) args w

/-- bytes.Compare -/
theorem compare_any (u v : Value) (x y : List Int) (w : World) (hu : Sl .u8 w u x) (hv : Sl .u8 w v y) (hx : Bytes8 x) (hy : Bytes8 y) :
    Calls Try.prog 15 #[u, v] w fun e w' => e = .returned (.int .i64 (cmpI x y)) ∧ w' = w := by
  have h : (callFunc 21 #[u, v]).run Try.prog w = .ok (.value (.int .i64 (cmpI x y))) w := by
    rw [bytealgCompare, run_compareBytes hu hv hx hy]; rfl
  obtain ⟨a, c, rfl, _⟩ := hu
  obtain ⟨a', c', rfl, _⟩ := hv
  go_enter Try.func15, Try.ntmps15
  go_wp2
  go_ret
  exact ⟨rfl, rfl⟩

theorem isNaN_any (x : Int) (w : World) : Calls Try.prog 22 #[.int .u8 x] w fun e w' => e = .returned (.bool false) ∧ w' = w := by
  go_enter Try.func22, Try.ntmps22
  go_wp2
  go_ret
  exact ⟨rfl, rfl⟩

/-- cmp.Compare of two bytes that are not alike. -/
theorem cmpByte_any (x y : Int) (w : World) (h : x ≠ y) : Calls Try.prog 18 #[.int .u8 x, .int .u8 y] w fun e w' => e = .returned (.int .i64 (if x < y then -1 else 1)) ∧ w' = w := by
  by_cases hlt : x < y
  · rw [if_pos hlt]
    go_enter Try.func18, Try.ntmps18
    go_wp2_with fail
    refine (isNaN_any x _).mono ?_
    rintro e w' ⟨rfl, rfl⟩
    go_wp2_with fail
    refine (isNaN_any y _).mono ?_
    rintro e w' ⟨rfl, rfl⟩
    go_wp2
    go_ret
    exact ⟨rfl, rfl⟩
  · rw [if_neg hlt]
    have hgt : y < x := by omega
    have d : decide (x < y) = false := by simpa using hlt
    go_enter Try.func18, Try.ntmps18
    go_wp2_with fail
    refine (isNaN_any x _).mono ?_
    rintro e w' ⟨rfl, rfl⟩
    go_wp2_with fail
    refine (isNaN_any y _).mono ?_
    rintro e w' ⟨rfl, rfl⟩
    go_wp2
    go_ret
    exact ⟨rfl, rfl⟩
end Go.Proofs.Ytglobgnimemeaaa
