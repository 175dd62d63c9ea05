/- Contracts of the document's own less and Rows: whorlref9.less, Rows. -/
import Derived.Test.YtjccpkekhjhafaaNecMath
import Derived.Test.YtjccpkekhjhafaaSlss
import Derived.Test.YtjccpkekhjhafaaPerRef2
import Derived.Test.YtjccpkekhjhafaaRefWords
namespace Go.Proofs.Ytjccpkekhjhafaa
set_option linter.unusedVariables false
set_option linter.unusedSimpArgs false
open Go.RowKit

theorem rless_any (u v : Value) (x y : List Int) (w : World) (hu : Sl .u8 w u x) (hv : Sl .u8 w v y) (hx : Bytes8 x) (hy : Bytes8 y) (lx : x.length ≤ 1000000) (ly : y.length ≤ 1000000) :
    Calls Try.prog 21 #[u, v] w fun e w' => e = .returned (.bool (decide (rcI x y < 0))) ∧ Ext w w' := by
  have HV := hide' hv
  have C1 : Hid (Calls Try.prog 19 #[u] w fun e w' => ∃ s, e = .returned (.tuple #[s, .int .i64 (tmI x : Int)]) ∧ Sl .u8 w' s (rtI x) ∧ Ext w w') :=
    (rroot_any u x w hu hx lx).mono fun e w' ⟨s, h1, h2, m, h3⟩ => ⟨s, h1, h2, by rw [h3]; exact Ext.drewN _ _⟩
  have C2 : Hid (∀ W, Sl .u8 W v y → Calls Try.prog 19 #[v] W fun e w' => ∃ s, e = .returned (.tuple #[s, .int .i64 (tmI y : Int)]) ∧ Sl .u8 w' s (rtI y) ∧ Ext W w') := fun W hW =>
    (rroot_any v y W hW hy ly).mono fun e w' ⟨s, h1, h2, m, h3⟩ => ⟨s, h1, h2, by rw [h3]; exact Ext.drewN _ _⟩
  have lr : (rtI x).length ≤ 1000000 := by unfold rtI; rw [List.length_take]; omega
  have ls : (rtI y).length ≤ 1000000 := by unfold rtI; rw [List.length_take]; omega
  have HK : Hid (rcI x y = keyC (rtI x) (rtI y) (tmI x) (tmI y)) := rfl
  have bx : Bytes8 (rtI x) := hx.takeN _
  have by' : Bytes8 (rtI y) := hy.takeN _
  rw [HK.out]
  clear hu hv HK hx hy lx ly
  generalize rtI x = r at *
  generalize rtI y = s at *
  generalize tmI x = n at *
  generalize tmI y = m at *
  obtain ⟨C, HC⟩ : ∃ c, Hid (cmpI r s = c) := ⟨_, rfl⟩
  obtain ⟨D, HD⟩ : ∃ D, Hid (decide (keyC r s n m < 0) = D) := ⟨_, rfl⟩
  rw [HD.out]
  have HKC : Hid (keyC r s n m = if C = 0 then (if (n : Int) < m then -1 else if (m : Int) < n then 1 else 0) else C) := by show _ = _; unfold keyC; rw [HC.out]
  have W1 : Hid (∀ W u v, Sl .u8 W u r → Sl .u8 W v s → Calls Try.prog 29 #[u, v] W fun e w' => e = .returned (.int .i64 C) ∧ Ext W w') := fun W u v h1 h2 => by
    rw [← HC.out]
    exact toExt (words_any u v r s W h1 h2 lr ls)
  have fin : ∀ (b : Bool), D = b → D = b := fun _ h => h
  by_cases g1 : C < 0
  · have d1 : decide (C < 0) = true := decide_eq_true g1
    have HD2 : Hid (D = true) := by show _ = _; rw [← HD.out, HKC.out, if_neg (by omega)]; exact d1
    rw [HD2.out]
    go_enter Try.func21, Try.ntmps21
    go_wp2_with fail
    refine C1.out.mono ?_
    rintro e w1 ⟨s1, rfl, hs, he⟩
    have S1 := hide' hs
    have E1 := hide' he
    clear hs he
    go_wp2_with fail
    refine (C2.out _ (HV.out.ext E1.out)).mono ?_
    rintro e w2 ⟨s2, rfl, hs, he⟩
    have S2 := hide' hs
    have E2 := hide' he
    clear hs he
    go_wp2_with fail
    refine (W1.out _ _ _ (S1.out.ext E2.out) S2.out).mono ?_
    rintro e w3 ⟨rfl, he⟩
    have E3 := hide' he
    clear he
    go_wp2
    go_ret
    exact ⟨rfl, (E1.out.trans E2.out).trans E3.out⟩
  · have d1 : decide (C < 0) = false := decide_eq_false g1
    by_cases g2 : C = 0
    · have d2 : (C == (0 : Int)) = true := by simp [g2]
      obtain ⟨T, HT⟩ : ∃ T, Hid (decide ((n : Int) < m) = T) := ⟨_, rfl⟩
      have HD2 : Hid (D = T) := by
        show _ = _
        rw [← HD.out, ← HT.out, HKC.out, if_pos g2, decide_eq_decide]
        split
        · omega
        · split <;> omega
      have d3 : decide ((n : Int) < m) = T := HT.out
      have d4 : decide (n < m) = T := by rw [← HT.out]; simp
      rw [HD2.out]
      clear g1 g2
      go_enter Try.func21, Try.ntmps21
      go_wp2_with fail
      refine C1.out.mono ?_
      rintro e w1 ⟨s1, rfl, hs, he⟩
      have S1 := hide' hs
      have E1 := hide' he
      clear hs he
      go_wp2_with fail
      refine (C2.out _ (HV.out.ext E1.out)).mono ?_
      rintro e w2 ⟨s2, rfl, hs, he⟩
      have S2 := hide' hs
      have E2 := hide' he
      clear hs he
      go_wp2_with fail
      refine (W1.out _ _ _ (S1.out.ext E2.out) S2.out).mono ?_
      rintro e w3 ⟨rfl, he⟩
      have E3 := hide' he
      clear he
      go_wp2
      go_ret
      exact ⟨rfl, (E1.out.trans E2.out).trans E3.out⟩
    · have d2 : (C == (0 : Int)) = false := by simp [g2]
      have HD2 : Hid (D = false) := by show _ = _; rw [← HD.out, HKC.out, if_neg g2]; exact d1
      rw [HD2.out]
      go_enter Try.func21, Try.ntmps21
      go_wp2_with fail
      refine C1.out.mono ?_
      rintro e w1 ⟨s1, rfl, hs, he⟩
      have S1 := hide' hs
      have E1 := hide' he
      clear hs he
      go_wp2_with fail
      refine (C2.out _ (HV.out.ext E1.out)).mono ?_
      rintro e w2 ⟨s2, rfl, hs, he⟩
      have S2 := hide' hs
      have E2 := hide' he
      clear hs he
      go_wp2_with fail
      refine (W1.out _ _ _ (S1.out.ext E2.out) S2.out).mono ?_
      rintro e w3 ⟨rfl, he⟩
      have E3 := hide' he
      clear he
      go_wp2
      go_ret
      exact ⟨rfl, (E1.out.trans E2.out).trans E3.out⟩
end Go.Proofs.Ytjccpkekhjhafaa
