/- OmegaTurns: the walk. -/
import Derived.Test.YtifemkgkgghapaaOmTurnsOp
import Derived.Test.YtifemkgkgghapaaRefTurns8
import Derived.Test.YtifemkgkgghapaaRefSame
import Derived.Test.YtifemkgkgghapaaOmKnown
namespace Go.Proofs.Ytifemkgkgghapaa
set_option linter.unusedVariables false
set_option linter.unusedSimpArgs false
open Go.RowKit

set_option maxHeartbeats 400000 in
theorem lawTurns (v : Value) (zss : List (List Int)) (w : World) (hs : Sls w v zss) (hb : ∀ zs ∈ zss, ∀ z ∈ zs, 0 ≤ z ∧ z ≤ 255) (hl : ∀ zs ∈ zss, zs.length ≤ 140737488351232) :
    Calls Try.prog 4 #[v] w fun e w' => e = .returned (.bool true) ∧ Ext w w' := by
  have HS := hide' hs
  have HB : Hid (∀ zs ∈ zss, Bytes8 zs) := hb
  have HL := hide' hl
  obtain ⟨a, c, rfl, hml, _⟩ := hs
  unfold maxLen at hml
  clear hb hl
  have OS : Hid (∀ k, offP zss (k + 1) = offP zss k + (wordAt zss k).length) := offP_succ zss
  obtain ⟨n, HN⟩ : ∃ n, Hid (zss.length = n) := ⟨_, rfl⟩
  have WL : Hid (∀ k, k < n → (wordAt zss k).length ≤ 140737488351232) := fun k hk => HL.out _ (by
    have hk' : k < zss.length := by rw [HN.out]; exact hk
    unfold wordAt; rw [List.getD_eq_getElem?_getD, List.getElem?_eq_getElem hk']; exact List.getElem_mem hk')
  rw [HN.out] at HS hml ⊢
  go_enter Try.func4, Try.ntmps4
  go_wp2
  go_loop [3, 4] (fun vt vi => ∃ (i t : Nat), i ≤ n ∧ i ≤ 31 ∧ t ≤ 60 ∧ vi = .int .i64 i ∧ vt = .int .i64 t ∧ Hid (offP zss i = t)) (fun _ vi => n - (intOf vi).toNat)
  case atStart => exact ⟨0, 0, Nat.zero_le _, Nat.zero_le _, Nat.zero_le _, rfl, rfl, rfl⟩
  case round =>
    obtain ⟨i, t, hi, hi2, ht, rfl, rfl, HT⟩ := hrel
    by_cases hlt : i < n
    · have hlt' : (i : Int) < n := by omega
      obtain ⟨g, off, a2, c2, rfl, hc, hm1, hm2, _⟩ := HS.out.word (k := i) (by rw [HN.out]; exact hlt)
      unfold maxLen at hm1
      have hwl := WL.out i hlt
      have HT2 : Hid (offP zss (i + 1) = t + (wordAt zss i).length) := by show _ = _; rw [OS.out, HT.out]
      generalize (wordAt zss i).length = m at *
      by_cases h60 : t + m ≤ 60
      · have d1 : decide ((60 : Int) < (t : Int) + m) = false := by simp; omega
        have d1' : (t : Int) + m ≤ 60 := by omega
        by_cases h30 : i ≤ 30
        · have d2 : decide ((30 : Int) < (i : Int)) = false := by simp; omega
          have d2' : (i : Int) ≤ 30 := by omega
          go_wp2
          go_round
          case rel => exact ⟨i + 1, t + m, by omega, by omega, by omega, by go_num, by go_num, HT2⟩
          case measure => simp [intOf]; omega
        · have d2 : (30 : Int) < (i : Int) := by omega
          go_wp2
          go_ret
          exact ⟨rfl, Ext.refl _⟩
      · have d1 : (60 : Int) < (t : Int) + m := by omega
        go_wp2
        go_ret
        exact ⟨rfl, Ext.refl _⟩
    · have hlt' : decide ((i : Int) < n) = false := by simp; omega
      have hin : i = n := by omega
      subst hin
      have L1 : Hid (zss.length ≤ 100000) := by show _ ≤ _; rw [HN.out]; omega
      have L2 : Hid (offP zss zss.length ≤ 100000) := by show _ ≤ _; rw [HN.out, HT.out]; omega
      have L3 : Hid ((listP zss).length ≤ 1000000) := Nat.le_trans L2.out (by omega)
      go_wp2_with fail
      refine (turnsOp_any _ zss w HS.out HB.out L1.out L2.out).mono ?_
      rintro e w1 ⟨s1, l1, rfl, p1, q1, o1, e1⟩
      have O1 := hide' o1.sl
      have E1 := hide' e1
      have P1 := hide' p1
      have Q1 := hide' q1
      clear o1 e1 p1 q1
      go_wp2_with fail
      refine (rturns8_any _ zss w1 (HS.out.ext E1.out) L1.out L2.out).mono ?_
      rintro e w2 ⟨s2, l2, rfl, p2, q2, o2, e2⟩
      have HQ := hide' (sorted_unique P1.out p2 Q1.out q2)
      have O2 := o2.sl
      rw [← HQ.out] at O2
      have OO2 := hide' O2
      have O1' := hide' (O1.out.ext e2)
      have E2 := hide' (E1.out.trans e2)
      have LL : Hid (l1.length ≤ 1000000) := by show _ ≤ _; rw [P1.out.length_eq]; exact L3.out
      clear o2 e2 p2 q2 O2
      go_wp2_with fail
      refine (same_any _ _ l1 w2 O1'.out OO2.out LL.out).mono ?_
      rintro e w3 ⟨rfl, e3⟩
      have E3 := hide' (E2.out.trans e3)
      clear e3
      go_wp2_with fail
      refine (known_any _).mono ?_
      rintro e w4 ⟨rfl, e4⟩
      have E4 := hide' (E3.out.trans e4)
      clear e4
      go_wp2
      go_ret
      exact ⟨rfl, E4.out⟩
end Go.Proofs.Ytifemkgkgghapaa
