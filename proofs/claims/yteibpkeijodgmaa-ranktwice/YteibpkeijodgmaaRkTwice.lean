/- RankTwice: the walk. -/
import Derived.Test.YteibpkeijodgmaaRkKnown
import Derived.Test.YteibpkeijodgmaaRefInv
import Derived.Test.YteibpkeijodgmaaInvMath
namespace Go.Proofs.Yteibpkeijodgmaa
set_option linter.unusedVariables false
set_option linter.unusedSimpArgs false
open Go.RowKit

set_option maxHeartbeats 1000000 in
theorem lawTwice (v : Value) (s : List Int) (w : World) (hv : Sl .i64 w v s) :
    Calls Try.prog 4 #[v] w fun e w' => e = .returned (.bool true) ∧ Ext w w' := by
  have HV := hide' hv
  obtain ⟨a, c, rfl, _⟩ := hv
  by_cases h1 : (300 : Int) < (s.length : Int)
  · go_enter Try.func4, Try.ntmps4
    go_wp2
    go_ret
    exact ⟨rfl, Ext.refl _⟩
  have d1 : decide ((300 : Int) < (s.length : Int)) = false := by simpa using h1
  have HL3 : Hid (s.length ≤ 1000000) := by show _ ≤ _; omega
  have hn : s.length ≤ 300 := by omega
  clear h1
  by_cases hb : ordB s = true
  rotate_left
  · have HB : Hid (ordB s = false) := Bool.eq_false_iff.2 hb
    clear hb
    go_enter Try.func4, Try.ntmps4
    go_wp2_with fail
    refine (ris_any _ s w HV.out HL3.out).mono ?_
    rw [HB.out]
    rintro e w1 ⟨rfl, he⟩
    have X1 := hide' he
    clear he
    go_wp2
    go_ret
    exact ⟨rfl, X1.out⟩
  · have HB := hide' hb
    have HB2 := hide' (ordB_inv hb)
    have HT := hide' (inv_twice hb)
    have HIL0 := hide' (invI_len hb)
    have HMEM : Hid (∀ i, i < s.length → ∃ p : Nat, s.getD i 0 = (p : Int) ∧ p < s.length ∧ (invI s).getD p 0 = (i : Int)) := fun i hi => by
      have hm := (ordB_mem hb).1 (getI_mem hi)
      obtain ⟨p, hp⟩ : ∃ p : Nat, s.getD i 0 = (p : Int) := ⟨(s.getD i 0).toNat, by omega⟩
      exact ⟨p, hp, by omega, invI_at hb hi hp⟩
    clear hb
    obtain ⟨I, HI⟩ : ∃ I, Hid (invI s = I) := ⟨_, rfl⟩
    rw [HI.out] at HB2 HT HIL0 HMEM
    have HIL : Hid (I.length ≤ 1000000) := by show _ ≤ _; rw [HIL0.out]; exact HL3.out
    obtain ⟨_, _, _, hcv⟩ := HV.out.int
    have CV := hide' hcv
    clear hcv
    go_enter Try.func4, Try.ntmps4
    go_wp2_with fail
    refine (ris_any _ s w HV.out HL3.out).mono ?_
    rw [HB.out]
    rintro e w1 ⟨rfl, he⟩
    have X1 := hide' he
    clear he
    go_wp2_with fail
    refine (rkInv_any _ s w1 (HV.out.ext X1.out) HL3.out).mono ?_
    rw [HI.out, HB.out]
    rintro e w2 ⟨u1, rfl, ho, he⟩
    have O2 := hide' ho.sl
    have X2 := hide' (X1.out.trans he)
    clear ho he X1
    go_wp2_with fail
    refine (rkInv_any _ I w2 O2.out HIL.out).mono ?_
    rw [HT.out, HB2.out]
    rintro e w3 ⟨u2, rfl, ho, he⟩
    have S3 := hide' ho.sl
    have O3 := hide' (O2.out.ext he)
    have X3 := hide' (X2.out.trans he)
    clear ho he X2 O2
    obtain ⟨n, HN⟩ : ∃ n, Hid (s.length = n) := ⟨_, rfl⟩
    rw [HN.out] at CV HV HMEM HIL0 d1 hn ⊢
    obtain ⟨a1, c1, hu1, _⟩ := O3.out
    rw [HIL0.out] at hu1
    subst hu1
    obtain ⟨_, _, _, hcv⟩ := O3.out.int
    have CI := hide' hcv
    clear hcv
    have hnn : ((n : Int) == (n : Int)) = true := by simp
    go_wp2_with fail
    refine (ints_same _ _ s w3 S3.out (HV.out.ext X3.out) HL3.out).mono ?_
    rintro e w4 ⟨rfl, he⟩
    have X4 := hide' (X3.out.trans he)
    have X34 := hide' he
    clear he X3
    go_wp2
    go_loopw [7] (fun vi wr => ∃ (i : Nat), i ≤ n ∧ vi = .int .i64 i ∧ ∃ m, wr = w4.drewN m) (fun vi _ => n - (intOf vi).toNat)
    case atStart => exact ⟨0, Nat.zero_le _, rfl, 0, rfl⟩
    case round =>
      obtain ⟨i, hi, rfl, d, rfl⟩ := hrel
      by_cases hlt : i < n
      · have hlt' : (i : Int) < n := by omega
        obtain ⟨g1, o1, rfl, k1⟩ := CV.out (by omega)
        obtain ⟨g2, o2, rfl, k2⟩ := CI.out (by omega)
        obtain ⟨p, hp, hpn, hip⟩ := HMEM.out i hlt
        have q1 := X4.out.cellOf (k1 i hlt)
        have q2 := X34.out.cellOf (k2 p hpn)
        rw [hp] at q1
        rw [hip] at q2
        clear k1 k2 hp hip
        have hpn' : (p : Int) < n := by omega
        go_wp2_with fail
        first
          | go_quiet (fail)
          | skip
        go_wp2
        go_roundw
        case rel => exact ⟨i + 1, by omega, by go_num, _, by first | rfl | exact World.drewN_drewN _ _ _⟩
        case measure => simp [intOf] <;> omega
      · have hlt' : decide ((i : Int) < n) = false := by simp; omega
        have X5 : Hid (Ext w (w4.drewN d)) := X4.out.trans (Ext.drewN _ _)
        generalize w4.drewN d = W at *
        go_wp2_with fail
        refine (known_any _).mono ?_
        rintro e w9 ⟨rfl, he⟩
        have X9 := hide' (X5.out.trans he)
        clear he
        go_wp2
        go_ret
        exact ⟨rfl, X9.out⟩
end Go.Proofs.Yteibpkeijodgmaa
