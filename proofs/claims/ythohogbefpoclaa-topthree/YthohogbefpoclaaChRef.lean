/- Contracts of the document's own SA and LCP: whorlref19. -/
import Derived.Test.YthohogbefpoclaaPart4
import Derived.Test.YthohogbefpoclaaPart5
import Derived.Test.YthohogbefpoclaaRefBytes
import Derived.Test.YthohogbefpoclaaPart2
namespace Go.Proofs.Ythohogbefpoclaa
set_option linter.unusedVariables false
set_option linter.unusedSimpArgs false
open Go.RowKit

theorem rsa_any (v u : Value) (s a : List Int) (w : World) (hv : Sl .u8 w v s) (h8 : Bytes8 s) (hu : Sl .i64 w u a) (hs : s.length ≤ 100000) (ha : a.length ≤ 1000000) :
    Calls Try.prog 18 #[v, u] w fun e w' => e = .returned (.bool (saB s a)) ∧ Ext w w' := by
  have HV := hide' hv
  have HU := hide' hu
  have H8 := hide' h8
  have HS := hide' hs
  have HA := hide' ha
  obtain ⟨va, vc, rfl, _⟩ := hv
  obtain ⟨ua, uc, rfl, _⟩ := hu
  clear h8 hs ha
  go_enter Try.func18, Try.ntmps18
  go_wp2_with fail
  refine (srBytes_any _ s w HV.out H8.out HS.out).mono ?_
  rintro e w1 ⟨u1, L1, rfl, hR, ho, he⟩
  obtain ⟨_, R, hR2, rfl⟩ := hR.ok HS.out (fit256 H8.out)
  have HSA := hide' (saB_ord hR2 a)
  have HRL : Hid ((natL R).length ≤ 1000000) := by show _ ≤ _; rw [natL_len, hR2.len]; have := HS.out; omega
  have O1 := hide' ho.sl
  have X1 := hide' he
  clear hR hR2 ho he
  obtain ⟨A, HAA⟩ : ∃ A, Hid (natL R = A) := ⟨_, rfl⟩
  rw [HAA.out] at O1 HSA HRL
  go_wp2_with fail
  refine (ints_any _ _ a A w1 (HU.out.ext X1.out) O1.out HA.out HRL.out).mono ?_
  rintro e w2 ⟨rfl, m, he⟩
  have X2 := hide' (X1.out.trans (show Ext w1 w2 by rw [he]; exact Ext.drewN _ _))
  clear he
  go_wp2
  go_ret
  exact ⟨by rw [HSA.out]; rfl, X2.out⟩

theorem rchk_any (v u t : Value) (s a h : List Int) (w : World) (hv : Sl .u8 w v s) (h8 : Bytes8 s) (hu : Sl .i64 w u a) (ht : Sl .i64 w t h) (hs : s.length ≤ 100000) (ha : a.length ≤ 1000000) (hh : h.length ≤ 1000000) :
    Calls Try.prog 20 #[v, u, t] w fun e w' => e = .returned (.bool (chkB s a h)) ∧ Ext w w' := by
  have HV := hide' hv
  have HU := hide' hu
  have HT := hide' ht
  have H8 := hide' h8
  have HS := hide' hs
  have HA := hide' ha
  have HH := hide' hh
  obtain ⟨va, vc, rfl, _⟩ := hv
  obtain ⟨ua, uc, rfl, _⟩ := hu
  obtain ⟨ta, tc, rfl, _⟩ := ht
  have HLL : Hid ((lcpL s a).length ≤ 1000000) := Nat.le_trans (lcpL_le s a) ha
  clear h8 hs ha hh
  go_enter Try.func20, Try.ntmps20
  go_wp2_with fail
  refine (rlcp_any _ _ s a w HV.out HU.out (Nat.le_trans HS.out (by omega)) HA.out).mono ?_
  cases hok : lcpOk s a
  · have HC : Hid (chkB s a h = false) := chkB_not (Bool.eq_false_iff.2 fun e => by rw [saB_ok e] at hok; cases hok)
    clear hok
    rintro e w1 ⟨u1, rfl, ho, he⟩
    have X1 := hide' he
    clear ho he
    go_wp2
    go_ret
    exact ⟨by rw [HC.out]; rfl, X1.out⟩
  · rintro e w1 ⟨u1, rfl, ho, he⟩
    have O1 := hide' ho.sl
    have X1 := hide' he
    clear ho he hok
    go_wp2_with fail
    refine (rsa_any _ _ s a w1 (HV.out.ext X1.out) H8.out (HU.out.ext X1.out) HS.out HA.out).mono ?_
    cases hsa : saB s a
    · have HC : Hid (chkB s a h = false) := chkB_not hsa
      clear hsa
      rintro e w2 ⟨rfl, he⟩
      have X2 := hide' (X1.out.trans he)
      clear he
      go_wp2
      go_ret
      exact ⟨by rw [HC.out]; rfl, X2.out⟩
    · have HC : Hid (chkB s a h = decide (lcpL s a = h)) := by show _ = _; unfold chkB; rw [hsa, Bool.true_and]
      clear hsa
      rintro e w2 ⟨rfl, he⟩
      have O2 := hide' (O1.out.ext he)
      have X2 := hide' (X1.out.trans he)
      clear he O1
      obtain ⟨L, HL⟩ : ∃ L, Hid (lcpL s a = L) := ⟨_, rfl⟩
      rw [HL.out] at O2 HLL HC
      go_wp2_with fail
      refine (ints_any _ _ L h w2 O2.out (HT.out.ext X2.out) HLL.out HH.out).mono ?_
      rintro e w3 ⟨rfl, m, he⟩
      have X3 := hide' (X2.out.trans (show Ext w2 w3 by rw [he]; exact Ext.drewN _ _))
      clear he
      go_wp2
      go_ret
      exact ⟨by rw [HC.out]; rfl, X3.out⟩
end Go.Proofs.Ythohogbefpoclaa
