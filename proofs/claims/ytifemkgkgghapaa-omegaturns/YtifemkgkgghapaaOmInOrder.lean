/- Contract of omega.inOrder. -/
import Derived.Test.YtifemkgkgghapaaOmInMath
import Derived.Test.YtifemkgkgghapaaOmRanked
namespace Go.Proofs.Ytifemkgkgghapaa
set_option linter.unusedVariables false
set_option linter.unusedSimpArgs false
open Go.RowKit

set_option maxHeartbeats 2000000 in
theorem inOrder_any (v u : Value) (rs ah : List Nat) (M : Nat) (b : Nat → Int) (nx : Nat → Nat) (w : World) (hv : Sl .i64 w v (natL rs)) (hu : Sl .i64 w u (natL ah)) (hI : InO M b nx 0 rs ah) (hM : M ≤ 100000) :
    Calls Try.prog 21 #[v, u] w fun e w' => ∃ s ord, e = .returned s ∧ ord.Perm (List.range M) ∧ ord.Pairwise (RR b nx) ∧ Own .i64 3 w.heap.size w' s (natL ord) ∧ Ext w w' := by
  have HV := hide' hv
  have HU := hide' hu
  have HI := hide' hI
  clear hv hu hI
  go_enter Try.func21, Try.ntmps21
  go_wp2
  go_loopw [0, 1, 5] (fun vr va vn wr => ∃ (num : Nat) (rs ah : List Nat), num ≤ M ∧ vn = .int .i64 num ∧ Hid (InO M b nx num rs ah) ∧ Hid (Sl .i64 wr vr (natL rs)) ∧ Hid (Sl .i64 wr va (natL ah)) ∧ Hid (Ext w wr)) (fun _ _ vn _ => M - (intOf vn).toNat)
  case atStart => exact ⟨0, rs, ah, Nat.zero_le _, rfl, HI, HV, HU, Ext.refl _⟩
  case round =>
    clear HI HV HU
    obtain ⟨num, rs, ah, hn, rfl, HI, HV, HU, HE⟩ := hrel
    have LR := hide' HI.out.lr
    have LA := hide' HI.out.la
    obtain ⟨a, c, hva, _⟩ := HV.out
    rw [natL_len, LR.out] at hva
    subst hva
    have NL := numL_le M rs ah
    have TH := hide' HI.out.thLen
    go_wp2_with fail
    refine (through_any _ _ ah rs wr HU.out HV.out (fun p hp => by rw [LR.out]; exact HI.out.asIn p hp) (by rw [LA.out]; omega)).mono ?_
    rintro e w1 ⟨s1, rfl, ho, he⟩
    have O1 : Hid (Sl .i64 w1 s1 (natL (thL rs ah))) := ho.sl
    have E1 := hide' he
    clear ho he
    go_wp2_with fail
    refine (counted_any M w1 (by omega)).mono ?_
    rintro e w2 ⟨s2, rfl, ho, he⟩
    have O2 := hide' ho.sl
    have E2 := hide' he
    clear ho he
    go_wp2_with fail
    refine (sorted_any _ _ (List.range M) (thL rs ah) M w2 O2.out (O1.out.ext E2.out) (List.Perm.refl _) TH.out HI.out.thBd hM).mono ?_
    rintro e w3 ⟨s3, rfl, ho, he⟩
    have O3 := hide' ho.sl
    have E3 := hide' he
    clear ho he
    go_wp2_with fail
    refine (sorted_any _ _ _ rs M w3 O3.out (((HV.out.ext E1.out).ext E2.out).ext E3.out) HI.out.perm1 LR.out HI.out.bd hM).mono ?_
    rintro e w4 ⟨s4, rfl, ho, he⟩
    have O4 : Hid (Own .i64 3 w3.heap.size w4 s4 (natL (ordL M rs ah))) := ho
    have E4 := hide' he
    have S4 := hide' O4.out.sl
    clear ho he
    have X4 : Hid (Ext wr w4) := ((E1.out.trans E2.out).trans E3.out).trans E4.out
    have X14 : Hid (Ext w1 w4) := (E2.out.trans E3.out).trans E4.out
    go_wp2_with fail
    refine (ranked_any _ _ _ (ordL M rs ah) rs (thL rs ah) M w4 S4.out (HV.out.ext X4.out) (O1.out.ext X14.out) HI.out.perm LR.out TH.out hM).mono ?_
    rintro e w5 ⟨s5, bs, rfl, hbl, hbs, ho, he⟩
    have O5 := hide' ho.sl
    have E5 := hide' he
    have BL := hide' hbl
    have BS := hide' hbs
    have hsz3 : w.heap.size ≤ w3.heap.size := (((HE.out.trans E1.out).trans E2.out).trans E3.out).size
    have O4' := hide' ((O4.out.ext E5.out).low hsz3)
    have XE : Hid (Ext w w5) := (HE.out.trans X4.out).trans E5.out
    have U5 : Hid (Sl .i64 w5 u1 (natL ah)) := (HU.out.ext X4.out).ext E5.out
    clear ho he hbl hbs
    change _ ≤ M at NL
    have NN : Hid (numL M rs ah = clsT (ordL M rs ah) (fun p => rs.getD p 0) (fun p => (thL rs ah).getD p 0) M) := rfl
    by_cases hq : numL M rs ah = num
    · have PW := hide' (HI.out.stop BS.out hq)
      have PM := hide' HI.out.perm
      have hqq : ((clsT (ordL M rs ah) (fun p => rs.getD p 0) (fun p => (thL rs ah).getD p 0) M : Nat) : Int) = (num : Int) := by rw [← NN.out, hq]
      rw [hqq]
      clear hqq hq
      go_wp2
      go_ret
      exact ⟨_, ordL M rs ah, rfl, PM.out, PW.out, O4'.out, XE.out⟩
    · have NX := hide' (HI.out.next BL.out BS.out hq)
      have hlt : num < numL M rs ah := NX.out.2
      obtain ⟨q, HQ⟩ : ∃ q, Hid (numL M rs ah = q) := ⟨_, rfl⟩
      have hqq : ((clsT (ordL M rs ah) (fun p => rs.getD p 0) (fun p => (thL rs ah).getD p 0) M : Nat) : Int) = (q : Int) := by rw [← NN.out, HQ.out]
      rw [hqq]
      rw [HQ.out] at NL hlt NX
      have d1 : ((q : Int) == (num : Int)) = false := by simp; omega
      clear hqq hq
      go_wp2_with fail
      refine (through_any _ _ ah ah w5 U5.out U5.out (fun p hp => by rw [LA.out]; exact HI.out.asIn p hp) (by rw [LA.out]; omega)).mono ?_
      rintro e w6 ⟨s6, rfl, ho, he⟩
      have O6 : Hid (Sl .i64 w6 s6 (natL (thL ah ah))) := ho.sl
      have O56 := hide' (O5.out.ext he)
      have X6 := hide' (XE.out.trans he)
      clear ho he
      go_wp2
      go_roundw
      case rel => exact ⟨q, bs, thL ah ah, NL, rfl, NX.out.1, O56, O6, X6⟩
      case measure => simp [intOf]; omega
end Go.Proofs.Ytifemkgkgghapaa
