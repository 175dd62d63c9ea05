/- OmegaSame: the walk. -/
import Derived.Test.YtifemkgkgghapaaOmKnown
import Derived.Test.YtifemkgkgghapaaPerRef2
namespace Go.Proofs.Ytifemkgkgghapaa
set_option linter.unusedVariables false
set_option linter.unusedSimpArgs false
open Go.RowKit

theorem Sl.unique {k : IntKind} {w : World} {v : Value} {xs ys : List Int} (h : Sl k w v xs) (h' : Sl k w v ys) : xs = ys := by
  obtain ⟨a, c, rfl, _, _, _, h4⟩ := h
  obtain ⟨a', c', h1, _, _, _, h5⟩ := h'
  simp only [Value.slice.injEq] at h1
  obtain ⟨rfl, hl, rfl⟩ := h1
  refine getD_ext hl fun i hi => ?_
  rcases h4 with rfl | ⟨b, off, rfl, h6⟩
  · simp at hi
  rcases h5 with rfl | ⟨b', off', h7, h8⟩
  · simp at hl; rw [hl] at hi; simp at hi
  simp only [Option.some.injEq, Addr.mk.injEq, and_true] at h7
  obtain ⟨rfl, rfl⟩ := h7
  have e1 := h6 i hi
  rw [h8 i (by omega)] at e1
  simp only [Option.some.injEq, Value.int.injEq, true_and] at e1
  exact e1.symm

/-- What the calls of the region hand back. -/
def sameS (xs : List Int) (h0 : Nat) (f : FuncId) (args : Array Value) (v : Value) (w : World) : Prop :=
  match f with
  | 15 => Own .u8 5 h0 w v (repI xs (intOf (args.getD 1 undef)).toNat)
  | 8 => ∃ p q, Sl .u8 w (args.getD 0 undef) p ∧ Sl .u8 w (args.getD 1 undef) q ∧ v = .int .i64 (omI p q)
  | _ => v = .bool true
theorem sameS_1 {xs : List Int} {h0 : Nat} {s : Value} {n : Nat} {v : Value} {w : World} : sameS xs h0 15 #[s, .int .i64 (n : Int)] v w ↔ Own .u8 5 h0 w v (repI xs n) := Iff.rfl
theorem sameS_2 {xs : List Int} {h0 : Nat} {s t : Value} {v : Value} {w : World} : sameS xs h0 8 #[s, t] v w ↔ ∃ p q, Sl .u8 w s p ∧ Sl .u8 w t q ∧ v = .int .i64 (omI p q) := Iff.rfl
theorem sameS_3 {xs : List Int} {h0 : Nat} {args : Array Value} {v : Value} {w : World} : sameS xs h0 10 args v w ↔ v = .bool true := Iff.rfl
theorem two_up {s t v : Value} : UpW (fun w => ∃ p q, Sl .u8 w s p ∧ Sl .u8 w t q ∧ v = .int .i64 (omI p q)) := by
  rintro w w' he ⟨p, q, h1, h2, h3⟩
  exact ⟨p, q, h1.ext he, h2.ext he, h3⟩

set_option maxHeartbeats 1000000 in
set_option maxRecDepth 100000 in
theorem lawSame (u v : Value) (xs ys : List Int) (n m : Int) (w : World) (hu : Sl .u8 w u xs) (hv : Sl .u8 w v ys) (bu : Bytes8 xs) (bv : Bytes8 ys) :
    Calls Try.prog 5 #[u, .int .i64 n, .int .i64 m, v] w fun e w' => e = .returned (.bool true) ∧ Ext w w' := by
  have HU := hide' hu
  have HV := hide' hv
  obtain ⟨a, c, rfl, k1, k2, _⟩ := hu
  obtain ⟨a', c', rfl, k3, k4, _⟩ := hv
  have BU := hide' bu
  have BV := hide' bv
  clear bu bv
  unfold maxLen at k2 k4
  by_cases h0 : (xs.length : Int) < 1
  · go_enter Try.func5, Try.ntmps5
    go_wp2
    go_ret
    exact ⟨rfl, Ext.refl _⟩
  have d0 : decide ((xs.length : Int) < 1) = false := by simpa using h0
  by_cases h1 : (20 : Int) < (xs.length : Int)
  · go_enter Try.func5, Try.ntmps5
    go_wp2
    go_ret
    exact ⟨rfl, Ext.refl _⟩
  have d1 : decide ((20 : Int) < (xs.length : Int)) = false := by simpa using h1
  by_cases h2 : (ys.length : Int) < 1
  · go_enter Try.func5, Try.ntmps5
    go_wp2
    go_ret
    exact ⟨rfl, Ext.refl _⟩
  have d2 : decide ((ys.length : Int) < 1) = false := by simpa using h2
  by_cases h3 : (60 : Int) < (ys.length : Int)
  · go_enter Try.func5, Try.ntmps5
    go_wp2
    go_ret
    exact ⟨rfl, Ext.refl _⟩
  have d3 : decide ((60 : Int) < (ys.length : Int)) = false := by simpa using h3
  by_cases h4 : n < 1
  · go_enter Try.func5, Try.ntmps5
    go_wp2
    go_ret
    exact ⟨rfl, Ext.refl _⟩
  have d4 : decide (n < 1) = false := by simpa using h4
  by_cases h5 : 5 < n
  · go_enter Try.func5, Try.ntmps5
    go_wp2
    go_ret
    exact ⟨rfl, Ext.refl _⟩
  have d5 : decide (5 < n) = false := by simpa using h5
  by_cases h6 : m < 1
  · go_enter Try.func5, Try.ntmps5
    go_wp2
    go_ret
    exact ⟨rfl, Ext.refl _⟩
  have d6 : decide (m < 1) = false := by simpa using h6
  by_cases h7 : 5 < m
  · go_enter Try.func5, Try.ntmps5
    go_wp2
    go_ret
    exact ⟨rfl, Ext.refl _⟩
  have d7 : decide (5 < m) = false := by simpa using h7
  obtain ⟨n, rfl⟩ := Int.eq_ofNat_of_zero_le (show 0 ≤ n by omega)
  obtain ⟨m, rfl⟩ := Int.eq_ofNat_of_zero_le (show 0 ≤ m by omega)
  have l1 : xs.length ≤ 20 := by omega
  have l2 : ys.length ≤ 60 := by omega
  have p1 : 0 < xs.length := by omega
  have p2 : 0 < ys.length := by omega
  have n1 : 0 < n := by omega
  have n2 : n ≤ 5 := by omega
  have m1 : 0 < m := by omega
  have m2 : m ≤ 5 := by omega
  clear h0 h1 h2 h3 h4 h5 h6 h7
  have HL := hide' (omI_rep p1 n1 m1)
  have HQ := hide' (omI_root p1 p2)
  have R1 : Hid ((repI xs n).length ≤ 100000) := by
    have : n * xs.length ≤ 5 * 20 := Nat.mul_le_mul (by omega) l1
    show _ ≤ _; rw [repI_len]; omega
  have R2 : Hid ((repI xs m).length ≤ 100000) := by
    have : m * xs.length ≤ 5 * 20 := Nat.mul_le_mul (by omega) l1
    show _ ≤ _; rw [repI_len]; omega
  have HE := hide' (strOfNums_inj (xs := xs.take (rootN xs)) (ys := ys.take (rootN ys)) (BU.out.takeN _) (BV.out.takeN _))
  have C1 : Hid (∀ W, Ext w W → Calls Try.prog 8 #[.slice a xs.length c, .slice a' ys.length c'] W fun e w' => e = .returned (.int .i64 (omI xs ys)) ∧ Ext W w') := fun W h => toExt (omega_any _ _ xs ys W (HU.out.ext h) (HV.out.ext h) (by omega) (by omega))
  have C2 : Hid (∀ W, Ext w W → Calls Try.prog 15 #[.slice a xs.length c, .int .i64 (n : Int)] W fun e w' => ∃ s, e = .returned s ∧ Own .u8 5 W.heap.size w' s (repI xs n) ∧ Ext W w') := fun W h => times_any _ xs _ W (HU.out.ext h) (by omega) (by omega)
  have C3 : Hid (∀ W, Ext w W → Calls Try.prog 15 #[.slice a xs.length c, .int .i64 (m : Int)] W fun e w' => ∃ s, e = .returned s ∧ Own .u8 5 W.heap.size w' s (repI xs m) ∧ Ext W w') := fun W h => times_any _ xs _ W (HU.out.ext h) (by omega) (by omega)
  have C4 := hide' (rroot_any _ xs w HU.out BU.out (by omega))
  have C5 : Hid (∀ W, Ext w W → Calls Try.prog 14 #[.slice a' ys.length c'] W fun e w' => ∃ s, e = .returned (.tuple #[s, .int .i64 ((ys.length / rootN ys : Nat) : Int)]) ∧ Sl .u8 w' s (ys.take (rootN ys)) ∧ ∃ m, w' = W.drewN m) := fun W h => rroot_any _ ys W (HV.out.ext h) BV.out (by omega)
  generalize xs.take (rootN xs) = RX at *
  generalize ys.take (rootN ys) = RY at *
  generalize xs.length / rootN xs = T1 at *
  generalize ys.length / rootN ys = T2 at *
  obtain ⟨A, HA⟩ : ∃ A, Hid (omI xs ys = A) := ⟨_, rfl⟩
  rw [HA.out] at HQ C1
  have hq : (A == 0) = ((strOfNums RX).toList == (strOfNums RY).toList) := by
    rw [HE.out, Bool.eq_iff_iff]
    simp only [beq_iff_eq, decide_eq_true_eq]
    exact HQ.out
  generalize hST : ((strOfNums RX).toList == (strOfNums RY).toList) = st at *
  have hqq : (st == st) = true := by simp
  clear HE
  go_enter Try.func5, Try.ntmps5
  go_wp2_with fail
  refine C4.out.mono ?_
  rintro e w1 ⟨s1, rfl, ho, k, hw⟩
  have X1 : Hid (Ext w w1) := by rw [hw]; exact Ext.drewN _ _
  have O1 := hide' ho
  obtain ⟨as1, cs1, rfl, _⟩ := ho
  clear hw
  go_wp2_with fail
  refine (C5.out _ X1.out).mono ?_
  rintro e w2 ⟨s2, rfl, ho, k', hw⟩
  have E12 : Ext w1 w2 := by rw [hw]; exact Ext.drewN _ _
  have X2' : Hid (Ext w w2) := X1.out.trans E12
  have O1' := hide' (O1.out.ext E12)
  have O2 := hide' ho
  obtain ⟨as2, cs2, rfl, _⟩ := ho
  clear hw E12 O1
  go_wp2_with fail
  have hne := later_some w2
  have t1 := later_str (P := Try.prog) O1'.out 22 5 9 Try.underlying22 Try.underlying5 Try.underlying9
  have t2 := later_str (P := Try.prog) O2.out 22 5 9 Try.underlying22 Try.underlying5 Try.underlying9
  refine wp_region_k (sameS xs w2.heap.size) (by kernel_rfl) (by kernel_rfl) (by kernel_rfl) ?_
  refine lexK_take 2 (by kernel_rfl) ?_
  simp only [List.take_succ_cons, List.take_zero, List.drop_succ_cons, List.drop_zero]
  repeat (go_big_quiet_step (fail))
  refine wpQuiet_nil ?_
  refine lexK_call 15 #[.slice a xs.length c, .int .i64 (n : Int)] (fun v w1 w2 h12 h => Own.ext h h12) rfl (fun w' => ?_) (fun w' he' _ => (C2.out w' (X2'.out.trans he')).mono fun e w'' ⟨s, h1, h2, h3⟩ => ⟨s, h1, h3, sameS_1.2 (h2.low he'.size)⟩) ?_
  · go_simp
  intro s3 w3 _ _ _
  simp only [Act.put, List.setIfInBounds_toArray, List.set_cons_succ, List.set_cons_zero]
  refine lexK_take 2 (by kernel_rfl) ?_
  simp only [List.take_succ_cons, List.take_zero, List.drop_succ_cons, List.drop_zero]
  repeat (go_big_quiet_step (fail))
  refine wpQuiet_nil ?_
  refine lexK_call 15 #[.slice a xs.length c, .int .i64 (m : Int)] (fun v w1 w2 h12 h => Own.ext h h12) rfl (fun w' => ?_) (fun w' he' _ => (C3.out w' (X2'.out.trans he')).mono fun e w'' ⟨s, h1, h2, h3⟩ => ⟨s, h1, h3, sameS_1.2 (h2.low he'.size)⟩) ?_
  · go_simp
  intro s4 w4 _ _ _
  simp only [Act.put, List.setIfInBounds_toArray, List.set_cons_succ, List.set_cons_zero]
  refine lexK_call 8 #[s3, s4] (fun v => two_up) rfl (fun w' => ?_) (fun w' he' hf => ?_) ?_
  · go_simp
  · have o3 := (sameS_1.1 ((hf 59 (by decide)).1.2 rfl)).sl
    have o4 := (sameS_1.1 ((hf 62 (by decide)).2 rfl)).sl
    exact (toExt (omega_any _ _ _ _ w' o3 o4 R1.out R2.out)).mono fun e w'' ⟨h1, h2⟩ => ⟨_, h1, h2, sameS_2.2 ⟨_, _, o3.ext h2, o4.ext h2, rfl⟩⟩
  intro v5 w5 _ hf5 hv5
  obtain rfl : v5 = .int .i64 0 := by
    obtain ⟨p, q, h1, h2, h3⟩ := sameS_2.1 hv5
    have o3 := (sameS_1.1 ((hf5 59).1.2 rfl)).sl
    have o4 := (sameS_1.1 ((hf5 62).2 rfl)).sl
    rw [h3, h1.unique o3, h2.unique o4, HL.out]
  clear hf5 hv5
  simp only [Act.put, List.setIfInBounds_toArray, List.set_cons_succ, List.set_cons_zero]
  refine lexK_take 4 (by kernel_rfl) ?_
  simp only [List.take_succ_cons, List.take_zero, List.drop_succ_cons, List.drop_zero]
  repeat (go_big_quiet_step (fail))
  refine wpQuiet_nil ?_
  refine lexK_call 8 #[.slice a xs.length c, .slice a' ys.length c'] (fun v => two_up) rfl (fun w' => ?_) (fun w' he' hf => ?_) ?_
  · go_simp
  · have hx := X2'.out.trans he'
    exact (C1.out w' hx).mono fun e w'' ⟨h1, h2⟩ => ⟨_, h1, h2, sameS_2.2 ⟨xs, ys, (HU.out.ext hx).ext h2, (HV.out.ext hx).ext h2, by rw [HA.out]⟩⟩
  intro v6 w6 hx6 hf6 hv6
  obtain rfl : v6 = .int .i64 A := by
    obtain ⟨p, q, h1, h2, h3⟩ := sameS_2.1 hv6
    have hx := X2'.out.trans hx6
    rw [h3, h1.unique (HU.out.ext hx), h2.unique (HV.out.ext hx), HA.out]
  clear hf6 hv6 hx6
  simp only [Act.put, List.setIfInBounds_toArray, List.set_cons_succ, List.set_cons_zero]
  refine lexK_take 9 (by kernel_rfl) ?_
  simp only [List.take_succ_cons, List.take_zero, List.drop_succ_cons, List.drop_zero]
  repeat (go_big_quiet_step (fail))
  refine wpQuiet_nil ?_
  refine lexK_call1 10 #[] (.bool true) (fun _ _ => sameS_3) rfl (fun w' => ?_) (fun w' _ _ => known_any w') ?_
  · go_simp
  simp only [Act.put, List.setIfInBounds_toArray, List.set_cons_succ, List.set_cons_zero]
  refine lexK_take 2 (by kernel_rfl) ?_
  simp only [List.take_succ_cons, List.take_zero, List.drop_succ_cons, List.drop_zero]
  repeat (go_big_quiet_step (fail))
  refine wpQuiet_nil ?_
  refine lexK_nil ?_
  intro w7 he7 _
  clear hne t1 t2
  go_wp2
  go_ret
  exact ⟨rfl, X2'.out.trans he7⟩
end Go.Proofs.Ytifemkgkgghapaa
