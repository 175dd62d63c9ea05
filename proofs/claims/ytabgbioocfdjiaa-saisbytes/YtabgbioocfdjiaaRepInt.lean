/- Contract of slices.Repeat at one int. -/
import Derived.Laws.CopyRow
import Derived.Laws.IdiomCopy
import Derived.BigRegion
import Derived.Test.YtabgbioocfdjiaaMul
import Derived.Test.YtabgbioocfdjiaaNatRow
namespace Go.Proofs.Ytabgbioocfdjiaa
set_option linter.unusedVariables false
set_option linter.unusedSimpArgs false
open Go.RowKit

/-- 'copy(s[o:], x)', s the call's own. -/
theorem copy_own {B : Nat} {w : World} {g n cap : Nat} {zs : List Int} (ys : List Int) (h : Own .i64 3 B w (.slice (some ⟨g, 0, none⟩) n cap) zs) (hn : zs.length = n) {o d dCap b off sLen sCap : Nat} (hod : o + d ≤ n)
    (hs : ∀ i, i < ys.length → w.cell? ⟨b, off + i, none⟩ = some (.int .i64 (ys.getD i 0))) (hl : ys.length = Nat.min sLen d) :
    ∃ w', (∀ ty, (Builtin.copy_ #[22, 22] ty #[.slice (some ⟨g, o, none⟩) d dCap, .slice (some ⟨b, off, none⟩) sLen sCap]).run Try.prog w = .ok (goInt ys.length) w') ∧
      Own .i64 3 B w' (.slice (some ⟨g, 0, none⟩) n cap) (zs.take o ++ ys ++ zs.drop (o + ys.length)) ∧ But g w w' := by
  have hyd : ys.length ≤ d := by rw [hl]; exact Nat.min_le_right _ _
  obtain ⟨h1, h2⟩ := h
  rcases h2 with ⟨h2, _⟩ | ⟨g', cap', cur, h2, hB, hh, h3, h4, h5, h6⟩
  · cases h2
  · simp only [Value.slice.injEq, Option.some.injEq, Addr.mk.injEq] at h2
    obtain ⟨⟨rfl, _⟩, _, rfl⟩ := h2
    rw [Nat.mul_one] at h5 h6
    have hcn : cur.toList.length = cap := by simpa using h5
    obtain ⟨i0, hi, hz0, hz1, hz2⟩ := info_parts infoI64
    refine ⟨w.setRow g (cur.toList.take o ++ ys.map (Value.int .i64) ++ cur.toList.drop (o + (ys.map (Value.int .i64)).length)).toArray, fun ty => ?_, ?_, ?_⟩
    · have := run_copy_row (P := Try.prog) w 22 22 ty 3 g o d dCap ⟨b, off, none⟩ sLen sCap cur 3 (ys.map (Value.int .i64)) Try.underlying22 (by rw [hi]; simp [hz1]) hh (by rw [List.length_map]; exact hl)
        (fun j v hj => by
          have hjl : j < ys.length := by
            rcases Nat.lt_or_ge j ys.length with q | q
            · exact q
            · simp [List.getElem?_eq_none (show (ys.map (Value.int .i64)).length ≤ j by simpa using q)] at hj
          rw [Go.WideShapes.add_plain, hs j hjl]
          simp [List.getElem?_eq_getElem hjl] at hj
          subst hj
          simp [List.getD, List.getElem?_eq_getElem hjl]) (by rw [List.length_map, h5]; omega) (ints_one ys)
      rw [List.length_map (f := Value.int .i64)] at this ⊢
      exact this
    · refine ⟨by simp, .inr ⟨g, cap, _, ?_, hB, setRow_heap w g cur _ 3 (0, 0) hh, by simp; omega, h4, ?_, ?_⟩⟩
      · rw [show (zs.take o ++ ys ++ zs.drop (o + ys.length)).length = n by simp; omega]
      · simp; omega
      · rw [show (zs.take o ++ ys ++ zs.drop (o + ys.length)).length = n by simp; omega, Nat.mul_one]
        simp only [List.map_append, List.map_take, List.map_drop, List.length_map]
        rw [← h6]
        have e1 : cur.toList = cur.toList.take n ++ cur.toList.drop n := (List.take_append_drop _ _).symm
        rw [hn]
        apply List.ext_getElem?
        intro i
        simp only [List.getElem?_take, List.getElem?_append, List.length_append, List.length_take, List.length_map, List.getElem?_drop, hcn]
        by_cases hin : i < n
        · rw [if_pos hin]
          split
          · split
            · rw [if_pos (by omega), if_pos (by omega), if_pos (by omega)]
            · rw [if_pos (by omega), if_neg (by omega)]
              congr 1
              omega
          · rw [if_neg (by omega), if_pos (by omega)]
            congr 1
            omega
        · rw [if_neg hin, if_neg (by omega), if_neg (by omega)]
    · exact ⟨rfl, rfl, rfl, by simp [World.setRow], fun k _ hne => setRow_other w g k _ (fun e => hne (by rw [e]))⟩

theorem rep_step (z : Int) (k m d : Nat) (h : m ≤ d) : (List.replicate k z ++ List.replicate d 0).take k ++ List.replicate m z ++ (List.replicate k z ++ List.replicate d 0).drop (k + m) = List.replicate (k + m) z ++ List.replicate (d - m) 0 := by
  rw [List.take_left' (by simp), ← List.drop_drop, List.drop_left' (by simp), List.drop_replicate, List.replicate_append_replicate]
theorem rep_take (z : Int) (k m d : Nat) (h : m ≤ k) : ∀ i, i < m → (List.replicate k z ++ List.replicate d 0).getD i 0 = (List.replicate m z).getD i 0 := fun i hi => by
  simp [List.getD, List.getElem?_append, List.getElem?_replicate, hi, show i < k by omega]

set_option maxHeartbeats 1000000 in
theorem repeat_any (v : Value) (z : Int) (n : Nat) (w : World) (hv : Sl .i64 w v [z]) (hn : n ≤ 1000000) :
    Calls Try.prog 38 #[v, .int .i64 n] w fun e w' => e = .returned (.slice (some ⟨w.heap.size, 0, none⟩) n n) ∧ Own .i64 3 w.heap.size w' (.slice (some ⟨w.heap.size, 0, none⟩) n n) (List.replicate n z) ∧ Ext w w' := by
  have HV := hide' hv
  obtain ⟨a, c, rfl, _⟩ := hv
  obtain ⟨_, _, _, hcv⟩ := HV.out.int
  obtain ⟨b1, o1, rfl, k1⟩ := hcv (by simp)
  have K1 := hide' (k1 0 (by simp))
  clear k1 hcv
  obtain ⟨w1, hmk, ho, he⟩ := make_ints w n hn
  have HO := hide' ho
  have HE := hide' he
  have c1 : IntKind.u64.wrap 1 = 1 := by decide
  have c2 : IntKind.u64.wrap (n : Int) = (n : Int) := by rw [IntKind.wrap_u64]; omega
  have c3 : IntKind.i64.wrap (n : Int) = (n : Int) := by rw [IntKind.wrap_i64]; omega
  have c4 : decide ((n : Int) < 0) = false := by simp
  have HM : Hid (Calls Try.prog 40 #[.int .u64 1, .int .u64 n] w fun e w' => e = .returned (.tuple #[.int .u64 0, .int .u64 n]) ∧ w' = w) := by
    have h := mul_any 1 n (by omega) (by omega) w
    rw [Nat.one_mul, Nat.div_eq_of_lt (by omega), Nat.mod_eq_of_lt (by omega)] at h
    exact h
  have c5 : decide ((n : Int) > 9223372036854775807) = false := by simp; omega
  have c6 : decide ((9223372036854775807 : Int) < n) = false := by simp; omega
  clear ho he
  obtain ⟨g, HG⟩ : ∃ g, Hid (w.heap.size = g) := ⟨_, rfl⟩
  have hgw : w.heap.size ≤ g := by rw [HG.out]; exact Nat.le_refl _
  rw [HG.out] at HO hmk ⊢
  go_enter Try.func38, Try.ntmps38
  go_wp2_with fail
  refine HM.out.mono ?_
  rintro e _ ⟨rfl, hw⟩
  rw [hw]
  clear hw HM
  obtain ⟨m0, HM0⟩ : ∃ m, Hid (Nat.min 1 n = m) := ⟨_, rfl⟩
  have hm0 : m0 ≤ n := by rw [← HM0.out]; exact Nat.min_le_right _ _
  have hm1 : m0 ≤ 1 := by rw [← HM0.out]; exact Nat.min_le_left _ _
  have hm2 : n = 0 ∨ 0 < m0 := by
    by_cases h0 : n = 0
    · exact .inl h0
    · refine .inr ?_
      rw [← HM0.out]
      exact Nat.lt_min.2 ⟨by omega, by omega⟩
  obtain ⟨w2, hcp, ho, hb⟩ := copy_own (o := 0) (d := n) (dCap := n) (b := b1) (off := o1) (sLen := 1) (sCap := c) (List.replicate m0 z) HO.out (by simp) (by omega) (fun i hi => HE.out.cellOf (by
    rw [List.length_replicate] at hi
    have e0 : i = 0 := by omega
    subst e0
    rw [K1.out]
    simp [List.getD, hi])) (by rw [List.length_replicate]; exact HM0.out.symm)
  rw [List.length_replicate] at hcp
  have hcp' : ∀ ty, (Builtin.copy_ #[22, 22] ty #[.slice (some ⟨g, 0, none⟩) n n, .slice (some ⟨b1, o1, none⟩) 1 c]).run Try.prog w1 = .ok (.int .i64 (m0 : Int)) w2 := hcp
  have O2 : Hid (Own .i64 3 g w2 (.slice (some ⟨g, 0, none⟩) n n) (List.replicate m0 z ++ List.replicate (n - m0) 0)) := by
    have := ho
    simp only [List.take_zero, List.nil_append, List.length_replicate, Nat.zero_add, List.drop_replicate] at this
    exact this
  have E2 : Hid (Ext w w2) := Ext.but HE.out hgw hb
  have HM2 := hide' hm2
  clear hcp ho hb HE HO hm2
  go_wp2
  go_loopw [8] (fun vk wr => ∃ (k d : Nat), n = k + d ∧ Hid (d = 0 ∨ 0 < k) ∧ vk = .int .i64 k ∧ Hid (Own .i64 3 g wr (.slice (some ⟨g, 0, none⟩) n n) (List.replicate k z ++ List.replicate d 0)) ∧ Hid (Ext w wr)) (fun vk _ => n - (intOf vk).toNat)
  case atStart => exact ⟨m0, n - m0, by omega, (by show _ ∨ _; rcases HM2.out with h | h; exact .inl (by omega); exact .inr h), rfl, O2, E2⟩
  case round =>
    clear O2 E2
    obtain ⟨k, d, hkd, HK, rfl, HO, HE⟩ := hrel
    have HKD := hide' hkd
    by_cases hd : d = 0
    · subst hd
      have d1 : decide ((k : Int) < n) = false := by simp; omega
      have hkn : n = k := by omega
      clear hkd
      go_wp2
      go_ret
      have := HO.out
      rw [hkn] at this
      exact ⟨rfl, by simpa using this, HE.out⟩
    · have hlt : (k : Int) < n := by omega
      obtain ⟨m, HM⟩ : ∃ m, Hid (Nat.min k d = m) := ⟨_, rfl⟩
      have hmk : m ≤ k := by rw [← HM.out]; exact Nat.min_le_left _ _
      have hmd : m ≤ d := by rw [← HM.out]; exact Nat.min_le_right _ _
      have hm3 : 0 < m := by rw [← HM.out]; exact Nat.lt_min.2 ⟨by rcases HK.out with h | h <;> omega, by omega⟩
      have HL : Hid ((List.replicate k z ++ List.replicate d (0 : Int)).length = n) := by show _ = _; simp; omega
      obtain ⟨w3, hcp, ho, hb⟩ := copy_own (w := wr.drew) (o := k) (d := d) (dCap := d) (b := g) (off := 0) (sLen := k) (sCap := n) (List.replicate m z) (HO.out.ext (Ext.drewN wr 1)) HL.out (by omega) (fun i hi => by
        rw [List.length_replicate] at hi
        show (wr.drewN 1).cell? _ = _
        rw [Nat.zero_add, (HO.out.ext (Ext.drewN wr 1)).cell HL.out i (by omega), rep_take z k m d hmk i hi]) (by rw [List.length_replicate]; exact HM.out.symm)
      rw [List.length_replicate] at hcp
      rw [List.length_replicate, rep_step z k m d hmd] at ho
      have hcp' : ∀ ty, (Builtin.copy_ #[22, 22] ty #[.slice (some ⟨g, k, none⟩) d d, .slice (some ⟨g, 0, none⟩) k n]).run Try.prog wr.drew = .ok (.int .i64 (m : Int)) w3 := hcp
      have O3 := hide' ho
      have E3 : Hid (Ext w w3) := Ext.but (HE.out.trans (Ext.drewN wr 1)) hgw hb
      have hr1 : ∀ W, (Instr.slice 22 (.slice (some ⟨g, 0, none⟩) n n) (some (.int .i64 (k : Int))) none none).run Try.prog W = .ok (.slice (some ⟨g, k, none⟩) d d) W := fun W => by
        rw [run_slice_l W _ _ _ _ (show Try.prog.underlying 22 = some (.slice (Try.prog.elem 22)) by kernel_rfl) .i64 _ (by omega) (by omega), show Try.prog.elem 22 = 3 by kernel_rfl, sizeI64]
        simp only [Result.andThen, Int.toNat_natCast, sliced, Nat.mul_one]
        rw [show n - k = d by omega, if_neg (by omega)]
        have hk0 : k ≠ 0 := by rcases HK.out with h | h <;> omega
        simp [Addr.add, hk0]
      have hr2 : ∀ W, (Instr.slice 22 (.slice (some ⟨g, 0, none⟩) n n) none (some (.int .i64 (k : Int))) none).run Try.prog W = .ok (.slice (some ⟨g, 0, none⟩) k n) W := fun W => by
        exact ((Own.sl HO.out).runTake (P := Try.prog) 22 3 Try.underlying22 sizeI64 k (by rw [HL.out]; omega)).1 W
      clear hcp ho hb HO HE hkd
      go_wp2_with fail
      go_big_region
      all_goals
        go_wp2
        go_roundw
        case rel => exact ⟨k + m, d - m, by have := HKD.out; omega, (by show _ ∨ _; exact .inr (by omega)), by go_num, O3, E3⟩
        case measure => have := HKD.out; simp [intOf] <;> omega
end Go.Proofs.Ytabgbioocfdjiaa
