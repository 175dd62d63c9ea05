/- LfCycles: the walk. -/
import Derived.Test.YticblbegjfcbdaaPart2
namespace Go.Proofs.Yticblbegjfcbdaa
set_option linter.unusedVariables false
set_option linter.unusedSimpArgs false
open Go.RowKit


set_option maxHeartbeats 1000000 in
theorem lawCycles (v : Value) (l : List Int) (w : World) (hv : Sl .i64 w v l) :
    Calls Try.prog 4 #[v] w fun e w' => e = .returned (.bool true) ∧ Ext w w' := by
  have HV := hide' hv
  obtain ⟨a, c, rfl, _⟩ := hv
  by_cases h1 : (200 : Int) < (l.length : Int)
  · go_enter Try.func4, Try.ntmps4
    go_wp2
    go_ret
    exact ⟨rfl, Ext.refl _⟩
  have d1 : decide ((200 : Int) < (l.length : Int)) = false := by simpa using h1
  have HL : Hid (l.length ≤ 200) := by show _ ≤ _; omega
  have C1 := hide' (fun w' (he : Ext w w') => lfCycles_any _ l w' (HV.out.ext he) (by have := HL.out; omega))
  have C2 := hide' (fun w' (he : Ext w w') => rlfCycles_any _ l w' (HV.out.ext he) (by have := HL.out; omega))
  obtain ⟨n, HN⟩ : ∃ n, Hid (l.length = n) := ⟨_, rfl⟩
  obtain ⟨b, HB⟩ : ∃ b, Hid (ordB l = b) := ⟨_, rfl⟩
  rw [HB.out] at C1 C2
  rw [HN.out] at C1 C2 HL d1 ⊢
  clear h1 HV
  go_enter Try.func4, Try.ntmps4
  go_wp2_with fail
  refine (C1.out _ (Ext.refl _)).mono ?_
  rintro e w2 ⟨cs, t, us, rfl, hcs, ho, hr, he⟩
  have HCS := hide' hcs
  have V2 := hide' ho.sl
  have R2 := hide' hr.read
  have X2 := hide' he
  clear hcs ho hr he C1
  go_wp2_with fail
  refine (C2.out _ X2.out).mono ?_
  rintro e w4 ⟨ds, t', us', rfl, hds, ho, hr, he⟩
  have hdc := hds.eq HCS.out
  subst hdc
  have U4 := hide' ho.sl
  have Q4 := hide' hr.read
  have V4 := hide' (V2.out.ext he)
  have R4 := hide' (R2.out.ext he)
  have X4 := hide' (X2.out.trans he)
  clear hds ho hr he V2 R2 X2
  have HK : Hid (∀ k, ((ds.map natL).getD k []).length ≤ 1000000) := fun k => Nat.le_trans (HCS.out.len k) (by have := HN.out; have := HL.out; omega)
  have HKN : Hid ((ds.map natL).length ≤ 1000000) := Nat.le_trans HCS.out.num (by have := HN.out; have := HL.out; omega)
  have dbb : (b != b) = false := by simp
  go_wp2_with fail
  refine (rlfRows_any _ _ _ _ (ds.map natL) (ds.map natL) _ V4.out R4.out U4.out Q4.out HK.out HK.out HKN.out HKN.out).mono ?_
  rw [decide_eq_true rfl]
  rintro e w5 ⟨rfl, he⟩
  have V5 := hide' (V4.out.ext he)
  have R5 := hide' (R4.out.ext he)
  have X5 := hide' (X4.out.trans he)
  clear he V4 R4 X4 U4 Q4
  obtain ⟨va, vc, hv5, _⟩ := id V5.out
  have hul : us.length = ds.length := by rw [R5.out.1, List.length_map]
  rw [hul] at hv5
  subst hv5
  obtain ⟨m, HM⟩ : ∃ m, Hid (ds.length = m) := ⟨_, rfl⟩
  have hm : m ≤ 200 := by
    have h := HCS.out.num
    rw [List.length_map, HM.out, HN.out] at h
    exact Nat.le_trans h HL.out
  have HROW : Hid (∀ k, k < m → ∃ g off u, va = some ⟨g, off, none⟩ ∧ w5.cell? ⟨g, off + k, none⟩ = some u ∧ Sl .i64 w5 u ((ds.map natL).getD k [])) := fun k hk => SlVI.row (hul ▸ V5.out) R5.out (by rw [List.length_map, HM.out]; exact hk)
  have HSU : Hid (∀ i, i < m → (ds.take (i + 1)).flatten.length = (ds.take i).flatten.length + (ds.getD i []).length) := fun i hi => take_flat_succ ds (by rw [HM.out]; exact hi)
  have HBD : Hid (∀ i, (ds.take i).flatten.length ≤ 200) := fun i => Nat.le_trans (take_flat_le ds i) (Nat.le_trans HCS.out.flat (by rw [HN.out]; exact HL.out))
  have HFL : Hid (b = true → (ds.take m).flatten.length = n) := fun hb => by
    rw [← HM.out, List.take_length, ← HN.out]
    exact HCS.out.flat_ok (by rw [HB.out]; exact hb)
  rw [HM.out]
  clear hul V5 R5 HK HKN HCS HB
  go_wp2
  go_loopw [7, 8] (fun vn vi wr => ∃ (i : Nat), i ≤ m ∧ vi = .int .i64 i ∧ vn = .int .i64 ((ds.take i).flatten.length : Nat) ∧ wr = w5) (fun _ vi _ => m - (intOf vi).toNat)
  case atStart => exact ⟨0, Nat.zero_le _, rfl, rfl, rfl⟩
  case round =>
    obtain ⟨i, hi, rfl, rfl, rfl⟩ := hrel
    by_cases hlt : i < m
    · have hlt' : (i : Int) < m := by omega
      obtain ⟨g, off, u, rfl, hc, hsl⟩ := HROW.out i hlt
      have hgl := getD_mapL ds i
      obtain ⟨ua, uc, rfl, _⟩ := hsl
      rw [hgl] at hc
      have hs := HSU.out i hlt
      have hb1 := HBD.out i
      have hb2 := HBD.out (i + 1)
      obtain ⟨S, HS⟩ : ∃ S, Hid ((ds.take i).flatten.length = S) := ⟨_, rfl⟩
      obtain ⟨T, HT⟩ : ∃ T, Hid ((ds.getD i []).length = T) := ⟨_, rfl⟩
      rw [HT.out] at hc hs
      rw [HS.out] at hs hb1 ⊢
      have HS2 := hide' hs
      rw [hs] at hb2
      clear hs hgl
      go_wp2
      go_roundw
      case rel => exact ⟨i + 1, by omega, by go_num, by rw [HS2.out]; first | rfl | go_num, by first | rfl | trivial⟩
      case measure => simp [intOf]; omega
    · have hlt' : decide ((i : Int) < m) = false := by simp; omega
      have him : i = m := by omega
      have HF2 : Hid (b = true → (ds.take i).flatten.length = n) := by rw [him]; exact HFL.out
      have hb1 := HBD.out i
      obtain ⟨S, HS⟩ : ∃ S, Hid ((ds.take i).flatten.length = S) := ⟨_, rfl⟩
      rw [HS.out] at HF2 hb1 ⊢
      clear him HFL
      cases b
      · go_wp2_with fail
        refine (known_any _).mono ?_
        rintro e w9 ⟨rfl, he⟩
        have X9 := hide' (X5.out.trans he)
        clear he
        go_wp2
        go_ret
        exact ⟨rfl, X9.out⟩
      · have hSn : S = n := HF2.out rfl
        have q1 : ((S : Int) == (n : Int)) = true := by simp; omega
        clear hSn
        go_wp2_with fail
        refine (known_any _).mono ?_
        rintro e w9 ⟨rfl, he⟩
        have X9 := hide' (X5.out.trans he)
        clear he
        go_wp2
        go_ret
        exact ⟨rfl, X9.out⟩
end Go.Proofs.Yticblbegjfcbdaa
