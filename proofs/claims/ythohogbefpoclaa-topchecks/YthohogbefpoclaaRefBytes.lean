/- Contracts of the document's own Numbers and Bytes: whorlref13. -/
import Derived.Test.YthohogbefpoclaaPart3
import Derived.Test.YthohogbefpoclaaRefOrder
namespace Go.Proofs.Ythohogbefpoclaa
set_option linter.unusedVariables false
set_option linter.unusedSimpArgs false
open Go.RowKit

set_option maxHeartbeats 1000000 in
theorem rnumbers_any (v : Value) (zs : List Int) (w : World) (hv : Sl .u8 w v zs) (h8 : Bytes8 zs) (hlen : zs.length ≤ 1000000) :
    Calls Try.prog 63 #[v] w fun e w' => ∃ u, e = .returned u ∧ Own .i64 3 w.heap.size w' u zs ∧ Ext w w' := by
  have HV := hide' hv
  have H8 := hide' h8
  obtain ⟨a, c, rfl, _⟩ := hv
  obtain ⟨n, HN⟩ : ∃ n, Hid (zs.length = n) := ⟨_, rfl⟩
  rw [HN.out] at HV hlen ⊢
  clear h8
  go_enter Try.func63, Try.ntmps63
  go_wp2
  go_loopw [3, 4] (fun ov vi wr => ∃ (i : Nat), i ≤ n ∧ vi = .int .i64 i ∧ Hid (Own .i64 3 w.heap.size wr ov (zs.take i)) ∧ Hid (Ext w wr)) (fun _ vi _ => n - (intOf vi).toNat)
  case atStart => exact ⟨0, Nat.zero_le _, rfl, Own.nil _ _ _ _, Ext.refl _⟩
  case round =>
    obtain ⟨i, hi, rfl, HO, HE⟩ := hrel
    have hsz := HE.out.size
    by_cases hlt : i < n
    · have hlt' : (i : Int) < n := by omega
      have HT := hide' (takeI_succ (l := zs) (i := i) (by rw [HN.out]; exact hlt))
      have HTL : Hid ((zs.take i).length ≤ 1000000) := by show _ ≤ _; rw [List.length_take]; omega
      obtain ⟨_, g1, o1, rfl, k1⟩ := HV.out.at (fun e => by have := HN.out; rw [e] at this; simp at this; omega)
      have c1 := HE.out.cellOf (k1 i hlt)
      have hz := H8.out.get i
      obtain ⟨z, HZ⟩ : ∃ z, Hid (zs.getD i 0 = z) := ⟨_, rfl⟩
      rw [HZ.out] at c1 HT hz
      obtain ⟨T, HTT⟩ : ∃ T, Hid (zs.take i = T) := ⟨_, rfl⟩
      rw [HTT.out] at HT HTL HO
      have hw : IntKind.i64.wrap z = z := by rw [IntKind.wrap_i64]; omega
      clear k1
      go_wp2_with (at_builtin; refine wpList_snoc _ rfl _ _ 23 rfl 3 .i64 8 Try.underlying23 infoI64 w.heap.size _ T z ⟨wr.heap.size, 0, none⟩ rfl rfl ?c4 (HO.out.alloc _) ?c3 ?c5 ?_)
      case c3 => have := HTL.out; unfold maxLen; omega
      case c5 => simp; omega
      case c4 => simp only [World.cell?, heap_alloc_top]; simp
      intro v1 w4 ho1 hb1
      have HO1 : Hid (Own .i64 3 w.heap.size w4 v1 (zs.take (i + 1))) := by rw [HT.out]; exact ho1
      have HE1 : Hid (Ext w w4) := Below.trans (HE.out.trans (ext_alloc _ _)) (Below.mono hb1 (Nat.le_refl _))
      clear ho1 hb1
      go_wp2
      go_roundw
      case rel => exact ⟨i + 1, by omega, by go_num, HO1, HE1⟩
      case measure => simp [intOf] <;> omega
    · have d2 : decide ((i : Int) < n) = false := by simp; omega
      have hin : n = i := by omega
      go_wp2
      go_ret
      refine ⟨_, rfl, ?_, HE.out⟩
      have := HO.out
      rw [List.take_of_length_le (by rw [HN.out]; omega)] at this
      exact this

theorem srBytes_any (v : Value) (zs : List Int) (w : World) (hv : Sl .u8 w v zs) (h8 : Bytes8 zs) (hlen : zs.length ≤ 100000) :
    Calls Try.prog 41 #[v] w fun e w' => ∃ u L, e = .returned u ∧ ResI zs 256 L 0 ∧ Own .i64 3 w.heap.size w' u L ∧ Ext w w' := by
  have C := hide' (rnumbers_any v zs w hv h8 (by omega))
  have HL := hide' hlen
  have HF := hide' (fit256 h8)
  clear hv h8
  go_enter Try.func41, Try.ntmps41
  go_wp2_with fail
  refine C.out.mono ?_
  rintro e w1 ⟨u, rfl, ho, he⟩
  have S1 := hide' ho.sl
  have X1 := hide' he
  have hz := he.size
  clear ho he C
  go_wp2_with fail
  refine (rorder_any _ zs w1 S1.out HL.out).mono ?_
  rintro e w2 ⟨u2, R, rfl, hR, ho, he⟩
  have O2 := hide' (ho.low hz)
  have X2 := hide' (X1.out.trans he)
  have HR : Hid (ResI zs 256 (natL R) 0) := .inr (.inr ⟨HL.out, HF.out, rfl, R, hR, rfl⟩)
  clear ho he hR
  go_wp2
  go_ret
  exact ⟨_, _, rfl, HR.out, O2.out, X2.out⟩
end Go.Proofs.Ythohogbefpoclaa
