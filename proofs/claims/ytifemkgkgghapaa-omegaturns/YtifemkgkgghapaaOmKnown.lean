/- whorllaw8's own known answer, and its times. -/
import Derived.Test.YtifemkgkgghapaaOmOps
import Derived.Lib.SlBytesConst
namespace Go.Proofs.Ytifemkgkgghapaa
set_option linter.unusedVariables false
set_option linter.unusedSimpArgs false
open Go.RowKit

theorem ab_aba : omI [97, 98] [97, 98, 97] = 1 := by decide
theorem ab_abab : omI [97, 98] [97, 98, 97, 98] = 0 := by decide
theorem nil_nought : omI [] [0] = -1 := by decide

set_option maxHeartbeats 400000 in
theorem known_any (w : World) : Calls Try.prog 10 #[] w fun e w' => e = .returned (.bool true) ∧ Ext w w' := by
  have hc2 := fun w => Go.Lib.run_convert_bytes_const (P := Try.prog) w 22 5 #[.int .u8 97, .int .u8 98] 2 2 Try.underlying22 Try.underlying5
  have hc3 := fun w => Go.Lib.run_convert_bytes_const (P := Try.prog) w 22 5 #[.int .u8 97, .int .u8 98, .int .u8 97] 3 3 Try.underlying22 Try.underlying5
  have hc4 := fun w => Go.Lib.run_convert_bytes_const (P := Try.prog) w 22 5 #[.int .u8 97, .int .u8 98, .int .u8 97, .int .u8 98] 4 4 Try.underlying22 Try.underlying5
  have H2 : Hid (∀ w : World, Sl .u8 (w.alloc (.cells (([97, 98] : List Int).map (Value.int .u8)).toArray 5 (2, 3))) (.slice (some ⟨w.heap.size, 0, none⟩) 2 2) [97, 98]) := fun w => Sl.lit' (k := .u8) (e := 5) (fr := (2, 3)) w [97, 98] 2 rfl (by decide)
  have H3 : Hid (∀ w : World, Sl .u8 (w.alloc (.cells (([97, 98, 97] : List Int).map (Value.int .u8)).toArray 5 (3, 4))) (.slice (some ⟨w.heap.size, 0, none⟩) 3 3) [97, 98, 97]) := fun w => Sl.lit' (k := .u8) (e := 5) (fr := (3, 4)) w [97, 98, 97] 3 rfl (by decide)
  have H4 : Hid (∀ w : World, Sl .u8 (w.alloc (.cells (([97, 98, 97, 98] : List Int).map (Value.int .u8)).toArray 5 (4, 5))) (.slice (some ⟨w.heap.size, 0, none⟩) 4 4) [97, 98, 97, 98]) := fun w => Sl.lit' (k := .u8) (e := 5) (fr := (4, 5)) w [97, 98, 97, 98] 4 rfl (by decide)
  have H1 : Hid (∀ w : World, Sl .u8 (w.alloc (.cells (([0] : List Int).map (Value.int .u8)).toArray 5)) (.slice (some ⟨w.heap.size, 0, none⟩) 1 1) [0]) := fun w => Sl.lit (k := .u8) (e := 5) w [0] 1 rfl (by decide)
  have H0 : Hid (∀ w : World, Sl .u8 w (.slice none 0 0) []) := fun w => (Own.nil .u8 5 0 w).sl
  have SX : Hid (∀ (w : World) (o : Obj), (w.alloc o).heap.size = w.heap.size + 1) := fun w o => by simp
  go_enter Try.func10, Try.ntmps10
  have k3 : ∀ o, (convert 22 22 (Value.slice (some ⟨w.heap.size + 1, 0, none⟩) 3 3)).run Try.prog ((w.alloc o).alloc (Obj.cells #[Value.int IntKind.u8 97, Value.int IntKind.u8 98, Value.int IntKind.u8 97] 5)) = .ok (Value.slice (some ⟨w.heap.size + 1, 0, none⟩) 3 3) ((w.alloc o).alloc (Obj.cells #[Value.int IntKind.u8 97, Value.int IntKind.u8 98, Value.int IntKind.u8 97] 5 (3, 4))) := fun o => by
    have := hc3 (w.alloc o)
    rw [SX.out] at this
    exact this
  have L3 : Hid (∀ o, Sl .u8 ((w.alloc o).alloc (.cells (([97, 98, 97] : List Int).map (Value.int .u8)).toArray 5 (3, 4))) (.slice (some ⟨w.heap.size + 1, 0, none⟩) 3 3) [97, 98, 97]) := fun o => by
    have := H3.out (w.alloc o)
    rw [SX.out] at this
    exact this
  go_wp2_with fail
  refine (omega_any _ _ [97, 98] [97, 98, 97] _ ((H2.out w).ext (ext_alloc _ _)) (L3.out _) (by decide) (by decide)).mono ?_
  rw [ab_aba]
  rintro e w1 ⟨rfl, m, hm⟩
  have X1 : Hid (Ext w w1) := by rw [hm]; exact ((ext_alloc _ _).trans (ext_alloc _ _)).trans (Ext.drewN _ _)
  clear hm k3
  have k4 : ∀ o, (convert 22 22 (Value.slice (some ⟨w1.heap.size + 1, 0, none⟩) 4 4)).run Try.prog ((w1.alloc o).alloc (Obj.cells #[Value.int IntKind.u8 97, Value.int IntKind.u8 98, Value.int IntKind.u8 97, Value.int IntKind.u8 98] 5)) = .ok (Value.slice (some ⟨w1.heap.size + 1, 0, none⟩) 4 4) ((w1.alloc o).alloc (Obj.cells #[Value.int IntKind.u8 97, Value.int IntKind.u8 98, Value.int IntKind.u8 97, Value.int IntKind.u8 98] 5 (4, 5))) := fun o => by
    have := hc4 (w1.alloc o)
    rw [SX.out] at this
    exact this
  have L4 : Hid (∀ o, Sl .u8 ((w1.alloc o).alloc (.cells (([97, 98, 97, 98] : List Int).map (Value.int .u8)).toArray 5 (4, 5))) (.slice (some ⟨w1.heap.size + 1, 0, none⟩) 4 4) [97, 98, 97, 98]) := fun o => by
    have := H4.out (w1.alloc o)
    rw [SX.out] at this
    exact this
  go_wp2_with fail
  refine (omega_any _ _ [97, 98] [97, 98, 97, 98] _ ((H2.out w1).ext (ext_alloc _ _)) (L4.out _) (by decide) (by decide)).mono ?_
  rw [ab_abab]
  rintro e w2 ⟨rfl, m2, hm⟩
  have X2 : Hid (Ext w w2) := by rw [hm]; exact X1.out.trans (((ext_alloc _ _).trans (ext_alloc _ _)).trans (Ext.drewN _ _))
  clear hm k4
  go_wp2_with fail
  refine (omega_any _ _ [] [0] _ (H0.out _) (H1.out _) (by decide) (by decide)).mono ?_
  rw [nil_nought]
  rintro e w3 ⟨rfl, m3, hm⟩
  have X3 : Hid (Ext w w3) := by rw [hm]; exact X2.out.trans ((ext_alloc _ _).trans (Ext.drewN _ _))
  clear hm
  go_wp2
  go_ret
  exact ⟨rfl, X3.out⟩

theorem times_any (v : Value) (zs : List Int) (n : Nat) (w : World) (hs : Sl .u8 w v zs) (hn : n ≤ 1000) (hlen : zs.length ≤ 1000) :
    Calls Try.prog 15 #[v, .int .i64 (n : Int)] w fun e w' => ∃ s, e = .returned s ∧ Own .u8 5 w.heap.size w' s (repI zs n) ∧ Ext w w' := by
  have HS := hide' hs
  obtain ⟨a, c, rfl, h2, h3, _⟩ := hs
  unfold maxLen at h3
  go_enter Try.func15, Try.ntmps15
  go_wp2
  go_loopw [5, 6] (fun sv vk wr => ∃ (k : Nat), k ≤ n ∧ vk = .int .i64 k ∧ Hid (Own .u8 5 w.heap.size wr sv (repI zs k)) ∧ Hid (Ext w wr)) (fun _ vk _ => n - (intOf vk).toNat)
  case atStart => exact ⟨0, Nat.zero_le _, rfl, Own.nil _ _ _ _, Ext.refl _⟩
  case round =>
    obtain ⟨k, hk, rfl, HO, HE⟩ := hrel
    by_cases hlt : k < n
    · have hlt' : (k : Int) < n := by omega
      have HL : Hid ((repI zs k).length + zs.length ≤ 1000000) := by
        have h1 : (k + 1) * zs.length ≤ 1000 * 1000 := Nat.mul_le_mul (by omega) hlen
        rw [Nat.succ_mul] at h1
        show _ ≤ _
        rw [repI_len]; omega
      go_wp2_with (at_builtin; refine wpList_join _ rfl _ _ 22 rfl 5 .u8 1 Try.underlying22 infoU8 w.heap.size _ _ (repI zs k) zs rfl rfl HO.out (HS.out.ext HE.out) ?c1 HE.out.size ?_)
      case c1 => have := HL.out; unfold maxLen; omega
      intro v1 w1 ho1 hb1
      rw [← repI_succ] at ho1
      have HO1 := hide' ho1
      have HE1 := hide' (Below.trans HE.out hb1)
      clear ho1 hb1
      go_wp2
      go_roundw
      case rel => exact ⟨k + 1, by omega, by go_num, HO1, HE1⟩
      case measure => simp [intOf]; omega
    · have hlt' : decide ((k : Int) < n) = false := by simp; omega
      have hkn : k = n := by omega
      subst hkn
      go_wp2
      go_ret
      exact ⟨_, rfl, HO.out, HE.out⟩
end Go.Proofs.Ytifemkgkgghapaa
