/- CrcTurned: the walk. -/
import Derived.Test.YtkeelcjfpnbfkaaCrcNext
namespace Go.Proofs.Ytkeelcjfpnbfkaa
set_option linter.unusedVariables false
set_option linter.unusedSimpArgs false
open Go.RowKit

theorem infoU8 : (Try.prog.info? 5).map (fun i => (i.zero, i.size, i.bytes)) = some (some (.int .u8 0), 1, 1) := by kernel_rfl

theorem At.below {w w' : World} {b B : Nat} {d m r : Int} {t : List Int} (h : At w b d m r t) (hB : Below B w w') (hb : b < B) : At w' b d m r t := ⟨(hB.block b hb).trans h.1, h.2⟩

/-- 'x & 65535' of whatever int. -/
theorem and_mask (x : Int) : ∃ k : Nat, bits .and .i64 x 65535 = (k : Int) ∧ k ≤ 65535 := by
  have h : (BitVec.ofInt 64 x &&& BitVec.ofInt 64 65535).toNat ≤ 65535 := by
    rw [BitVec.toNat_and]
    exact Nat.le_trans Nat.and_le_right (by decide)
  refine ⟨_, ?_, h⟩
  show IntKind.i64.wrap ((BitVec.ofInt 64 x &&& BitVec.ofInt 64 65535).toNat : Int) = _
  generalize (BitVec.ofInt 64 x &&& BitVec.ofInt 64 65535).toNat = n at h ⊢
  simp [IntKind.wrap, IntKind.bits, IntKind.signed]
  split <;> omega

theorem xor_ne {a b : Nat} (h : b ≠ 0) : a ^^^ b ≠ a := by
  intro e
  have : a ^^^ b = a ^^^ 0 := by simpa using e
  exact h (xor_cancel_left this)

set_option maxHeartbeats 1600000 in
theorem lawTurned (v : Value) (zs : List Int) (pos c : Int) (w : World) (hs : Sl .u8 w v zs) (hr : ∀ z ∈ zs, 0 ≤ z ∧ z ≤ 255) (hc0 : 0 ≤ c) (hc1 : c ≤ 255) :
    Calls Try.prog 6 #[v, .int .i64 pos, .int .u8 c] w fun e w' => e = .returned (.bool true) ∧ Ext w w' := by
  have HS := hide' hs
  have HR := hide' hr
  clear hr
  obtain ⟨a, cap, rfl, hm2, hm3, _⟩ := hs
  unfold maxLen at hm3
  by_cases h1 : zs.length < 1
  · have h1' : (zs.length : Int) < 1 := by omega
    go_enter Try.func6, Try.ntmps6
    go_wp2
    go_ret
    exact ⟨rfl, Ext.refl _⟩
  have h1' : (1 : Int) ≤ (zs.length : Int) := by omega
  have h1b : decide ((zs.length : Int) < 1) = false := decide_eq_false (by omega)
  by_cases h2 : 500 < zs.length
  · have h2' : (500 : Int) < (zs.length : Int) := by omega
    go_enter Try.func6, Try.ntmps6
    go_wp2
    go_ret
    exact ⟨rfl, Ext.refl _⟩
  have h2' : (zs.length : Int) ≤ 500 := by omega
  have h2b : decide ((500 : Int) < (zs.length : Int)) = false := decide_eq_false (by omega)
  by_cases h3 : c = 0
  · have h3' : (c == 0) = true := by simp [h3]
    go_enter Try.func6, Try.ntmps6
    go_wp2
    go_ret
    exact ⟨rfl, Ext.refl _⟩
  have h3' : (c == 0) = false := by simp [h3]
  have H3 := hide' h3
  clear h3
  go_enter Try.func6, Try.ntmps6
  go_wp2_with fail
  refine (new_any w).mono ?_
  rintro e w1 ⟨rfl, hA, hE⟩
  have HA := hide' hA
  have HE := hide' hE
  clear hA hE
  go_wp2_with (at_builtin; refine wpList_join _ rfl (.tmp 24) (.tmp 25) 22 rfl 5 .u8 1 Try.underlying22 infoU8 w1.heap.size _ _ [] zs rfl rfl (Own.made #[] 0 (Nat.le_refl _) (by simp [maxLen]) rfl) ((HS.out.ext HE.out).ext (ext_alloc _ _)) ?c1 (by simp) ?_)
  case c1 => unfold maxLen; simp only [List.length_nil]; omega
  intro v2 w2 ho2 hb2
  have HB2 := hide' (((Below.refl w1.heap.size w1).alloc (Nat.le_refl _) _).trans hb2)
  have hzne : zs ≠ [] := by intro e; rw [e] at h1; simp at h1
  obtain ⟨g, cap2, rfl, hg, hcap1, hcap2⟩ := ho2.shape hzne
  unfold maxLen at hcap2
  have HO2 := hide' ho2
  obtain ⟨k, hand, hk⟩ := and_mask pos
  obtain ⟨j, HJ⟩ : ∃ j, Hid (k % zs.length = j) := ⟨_, rfl⟩
  have hj : j < zs.length := by rw [← HJ.out]; exact Nat.mod_lt _ (by omega)
  have hjm : (k : Int) % (zs.length : Int) = (j : Int) := by rw [← HJ.out]; rfl
  have hcj := HO2.out.cell rfl j hj
  have hfj := HO2.out.frozen rfl j
  have hzr := getD_range HR.out j
  obtain ⟨z, HZ⟩ : ∃ z, Hid (zs.getD j 0 = z) := ⟨_, rfl⟩
  rw [HZ.out] at hcj hzr
  have hxz := u8_xor z c hzr.1 (by omega) hc0 (by omega)
  obtain ⟨u, HU⟩ : ∃ u : Nat, Hid (z.toNat ^^^ c.toNat = u) := ⟨_, rfl⟩
  rw [HU.out] at hxz
  clear ho2 hb2 hzne
  go_wp2_with fail
  have hsz1 : w.heap.size ≤ w1.heap.size := HE.out.size
  have HO3 := hide' (HO2.out.store rfl j (u : Int)).sl
  have HB3 := hide' (HB2.out.setCell (p := ⟨g, j, none⟩) hg (.int .u8 (u : Int)))
  have HA3 := hide' (HA.out.below HB3.out HA.out.lt)
  have HX3 := hide' (Ext.trans HE.out (HB3.out.mono (Nat.le_refl _)))
  have HS3 := hide' (Sls.one (e := 22) HO3.out w2.heap.size (by simp [World.setCell]))
  have hur : (0 : Int) ≤ (u : Int) ∧ (u : Int) ≤ 255 := by
    have : u < 256 := by rw [← HU.out]; exact xor_lt8 (by omega) (by omega)
    omega
  have HRS : Hid (∀ y ∈ zs.set j (u : Int), 0 ≤ y ∧ y ≤ 255) := fun y hy => by
    rcases List.mem_or_eq_of_mem_set hy with h | h
    · exact HR.out y h
    · rw [h]; exact hur
  have HNE : Hid (sumN (zs.set j (u : Int)) ≠ sumN zs) := by
    refine sum_turned zs HR.out j hj (u : Int) hur ?_
    rw [HZ.out, ← HU.out]
    intro e
    have h := xor_ne (a := z.toNat) (b := c.toNat) (by have := H3.out; omega)
    omega
  refine (sum_any w.heap.size _ _ [zs.set j (u : Int)] (.inl (HA3.out.ext (ext_alloc _ _))) HS3.out (by simpa using HRS.out)).mono ?_
  rintro e w3 ⟨rfl, hA4, hB4⟩
  have HA4 := hide' hA4
  have HX4 := hide' ((HX3.out.trans (ext_alloc _ _)).but (Nat.le_refl _) hB4)
  clear hA4 hB4
  rw [show sumN [zs.set j (u : Int)].flatten = sumN (zs.set j (u : Int)) by simp]
  clear hand hjm hcj hfj hxz
  go_wp2_with fail
  have HS5 := hide' (Sls.one (e := 22) (HS.out.ext HX4.out) w3.heap.size rfl)
  refine (sum_any w.heap.size _ _ [zs] (.inr (HA4.out.ext (ext_alloc _ _))) HS5.out (by simpa using HR.out)).mono ?_
  rintro e w4 ⟨rfl, hA5, hB5⟩
  have HX5 := hide' ((HX4.out.trans (ext_alloc w3 _)).but (Nat.le_refl _) hB5)
  clear hA5 hB5
  rw [show sumN [zs].flatten = sumN zs by simp]
  have hq : ((sumN (zs.set j (u : Int)) : Int) == (sumN zs : Int)) = false := by
    have := HNE.out
    simp only [beq_eq_false_iff_ne, ne_eq]
    omega
  obtain ⟨p, HP⟩ : ∃ p, Hid (sumN (zs.set j (u : Int)) = p) := ⟨_, rfl⟩
  obtain ⟨q, HQ⟩ : ∃ q, Hid (sumN zs = q) := ⟨_, rfl⟩
  rw [HP.out, HQ.out] at hq ⊢
  have hq2 : ((p : Int) != (q : Int)) = true := by simpa using hq
  go_wp2_with fail
  refine (known_any _).mono ?_
  rintro e w5 ⟨rfl, hE5⟩
  go_wp2
  go_ret
  exact ⟨rfl, HX5.out.trans hE5⟩
end Go.Proofs.Ytkeelcjfpnbfkaa
