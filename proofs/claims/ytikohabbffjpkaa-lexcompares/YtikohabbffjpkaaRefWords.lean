/- Contract of the document's own comparison of two words: whorlref4.Words. -/
import Derived.Test.YtikohabbffjpkaaLexMath
import Derived.Test.YtikohabbffjpkaaByt
import Derived.Test.YtikohabbffjpkaaBut
import Derived.Test.YtikohabbffjpkaaKripTail
namespace Go.Proofs.Ytikohabbffjpkaa
set_option linter.unusedVariables false
set_option linter.unusedSimpArgs false
open Go.RowKit

set_option maxHeartbeats 400000 in
theorem words_any (u v : Value) (x y : List Int) (w : World) (hu : Sl .u8 w u x) (hv : Sl .u8 w v y) (hx : x.length ≤ 1000000) (hy : y.length ≤ 1000000) :
    Calls Try.prog 34 #[u, v] w fun e w' => e = .returned (.int .i64 (cmpI x y)) ∧ ∃ m, w' = w.drewN m := by
  have HU := hide' hu
  have HV := hide' hv
  obtain ⟨a, c, rfl, _⟩ := hu
  obtain ⟨a', c', rfl, _⟩ := hv
  obtain ⟨n1, hn1⟩ : ∃ n, x.length = n := ⟨_, rfl⟩
  obtain ⟨n2, hn2⟩ : ∃ n, y.length = n := ⟨_, rfl⟩
  rw [hn1] at HU hx ⊢
  rw [hn2] at HV hy ⊢
  have HXL := hide' hn1
  have HYL := hide' hn2
  clear hn1 hn2
  go_enter Try.func34, Try.ntmps34
  go_wp2
  go_loopw [5] (fun vk wr => ∃ (k : Nat), k ≤ n1 ∧ k ≤ n2 ∧ vk = .int .i64 k ∧ Hid (cmpI x y = cmpI (x.drop k) (y.drop k)) ∧ ∃ m, wr = w.drewN m) (fun vk _ => n1 - (intOf vk).toNat)
  case atStart => exact ⟨0, Nat.zero_le _, Nat.zero_le _, rfl, (show _ = _ by simp), 0, rfl⟩
  case round =>
    obtain ⟨k, hk1, hk2, rfl, HK, m, rfl⟩ := hrel
    by_cases l1 : k < n1
    · by_cases l2 : k < n2
      · have hne1 : x ≠ [] := fun h => by have := HXL.out; rw [h] at this; simp at this; omega
        have hne2 : y ≠ [] := fun h => by have := HYL.out; rw [h] at this; simp at this; omega
        obtain ⟨_, b1, o1, e1, c1⟩ := HU.out.at hne1
        obtain ⟨_, b2, o2, e2, c2⟩ := HV.out.at hne2
        have c1' := c1 k l1
        have c2' := c2 k l2
        obtain ⟨p, HP⟩ : ∃ p, Hid (x.getD k 0 = p) := ⟨_, rfl⟩
        obtain ⟨q, HQ⟩ : ∃ q, Hid (y.getD k 0 = q) := ⟨_, rfl⟩
        rw [HP.out] at c1'
        rw [HQ.out] at c2'
        subst e1 e2
        clear c1 c2 hne1 hne2
        have l1' : (k : Int) < n1 := by omega
        have l2' : (k : Int) < n2 := by omega
        by_cases hpq : p = q
        · have HK' : Hid (cmpI x y = cmpI (x.drop (k + 1)) (y.drop (k + 1))) := by
            have h := cmpI_same (x := x) (y := y) (k := k) (by rw [HXL.out]; exact l1) (by rw [HYL.out]; exact l2) (by rw [HP.out, HQ.out, hpq])
            show _ = _
            rw [HK.out, h]
          subst hpq
          go_wp2_with fail
          go_quiet (fail)
          go_wp2
          go_roundw
          case rel => exact ⟨k + 1, by omega, by omega, by go_num, HK', _, rfl⟩
          case measure => simp [intOf]; omega
        · have hpq' : (p == q) = false := by simpa using hpq
          by_cases hlt : p < q
          · have HK' : Hid (cmpI x y = -1) := by
              show _ = _
              rw [HK.out, cmpI_lt (by rw [HXL.out]; exact l1) (by rw [HYL.out]; exact l2) (by rw [HP.out, HQ.out]; exact hlt)]
            clear hpq
            go_wp2_with fail
            go_quiet (fail)
            go_wp2_with fail
            go_quiet (fail)
            go_wp2
            go_ret
            rw [HK'.out]
            exact ⟨rfl, _, by rw [World.drewN_drewN, World.drewN_drewN]⟩
          · have HK' : Hid (cmpI x y = 1) := by
              show _ = _
              rw [HK.out, cmpI_gt (by rw [HXL.out]; exact l1) (by rw [HYL.out]; exact l2) (by rw [HP.out, HQ.out]; omega)]
            have hlt' : decide (p < q) = false := by simpa using hlt
            clear hpq hlt
            go_wp2_with fail
            go_quiet (fail)
            go_wp2_with fail
            go_quiet (fail)
            go_wp2
            go_ret
            rw [HK'.out]
            exact ⟨rfl, _, by rw [World.drewN_drewN, World.drewN_drewN]⟩
      · have l1' : (k : Int) < n1 := by omega
        have l2' : decide ((k : Int) < n2) = false := by simp; omega
        have e2 : k = n2 := by omega
        have HK' : Hid (cmpI x y = 1) := by
          show _ = _
          rw [HK.out, cmpI_long (by rw [HXL.out]; exact l1) (by rw [HYL.out]; omega)]
        have d1 : decide ((n1 : Int) < n2) = false := by simp; omega
        have d2 : (n2 : Int) < n1 := by omega
        go_wp2
        go_ret
        rw [HK'.out]
        exact ⟨rfl, _, rfl⟩
    · have l1' : decide ((k : Int) < n1) = false := by simp; omega
      by_cases l2 : k < n2
      · have HK' : Hid (cmpI x y = -1) := by
          show _ = _
          rw [HK.out, cmpI_short (by rw [HXL.out]; omega) (by rw [HYL.out]; exact l2)]
        have d1 : (n1 : Int) < n2 := by omega
        go_wp2
        go_ret
        rw [HK'.out]
        exact ⟨rfl, _, rfl⟩
      · have HK' : Hid (cmpI x y = 0) := by
          show _ = _
          rw [HK.out, cmpI_end (by rw [HXL.out]; omega) (by rw [HYL.out]; omega)]
        have d1 : decide ((n1 : Int) < n2) = false := by simp; omega
        have d2 : decide ((n2 : Int) < n1) = false := by simp; omega
        go_wp2
        go_ret
        rw [HK'.out]
        exact ⟨rfl, _, rfl⟩
end Go.Proofs.Ytikohabbffjpkaa
