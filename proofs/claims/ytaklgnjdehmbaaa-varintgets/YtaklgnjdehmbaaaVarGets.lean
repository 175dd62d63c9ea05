/- VarintGets: the walk. -/
import Derived.Test.YtaklgnjdehmbaaaVarRGet
namespace Go.Proofs.Ytaklgnjdehmbaaa
set_option linter.unusedVariables false
set_option linter.unusedSimpArgs false
open Go.RowKit

set_option maxHeartbeats 1000000 in
theorem lawGets (a : Option Addr) (len cap : Nat) (zs : List Int) (w : World) (hs : Sl .u8 w (.slice a len cap) zs) (hlz : zs.length = len) (hr : ∀ x ∈ zs, 0 ≤ x ∧ x ≤ 255) :
    Calls Try.prog 4 #[.slice a len cap] w fun e w' => e = .returned (.bool true) ∧ Ext w w' := by
  have HZ := hide' hlz
  have HR := hide' hr
  clear hlz hr
  by_cases h50 : 50 < len
  · have h50' : (50 : Int) < (len : Int) := by omega
    go_enter Try.func4, Try.ntmps4
    go_wp2
    go_ret
    exact ⟨rfl, Ext.refl _⟩
  · have h50' : (len : Int) ≤ 50 := by omega
    go_enter Try.func4, Try.ntmps4
    go_wp2_with fail
    obtain ⟨x, n, ok, HG⟩ : ∃ x n ok, Hid (getV (getL zs) = .tuple #[.int .u64 x, .int .i64 n, .bool ok]) := ⟨(getL zs).1, (getL zs).2.1, (getL zs).2.2, rfl⟩
    refine (get_any _ zs w hs HR.out).mono ?_
    rintro e w1 ⟨rfl, rfl⟩
    rw [HG.out]
    go_wp2_with fail
    refine (rget_any _ zs _ hs HR.out).mono ?_
    rintro e w2 ⟨rfl, hb2⟩
    rw [HG.out]
    have q1 : (x == x) = true := by simp
    have q2 : (n == n) = true := by simp
    have q3 : (ok == ok) = true := by simp
    clear hs
    go_wp2_with fail
    refine (known_any _).mono ?_
    rintro e w3 ⟨rfl, hb3⟩
    go_wp2
    go_ret
    exact ⟨rfl, Ext.trans hb2 hb3⟩
end Go.Proofs.Ytaklgnjdehmbaaa
