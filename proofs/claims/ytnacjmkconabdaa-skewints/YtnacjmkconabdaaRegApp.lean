/- An append of the call's own row as one step of a region that draws its order. Over any program; no conditions. -/
import Derived.Test.YtnacjmkconabdaaTwo
import Derived.Deep.RegionLaw
namespace Go.Proofs.Ytnacjmkconabdaa
set_option linter.unusedVariables false
set_option linter.unusedSimpArgs false
open Go.RowKit

/-- The step, its run known ahead. -/
theorem step_append_run {P : Program} {ops : Array Oper} {o : Oper} {a : Act} {w w' : World} {K : Act → World → Prop} {Q : Exit → Act → World → Prop} {E : Prop} (v u r : Value) (ty : TypeId)
    (hg : o.guard = none) (s x : Operand) (t : TypeId) (hop : o.op = Op.call { callee := Callee.builtin Builtin.append, args := #[s, x], argTypes := #[t, t] }) (hty : o.type = ty)
    (hs : a.eval s = v) (hx : a.eval x = u) (hrun : (Builtin.append_ #[t, t] ty #[v, u]).run P w = .ok r w')
    (hK : K (a.put o.dst r) w') : if Region.wanted o (yielded ops a.tmps) = true then Oper.wp P o a w K Q else E := by
  have hw : Region.wanted o (yielded ops a.tmps) = true := by simp [Region.wanted, hg]
  rw [if_pos hw]
  subst hty
  unfold Oper.wp
  simp [execOp, hop, resolve, invoke, builtin, hs, hx, hrun, Result.andThen]
  exact hK

/-- 'append(v, z)' behind the laying of z. -/
theorem run_snoc {P : Program} {k : IntKind} (w : World) (t ty e : TypeId) (bytes : Nat) (ht : P.underlying t = some (.slice e)) (hinfo : (P.info? e).map (fun i => (i.zero, i.size, i.bytes)) = some (some (.int k 0), 1, bytes)) (B : Nat) (v : Value) (zs : List Int) (z : Int)
    (hown : Own k e B w v zs) (hlen : (zs.length + 1) * bytes ≤ 140737488355328 ∧ zs.length + 1 ≤ maxLen) (hB : B ≤ w.heap.size) :
    ∃ v' w', (Builtin.append_ #[t, t] ty #[v, .slice (some ⟨w.heap.size, 0, none⟩) 1 1]).run P (w.alloc (.cells #[.int k z] e)) = .ok v' w' ∧ Own k e B w' v' (zs ++ [z]) ∧ Below B w w' := by
  obtain ⟨i0, hi, hz0, hz1, hz2⟩ := info_parts hinfo
  have ho1 : Own k e B (w.alloc (.cells #[.int k z] e)) v zs := hown.alloc _
  have hB1 : B ≤ (w.alloc (.cells #[.int k z] e)).heap.size := by simp; omega
  have hc : (w.alloc (.cells #[.int k z] e)).cell? ⟨w.heap.size, 0, none⟩ = some (.int k z) := by
    simp only [World.cell?, heap_alloc_top]
    simp
  obtain ⟨v', w', h1, h2, h3, _⟩ := run_append_own (P := P) (w.alloc (.cells #[.int k z] e)) B t ty e i0 (.int k 0) 1 bytes ht hi hz0 hz1 hz2 rfl (by decide) v _ _ ho1 ⟨w.heap.size, 0, none⟩ 1 1 [.int k z] rfl (fun j u hj => by
    match j, hj with
    | 0, hj =>
      simp at hj
      subst hj
      simp [Addr.add, hc]) one1 hlen.2 hlen.1 hB1
  exact ⟨v', w', h1, Own.snoc h2, Below.trans (((Below.refl _ _).alloc hB _)) ((Below.refl _ _).grown h3 hB1 (fun k hk => (World.ownsRow.lt ho1 k hk).1))⟩
end Go.Proofs.Ytnacjmkconabdaa
