/- Whether a row is all places in order. Plain numbers, no conditions. -/
import Derived.Test.YtmojnliljaefbaaKasMath
import Derived.Test.YtmojnliljaefbaaBwtMath
namespace Go.Proofs.Ytmojnliljaefbaa
set_option linter.unusedVariables false
set_option linter.unusedSimpArgs false

/-- Is it all places, in order of endings? -/
def saB (s a : List Int) : Bool := decide (a = natL (sortE s))
/-- And that what neighbours have alike? -/
def chkB (s a h : List Int) : Bool := saB s a && decide (lcpL s a = h)
theorem saB_iff {s a : List Int} : saB s a = true ↔ a = natL (sortE s) := decide_eq_true_iff
theorem saB_ord {s : List Int} {R : List Nat} (h : InOrd s R) (a : List Int) : saB s a = decide (a = natL R) := by
  unfold saB
  rw [(sortE_ord s).eq h]
theorem saB_ok {s a : List Int} (h : saB s a = true) : lcpOk s a = true := by
  have := saB_iff.1 h
  subst this
  have ho := sortE_ord s
  exact lcpOk_yes (by rw [natL_len, ho.len]) (ordB_nat (by have := ho.1; rwa [← ho.len] at this))
theorem saB_len {s a : List Int} (h : a.length ≠ s.length) : saB s a = false := by
  unfold saB
  refine decide_eq_false fun e => h ?_
  rw [e, natL_len, (sortE_ord s).len]
theorem saB_yes {s : List Int} {R : List Nat} (h : InOrd s R) : saB s (natL R) = true := by rw [saB_ord h]; exact decide_eq_true rfl
theorem chkB_yes {s a : List Int} (h : saB s a = true) : chkB s a (lcpL s a) = true := by
  unfold chkB
  rw [h, decide_eq_true rfl]
  rfl
theorem chkB_no {s a h : List Int} (hn : lcpL s a ≠ h) : chkB s a h = false := by
  unfold chkB
  rw [decide_eq_false hn, Bool.and_false]
theorem chkB_not {s a h : List Int} (hn : saB s a = false) : chkB s a h = false := by
  unfold chkB
  rw [hn, Bool.false_and]
/-- Two numbers changed for each other. -/
theorem swap_same {l : List Int} {i k : Nat} (hn : l.Nodup) (hi : i < l.length) (hk : k < l.length) : (l.set i (l.getD k 0)).set k (l.getD i 0) = l ↔ i = k := by
  constructor
  · intro h
    by_cases e : i = k
    · exact e
    · have h2 : ((l.set i (l.getD k 0)).set k (l.getD i 0)).getD i 0 = l.getD i 0 := by rw [h]
      rw [setI_other (fun e2 => e e2.symm), setI_same hi] at h2
      exact (nodup_getI hn hk hi h2).symm
  · intro e
    subst e
    rw [List.set_set, setI_self hi]
theorem add_other {l : List Int} {i : Nat} {z : Int} (hi : i < l.length) (hz : z ≠ 0) : l.set i (l.getD i 0 + z) ≠ l := by
  intro h
  have h2 : (l.set i (l.getD i 0 + z)).getD i 0 = l.getD i 0 := by rw [h]
  rw [setI_same hi] at h2
  omega
end Go.Proofs.Ytmojnliljaefbaa
