/- One place laid, as a walk meets it; what the second step reads, counted from its very beginning. -/
import Derived.Test.YtpibjmigblllnaaIndPut
import Derived.Test.YtpibjmigblllnaaIndStep2
namespace Go.Proofs.Ytpibjmigblllnaa
set_option linter.unusedVariables false
set_option linter.unusedSimpArgs false
open Go.RowKit

theorem putB_world (B1 B2 g h n K c p : Nat) (s : List Int) (st : List Int × List Nat) (w : World) (h1 : Own .i64 3 B1 w (.slice (some ⟨g, 0, none⟩) n n) st.1) (h2 : Own .i64 3 B2 w (.slice (some ⟨h, 0, none⟩) K c) (natL st.2))
    (hne : g ≠ h) (hn : st.1.length = n) (hK : st.2.length = K) (hk : keyN s p < K) (ht2 : st.2.getD (keyN s p) 0 < n) :
    ∃ (q f : Nat) (x : Int), Hid (keyN s p = q) ∧ q < K ∧ f < n ∧ w.cell? ⟨h, q, none⟩ = some (.int .i64 (f : Int)) ∧ w.frozen? ⟨g, f, none⟩ = false ∧ w.cell? ⟨g, f, none⟩ = some (.int .i64 x) ∧
      (w.setCell ⟨g, f, none⟩ (.int .i64 (p : Int))).cell? ⟨h, q, none⟩ = some (.int .i64 (f : Int)) ∧ (w.setCell ⟨g, f, none⟩ (.int .i64 (p : Int))).frozen? ⟨h, q, none⟩ = false ∧
      Hid (Laid B1 B2 g h n K c w ((w.setCell ⟨g, f, none⟩ (.int .i64 (p : Int))).setCell ⟨h, q, none⟩ (.int .i64 ((f + 1 : Nat) : Int))) (putB s st p)) := by
  obtain ⟨row, ptr⟩ := st
  simp only at h1 h2 hn hK ht2
  have hne' : h ≠ g := Ne.symm hne
  have P1 := h1.store hn (ptr.getD (keyN s p) 0) (p : Int)
  have P2 := h2.keep hne' (but_set w g (ptr.getD (keyN s p) 0) (.int .i64 (p : Int)))
  have R2 := P2.storeN hK (keyN s p) (ptr.getD (keyN s p) 0 + 1)
  have R1 := P1.keep hne (but_set (w.setCell ⟨g, ptr.getD (keyN s p) 0, none⟩ (.int .i64 (p : Int))) h (keyN s p) (.int .i64 ((ptr.getD (keyN s p) 0 + 1 : Nat) : Int)))
  exact ⟨keyN s p, ptr.getD (keyN s p) 0, _, rfl, hk, ht2, h2.intCell hK _ hk, h1.frozen hn _, h1.cell hn _ ht2, P2.intCell hK _ hk, P2.frozen (by rw [natL_len]; exact hK) _,
    R1, R2, fun w0 he hg hh => Ext.but (Ext.but he hg (but_set w g _ _)) hh (but_set _ h _ _)⟩

theorem putE_world (B1 B2 g h n K c p : Nat) (s : List Int) (st : List Int × List Nat) (w : World) (h1 : Own .i64 3 B1 w (.slice (some ⟨g, 0, none⟩) n n) st.1) (h2 : Own .i64 3 B2 w (.slice (some ⟨h, 0, none⟩) K c) (natL st.2))
    (hne : g ≠ h) (hn : st.1.length = n) (hK : st.2.length = K) (hk : keyN s p < K) (ht : 1 ≤ st.2.getD (keyN s p) 0) (ht2 : st.2.getD (keyN s p) 0 ≤ n) :
    ∃ (q t f : Nat) (x : Int), Hid (keyN s p = q) ∧ q < K ∧ f < n ∧ (t : Int) - 1 = (f : Int) ∧ t ≤ n ∧ w.cell? ⟨h, q, none⟩ = some (.int .i64 (t : Int)) ∧ w.frozen? ⟨h, q, none⟩ = false ∧
      (w.setCell ⟨h, q, none⟩ (.int .i64 (f : Int))).cell? ⟨h, q, none⟩ = some (.int .i64 (f : Int)) ∧ (w.setCell ⟨h, q, none⟩ (.int .i64 (f : Int))).cell? ⟨g, f, none⟩ = some (.int .i64 x) ∧ (w.setCell ⟨h, q, none⟩ (.int .i64 (f : Int))).frozen? ⟨g, f, none⟩ = false ∧
      Hid (Laid B1 B2 g h n K c w ((w.setCell ⟨h, q, none⟩ (.int .i64 (f : Int))).setCell ⟨g, f, none⟩ (.int .i64 (p : Int))) (putE s st p)) := by
  obtain ⟨row, ptr⟩ := st
  simp only at h1 h2 hn hK ht ht2
  have hne' : h ≠ g := Ne.symm hne
  have P2 := h2.storeN hK (keyN s p) (ptr.getD (keyN s p) 0 - 1)
  have P1 := h1.keep hne (but_set w h (keyN s p) (.int .i64 ((ptr.getD (keyN s p) 0 - 1 : Nat) : Int)))
  have c3 := P2.intCell (by rw [List.length_set]; exact hK) (keyN s p) hk
  rw [set_same (by rw [hK]; exact hk)] at c3
  have R1 := P1.store hn (ptr.getD (keyN s p) 0 - 1) (p : Int)
  have R2 := P2.keep hne' (but_set (w.setCell ⟨h, keyN s p, none⟩ (.int .i64 ((ptr.getD (keyN s p) 0 - 1 : Nat) : Int))) g (ptr.getD (keyN s p) 0 - 1) (.int .i64 (p : Int)))
  exact ⟨keyN s p, ptr.getD (keyN s p) 0, ptr.getD (keyN s p) 0 - 1, _, rfl, hk, by omega, by omega, ht2, h2.intCell hK _ hk, h2.frozen (by rw [natL_len]; exact hK) _, c3, P1.cell hn _ (by omega), P1.frozen hn _,
    R1, R2, fun w0 he hg hh => Ext.but (Ext.but he hh (but_set w h _ _)) hg (but_set _ g _ _)⟩

theorem Laid.drew {B1 B2 g h n K c : Nat} {w w' : World} {st : List Int × List Nat} (h1 : Laid B1 B2 g h n K c w w' st) (m : Nat) : Laid B1 B2 g h n K c w (w'.drewN m) st :=
  ⟨h1.1.ext (Ext.drewN _ _), h1.2.1.ext (Ext.drewN _ _), fun w0 he hg hh => (h1.2.2 w0 he hg hh).trans (Ext.drewN _ _)⟩

/-- What the second step reads, the n ahead of its row too. -/
theorem st2_read {s : List Int} {K : Nat} {F : List Nat} (f : Fits s K) (hF : Firsts s F) {i : Nat} (hi : i ≤ s.length) : (st2 s K F i).1.length = s.length ∧ (st2 s K F i).2.length = K ∧
    ∃ j : Int, (i = 0 → j = (s.length : Int)) ∧ (∀ m, i = m + 1 → (st2 s K F i).1.getD m 0 = j) ∧ -1 ≤ j ∧ j ≤ s.length ∧ st2 s K F (i + 1) = stepB s (st2 s K F i) j ∧
      ∀ p : Nat, j = ((p + 1 : Nat) : Int) → smB s p = false → keyN s p < K ∧ (st2 s K F i).2.getD (keyN s p) 0 < s.length := by
  cases i with
  | zero =>
    have hb := st2_begin f hF
    refine ⟨hb.rl, hb.pl, (s.length : Int), fun _ => rfl, (fun m hm => by omega), by omega, by omega, rfl, fun p hp hT => ?_⟩
    obtain ⟨q1, q2, _⟩ := st2_first f hF (by omega)
    have e : p = s.length - 1 := by omega
    rw [e]
    exact ⟨q1, q2⟩
  | succ i =>
    obtain ⟨q1, q2, v1, v2, hok⟩ := st2_ok f hF (show i < s.length by omega)
    exact ⟨q1, q2, _, (fun h => by omega), (fun m hm => by rw [show i = m by omega]), v1, by omega, st2_next i, hok⟩
end Go.Proofs.Ytpibjmigblllnaa
