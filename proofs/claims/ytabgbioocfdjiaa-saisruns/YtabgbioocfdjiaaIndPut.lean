/- Contracts of induce.layLast and induce.layNext. -/
import Derived.Test.YtabgbioocfdjiaaIndFold
import Derived.Test.YtabgbioocfdjiaaNatRow
namespace Go.Proofs.Ytabgbioocfdjiaa
set_option linter.unusedVariables false
set_option linter.unusedSimpArgs false
open Go.RowKit

/-- What a call that lays one place hands on: both rows as they are told, all that was there ahead of them as it was. -/
def Laid (B1 B2 g h n K c : Nat) (w w' : World) (st : List Int × List Nat) : Prop :=
  Own .i64 3 B1 w' (.slice (some ⟨g, 0, none⟩) n n) st.1 ∧ Own .i64 3 B2 w' (.slice (some ⟨h, 0, none⟩) K c) (natL st.2) ∧
  ∀ w0 : World, Ext w0 w → w0.heap.size ≤ g → w0.heap.size ≤ h → Ext w0 w'

set_option maxHeartbeats 400000 in
theorem layLast_any (B1 B2 g h n K c p : Nat) (sv : Value) (s : List Int) (st : List Int × List Nat) (w : World) (hs : Sl .i64 w sv s) (h1 : Own .i64 3 B1 w (.slice (some ⟨g, 0, none⟩) n n) st.1) (h2 : Own .i64 3 B2 w (.slice (some ⟨h, 0, none⟩) K c) (natL st.2))
    (hne : g ≠ h) (hn : st.1.length = n) (hK : st.2.length = K) (hsn : s.length = n) (hp : p < n) (hk : keyN s p < K) (hnum : s.getD p 0 = (keyN s p : Int)) (ht : 1 ≤ st.2.getD (keyN s p) 0) (ht2 : st.2.getD (keyN s p) 0 ≤ n) (hn9 : n ≤ 1000000) :
    Calls Try.prog 36 #[.slice (some ⟨g, 0, none⟩) n n, sv, .slice (some ⟨h, 0, none⟩) K c, .int .i64 p] w fun e w' => e = .returned (.tuple #[]) ∧ Laid B1 B2 g h n K c w w' (putE s st p) := by
  obtain ⟨row, ptr⟩ := st
  simp only at h1 h2 hn hK ht ht2
  have HPE : Hid (putE s (row, ptr) p = (row.set (ptr.getD (keyN s p) 0 - 1) (p : Int), ptr.set (keyN s p) (ptr.getD (keyN s p) 0 - 1))) := rfl
  have HL1 := hide' hn
  have HL2 := hide' hK
  have O1 := hide' h1
  have O2 := hide' h2
  have HV := hide' hs
  obtain ⟨a, cs, rfl, _⟩ := hs
  obtain ⟨_, _, _, hcv⟩ := HV.out.int
  rw [hsn] at hcv ⊢
  obtain ⟨g1, o1, rfl, k1⟩ := hcv (by omega)
  have c1 := k1 p hp
  rw [hnum] at c1
  clear k1 HV hnum hn hK h1 h2
  obtain ⟨q, HQ⟩ : ∃ q, Hid (keyN s p = q) := ⟨_, rfl⟩
  rw [HQ.out] at c1 hk ht ht2 HPE
  have c2 := O2.out.intCell HL2.out q hk
  have z2 := O2.out.frozen (by rw [natL_len]; exact HL2.out) q
  obtain ⟨t, HT⟩ : ∃ t, Hid (ptr.getD q 0 = t) := ⟨_, rfl⟩
  rw [HT.out] at c2 ht ht2 HPE
  obtain ⟨f, HF⟩ : ∃ f, Hid (t = f + 1) := ⟨t - 1, by show _ = _; omega⟩
  have hf : (t : Int) - 1 = (f : Int) := by have := HF.out; omega
  have hfn : f < n := by have := HF.out; omega
  have hfn' : (f : Int) < n := by omega
  have hpn' : (p : Int) < n := by omega
  have hqk' : (q : Int) < K := by omega
  rw [show t - 1 = f by omega] at HPE
  have hne' : h ≠ g := Ne.symm hne
  have P2 := hide' (O2.out.storeN HL2.out q f)
  have P1 := hide' (O1.out.keep hne (but_set w h q (.int .i64 (f : Int))))
  have c3 := P2.out.intCell (by rw [List.length_set]; exact HL2.out) q hk
  rw [set_same (by rw [HL2.out]; exact hk)] at c3
  have z1 := P1.out.frozen HL1.out f
  have c4 := P1.out.cell HL1.out f hfn
  have R1 := hide' (P1.out.store HL1.out f (p : Int))
  have R2 := hide' (P2.out.keep hne' (but_set (w.setCell ⟨h, q, none⟩ (.int .i64 (f : Int))) g f (.int .i64 (p : Int))))
  rw [HPE.out]
  go_enter Try.func36, Try.ntmps36
  go_wp2
  first | go_end0 | (simp only [Exit.inBlock, Exit.then]; refine bodyPost_ret (results_none rfl _ _ _) rfl ?_) | refine bodyPost_ret (results_none rfl _ _ _) rfl ?_
  exact ⟨rfl, R1.out, R2.out, fun w0 he hg hh => Ext.but (Ext.but he hh (but_set w h q _)) hg (but_set _ g f _)⟩

set_option maxHeartbeats 400000 in
theorem layNext_any (B1 B2 g h n K c p : Nat) (sv : Value) (s : List Int) (st : List Int × List Nat) (w : World) (hs : Sl .i64 w sv s) (h1 : Own .i64 3 B1 w (.slice (some ⟨g, 0, none⟩) n n) st.1) (h2 : Own .i64 3 B2 w (.slice (some ⟨h, 0, none⟩) K c) (natL st.2))
    (hne : g ≠ h) (hn : st.1.length = n) (hK : st.2.length = K) (hsn : s.length = n) (hp : p < n) (hk : keyN s p < K) (hnum : s.getD p 0 = (keyN s p : Int)) (ht2 : st.2.getD (keyN s p) 0 < n) (hn9 : n ≤ 1000000) :
    Calls Try.prog 37 #[.slice (some ⟨g, 0, none⟩) n n, sv, .slice (some ⟨h, 0, none⟩) K c, .int .i64 p] w fun e w' => e = .returned (.tuple #[]) ∧ Laid B1 B2 g h n K c w w' (putB s st p) := by
  obtain ⟨row, ptr⟩ := st
  simp only at h1 h2 hn hK ht2
  have HPE : Hid (putB s (row, ptr) p = (row.set (ptr.getD (keyN s p) 0) (p : Int), ptr.set (keyN s p) (ptr.getD (keyN s p) 0 + 1))) := rfl
  have HL1 := hide' hn
  have HL2 := hide' hK
  have O1 := hide' h1
  have O2 := hide' h2
  have HV := hide' hs
  obtain ⟨a, cs, rfl, _⟩ := hs
  obtain ⟨_, _, _, hcv⟩ := HV.out.int
  rw [hsn] at hcv ⊢
  obtain ⟨g1, o1, rfl, k1⟩ := hcv (by omega)
  have c1 := k1 p hp
  rw [hnum] at c1
  clear k1 HV hnum hn hK h1 h2
  obtain ⟨q, HQ⟩ : ∃ q, Hid (keyN s p = q) := ⟨_, rfl⟩
  rw [HQ.out] at c1 hk ht2 HPE
  have c2 := O2.out.intCell HL2.out q hk
  obtain ⟨f, HT⟩ : ∃ t, Hid (ptr.getD q 0 = t) := ⟨_, rfl⟩
  rw [HT.out] at c2 ht2 HPE
  have hfn' : (f : Int) < n := by omega
  have hpn' : (p : Int) < n := by omega
  have hqk' : (q : Int) < K := by omega
  have hne' : h ≠ g := Ne.symm hne
  have z1 := O1.out.frozen HL1.out f
  have c4 := O1.out.cell HL1.out f ht2
  have P1 := hide' (O1.out.store HL1.out f (p : Int))
  have P2 := hide' (O2.out.keep hne' (but_set w g f (.int .i64 (p : Int))))
  have z2 := P2.out.frozen (by rw [natL_len]; exact HL2.out) q
  have c5 := P2.out.intCell HL2.out q hk
  rw [HT.out] at c5
  have R2 := hide' (P2.out.storeN HL2.out q (f + 1))
  have R1 := hide' (P1.out.keep hne (but_set (w.setCell ⟨g, f, none⟩ (.int .i64 (p : Int))) h q (.int .i64 ((f + 1 : Nat) : Int))))
  rw [HPE.out]
  go_enter Try.func37, Try.ntmps37
  go_wp2
  first | go_end0 | (simp only [Exit.inBlock, Exit.then]; refine bodyPost_ret (results_none rfl _ _ _) rfl ?_) | refine bodyPost_ret (results_none rfl _ _ _) rfl ?_
  exact ⟨rfl, R1.out, R2.out, fun w0 he hg hh => Ext.but (Ext.but he hg (but_set w g f _)) hh (but_set _ h q _)⟩
end Go.Proofs.Ytabgbioocfdjiaa
