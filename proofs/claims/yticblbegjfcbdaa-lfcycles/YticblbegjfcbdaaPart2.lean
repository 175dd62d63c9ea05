/- Texts laid together: LfFirst, LfOfOp, ValsI, Bools, PerMath, OmMath, RkMath, CycMath, CycSeen, CycMore, RefInv, Two, LfCyc, LfFrom, RkInv, RkIs, LfOp, RefInts, LfRows, LfKnown, LfRef. -/
import Derived.Test.YticblbegjfcbdaaPart1
import Derived.Laws.OwnMore
import Derived.Laws.MakeOwn
import Derived.Deep.MidRow
import Derived.BigQuiet
import Derived.Lib.SlBytesConst
/- Contract of lf.firstPlaces. -/
namespace Go.Proofs.Yticblbegjfcbdaa
set_option linter.unusedVariables false
set_option linter.unusedSimpArgs false
open Go.RowKit

set_option maxHeartbeats 1000000 in
theorem firstPlaces_any (v : Value) (l : List Int) (w : World) (hv : Sl .u8 w v l) (h8 : Bytes8 l) (hs : l.length ≤ 100000) :
    Calls Try.prog 15 #[v] w fun e w' => ∃ r, e = .returned r ∧ Own .i64 3 w.heap.size w' r (nexL l 0) ∧ Ext w w' := by
  have HV := hide' hv
  have H8 := hide' h8
  have HFB := hide' (fitB_bytes h8)
  have HCN : Hid (countsI l 256 = natL (cntsI l 256)) := countsI_yes HFB.out
  have HSB := hide' (sum_bound hs)
  have HNX := hide' (nexL_zero l)
  have HLC : Hid ((natL (cntsI l 256)).length ≤ 4000000) := by show _ ≤ _; rw [natL_len, cntsI_len]; omega
  have HLS := hide' hs
  obtain ⟨va, vc, rfl, _⟩ := hv
  obtain ⟨n, HN⟩ : ∃ n, Hid (l.length = n) := ⟨_, rfl⟩
  have HUR := hide' (upL_row l)
  have HU0 := hide' (upL_zero (fun j => l.getD j 0) n)
  have HUN := hide' (fun i (h : i < n) => upL_next (fun j => l.getD j 0) h)
  have HUL := hide' (upL_len (fun j => l.getD j 0) n)
  rw [HN.out] at HV hs HUR ⊢
  obtain ⟨K, HK⟩ : ∃ K : Nat → List Int, Hid (∀ i, upL (fun j => l.getD j 0) n i = K i) := ⟨_, fun _ => rfl⟩
  rw [HK.out] at HUR HU0
  have HKN : Hid (∀ i, i < n → (K i).set i (l.getD i 0) = K (i + 1)) := fun i hi => by have := HUN.out i hi; rwa [HK.out, HK.out] at this
  have HKL : Hid (∀ i, (K i).length = n) := fun i => by have := HUL.out i; rwa [HK.out] at this
  have VA : Hid (0 < n → ∃ g off, va = some ⟨g, off, none⟩ ∧ ∀ j, j < n → w.cell? ⟨g, off + j, none⟩ = some (.int .u8 (l.getD j 0))) := fun h0 => by
    obtain ⟨_, g, off, h1, h2⟩ := HV.out.at (fun e => by have := HN.out; rw [e] at this; simp at this; omega)
    exact ⟨g, off, h1, fun j hj => h2 j hj⟩
  obtain ⟨w1, hmk, ho, he⟩ := make_intsB w n (by omega)
  rw [← HU0.out] at ho
  have HO := hide' ho
  have HE := hide' he
  clear ho he h8 HK HUN HUL HU0
  go_enter Try.func15, Try.ntmps15
  go_wp2
  clear hmk
  go_loopw [13] (fun vi wr => ∃ (i : Nat), i ≤ n ∧ vi = .int .i64 i ∧ Hid (Own .i64 3 w.heap.size wr (.slice (some ⟨w.heap.size, 0, none⟩) n n) (K i)) ∧ Hid (Ext w wr)) (fun vi _ => n - (intOf vi).toNat)
  case atStart => exact ⟨0, Nat.zero_le _, rfl, HO, HE⟩
  case round =>
    clear HO HE
    obtain ⟨i, hi, rfl, HO, HE⟩ := hrel
    by_cases hlt : i < n
    · have hlt' : (i : Int) < n := by omega
      obtain ⟨b, o, rfl, k1⟩ := VA.out (by omega)
      have c1 := HE.out.cellOf (k1 i hlt)
      clear k1
      have hz := H8.out.get i
      have hst := HKN.out i hlt
      obtain ⟨z, HZ⟩ : ∃ z, Hid (l.getD i 0 = z) := ⟨_, rfl⟩
      rw [HZ.out] at c1 hz hst
      have hcv : IntKind.i64.wrap z = z := by rw [IntKind.wrap_i64]; omega
      have hfz := HO.out.frozen (HKL.out i) i
      have hci := HO.out.cell (HKL.out i) i hlt
      have ho2 := HO.out.store (HKL.out i) i z
      rw [hst] at ho2
      have HO2 := hide' ho2
      have HE2 := hide' (Ext.but HE.out (Nat.le_refl _) (but_set wr w.heap.size i (.int .i64 z)))
      clear ho2 hst
      go_wp2
      go_roundw
      case rel => exact ⟨i + 1, by omega, by go_num, HO2, HE2⟩
      case measure => simp [intOf]; omega
    · have hlt' : decide ((i : Int) < n) = false := by simp; omega
      have hin : i = n := by omega
      have HO1 : Hid (Own .i64 3 w.heap.size wr (.slice (some ⟨w.heap.size, 0, none⟩) n n) l) := by
        have := HO.out
        rw [hin, HUR.out] at this
        exact this
      clear hin HO
      go_wp2_with fail
      refine (counts_any _ l _ _ HO1.out.sl (by have := HLS.out; omega)).mono ?_
      rw [HFB.out, HCN.out]
      rintro e w3 ⟨s3, rfl, ho3, he3⟩
      have HO3 := hide' ho3
      have HE3 := hide' (HE.out.trans he3)
      clear ho3 he3
      go_wp2_with fail
      refine (starts_any _ _ _ HO3.out.sl HLC.out HSB.out).mono ?_
      rw [HNX.out]
      rintro e w4 ⟨s4, rfl, ho4, he4⟩
      have HO4 := hide' (ho4.low HE3.out.size)
      have HE4 := hide' (HE3.out.trans he4)
      clear ho4 he4 HO3 HE3
      go_wp2
      go_ret
      exact ⟨_, rfl, HO4.out, HE4.out⟩
end Go.Proofs.Yticblbegjfcbdaa

/- Contract of lf.Of. -/
namespace Go.Proofs.Yticblbegjfcbdaa
set_option linter.unusedVariables false
set_option linter.unusedSimpArgs false
open Go.RowKit

set_option maxHeartbeats 2000000 in
theorem lfOf_any (v : Value) (l : List Int) (w : World) (hv : Sl .u8 w v l) (h8 : Bytes8 l) (hs : l.length ≤ 100000) :
    Calls Try.prog 7 #[v] w fun e w' => ∃ r, e = .returned r ∧ Own .i64 3 w.heap.size w' r (natL (lfN l)) ∧ Ext w w' := by
  have HV := hide' hv
  have H8 := hide' h8
  have C := hide' (firstPlaces_any v l w hv h8 hs)
  obtain ⟨va, vc, rfl, _⟩ := hv
  obtain ⟨n, HN⟩ : ∃ n, Hid (l.length = n) := ⟨_, rfl⟩
  have HUR := hide' (upL_lf l)
  have HRK : Hid (∀ k b : Nat, k < n → l.getD k 0 = (b : Int) → rkN l k = ahC l b n + cntI l b k) := fun k b hk hb => by
    have := rk_sum (l := l) (k := k) hb (fun j => (H8.out.get j).1) (by rw [HN.out]; omega)
    rw [HN.out] at this
    exact this
  rw [HN.out] at HV hs HUR C ⊢
  obtain ⟨R, HR⟩ : ∃ R : Nat → List Int, Hid (∀ i, upL (fun j => ((rkN l j : Nat) : Int)) n i = R i) := ⟨_, fun _ => rfl⟩
  have HRN : Hid (∀ i, i < n → (R i).set i ((rkN l i : Nat) : Int) = R (i + 1)) := fun i hi => by have := upL_next (fun j => ((rkN l j : Nat) : Int)) hi; rwa [HR.out, HR.out] at this
  have HRL : Hid (∀ i, (R i).length = n) := fun i => by have := upL_len (fun j => ((rkN l j : Nat) : Int)) n i; rwa [HR.out] at this
  have HR0 : Hid (List.replicate n 0 = R 0) := by have := upL_zero (fun j => ((rkN l j : Nat) : Int)) n; rw [HR.out] at this; exact this.symm
  rw [HR.out] at HUR
  have VA : Hid (0 < n → ∃ b off, va = some ⟨b, off, none⟩ ∧ ∀ W j, Ext w W → j < n → W.cell? ⟨b, off + j, none⟩ = some (.int .u8 (l.getD j 0))) := fun h0 => by
    obtain ⟨_, b, off, h1, h2⟩ := HV.out.at (fun e => by have := HN.out; rw [e] at this; simp at this; omega)
    exact ⟨b, off, h1, fun W j he hj => he.cellOf (h2 j hj)⟩
  clear h8 HR HV
  go_enter Try.func7, Try.ntmps7
  go_wp2_with fail
  refine C.out.mono ?_
  rintro e w1 ⟨s1, rfl, ho1, he1⟩
  have X1 := hide' he1
  have hz1 := he1.size
  obtain ⟨g, cap, hs1, hB, _⟩ := ho1.shape (fun e => by have := nexL_len l 0; rw [e] at this; simp at this)
  rw [nexL_len] at hs1
  subst hs1
  have hgl := (World.ownsRow.lt ho1 g rfl).2
  clear he1 C
  obtain ⟨w2, hmk, ho, he⟩ := make_intsB w1 n (by omega)
  rw [HR0.out] at ho
  have OT := hide' (ho1.ext he)
  have OO := hide' (ho.low hz1)
  have HE := hide' (X1.out.trans he)
  clear ho he ho1
  go_wp2
  clear hmk
  obtain ⟨r, HG⟩ : ∃ r, Hid (w1.heap.size = r) := ⟨_, rfl⟩
  rw [HG.out] at OO hgl hz1 ⊢
  have hne : g ≠ r := by omega
  have hne' : r ≠ g := by omega
  clear HG X1
  go_loopw [14] (fun vi wr => ∃ (i : Nat), i ≤ n ∧ vi = .int .i64 i ∧ Hid (Own .i64 3 w.heap.size wr (.slice (some ⟨g, 0, none⟩) 256 cap) (nexL l i)) ∧
    Hid (Own .i64 3 w.heap.size wr (.slice (some ⟨r, 0, none⟩) n n) (R i)) ∧ Hid (Ext w wr)) (fun vi _ => n - (intOf vi).toNat)
  case atStart => exact ⟨0, Nat.zero_le _, rfl, OT, OO, HE⟩
  case round =>
    clear OT OO HE
    obtain ⟨i, hi, rfl, OT, OO, HE⟩ := hrel
    by_cases hlt : i < n
    · have hlt' : (i : Int) < n := by omega
      obtain ⟨b, o, rfl, k1⟩ := VA.out (by omega)
      have c1 := k1 wr i HE.out hlt
      have hz := H8.out.get i
      obtain ⟨q, hq⟩ := Int.eq_ofNat_of_zero_le hz.1
      have hq6 : q < 256 := by omega
      have hq6' : (q : Int) < 256 := by omega
      have HNX := hide' (nexL_next hq hq6)
      have HRW := hide' (HRK.out i q hlt hq)
      have HLW := hide' (HRN.out i hlt)
      rw [hq] at c1
      have c2 := OT.out.cell (nexL_len l i) q hq6
      rw [nexL_at l i hq6, HN.out] at c2
      have z2 := OT.out.frozen (nexL_len l i) q
      have c3 := OO.out.cell (HRL.out i) i hlt
      have z3 := OO.out.frozen (HRL.out i) i
      have hb1 : ahC l q n ≤ 25600000 := by
        have h1 := ahC_le l q n
        have h2 : q * n ≤ 256 * 100000 := Nat.mul_le_mul (by omega) hs
        omega
      have hb2 := cntI_le l q i
      rw [HN.out] at HNX
      rw [HRW.out] at HLW
      obtain ⟨T, HTT⟩ : ∃ T, Hid (ahC l q n + cntI l q i = T) := ⟨_, rfl⟩
      rw [HTT.out] at c2 HNX HLW
      have hT : T ≤ 25700001 := by rw [← HTT.out]; omega
      have OO2 : Hid (Own .i64 3 w.heap.size (wr.setCell ⟨r, i, none⟩ (.int .i64 (T : Int))) (.slice (some ⟨r, 0, none⟩) n n) (R (i + 1))) := by
        show Own _ _ _ _ _ _
        rw [← HLW.out]
        exact OO.out.store (HRL.out i) i _
      have OT2 := hide' (OT.out.keep hne (but_set wr r i (.int .i64 (T : Int))))
      have HE2 := hide' (Ext.but HE.out hz1 (but_set wr r i (.int .i64 (T : Int))))
      have c4 := OT2.out.cell (nexL_len l i) q hq6
      have z4 := OT2.out.frozen (nexL_len l i) q
      have OO3 := hide' (OO2.out.keep hne' (but_set _ g q (.int .i64 ((T + 1 : Nat) : Int))))
      have OT3 : Hid (Own .i64 3 w.heap.size ((wr.setCell ⟨r, i, none⟩ (.int .i64 (T : Int))).setCell ⟨g, q, none⟩ (.int .i64 ((T + 1 : Nat) : Int))) (.slice (some ⟨g, 0, none⟩) 256 cap) (nexL l (i + 1))) := by
        show Own _ _ _ _ _ _
        rw [← HNX.out]
        exact OT2.out.store (nexL_len l i) q _
      have HE3 := hide' (Ext.but HE2.out hB (but_set _ g q (.int .i64 ((T + 1 : Nat) : Int))))
      rw [nexL_at l i hq6, HN.out, HTT.out] at c4
      clear k1 hq hz HNX HLW HRW hb1 hb2
      go_wp2
      go_roundw
      case rel => exact ⟨i + 1, by omega, by go_num, OT3, OO3, HE3⟩
      case measure => simp [intOf]; omega
    · have hlt' : decide ((i : Int) < n) = false := by simp; omega
      have hin : i = n := by omega
      have OF : Hid (Own .i64 3 w.heap.size wr (.slice (some ⟨r, 0, none⟩) n n) (natL (lfN l))) := by
        have := OO.out
        rw [hin, HUR.out] at this
        exact this
      clear hin
      go_wp2
      go_ret
      exact ⟨_, rfl, OF.out, HE.out⟩
end Go.Proofs.Yticblbegjfcbdaa

/- Rows of slices of ints as rows of values ([][]int): read, owned, appended to (Vals, over ints). -/
namespace Go.Proofs.Yticblbegjfcbdaa
set_option linter.unusedVariables false
set_option linter.unusedSimpArgs false
open Go.RowKit

/-- A row of values that may be read. -/
def SlVI (w : World) (v : Value) (vs : List Value) : Prop :=
  ∃ a c, v = .slice a vs.length c ∧ vs.length ≤ c ∧ c ≤ maxLen ∧ (a = none → c = 0) ∧ (vs = [] ∨ ∃ b off, a = some ⟨b, off, none⟩ ∧ ∀ i u, vs[i]? = some u → w.cell? ⟨b, off + i, none⟩ = some u)
/-- What they read as. -/
def ReadI (w : World) (vs : List Value) (zss : List (List Int)) : Prop := vs.length = zss.length ∧ ∀ i u, vs[i]? = some u → Sl .i64 w u (zss.getD i [])
/-- Each the call's own. -/
def RowsI (B : Nat) (w : World) (vs : List Value) (zss : List (List Int)) : Prop := vs.length = zss.length ∧ ∀ i u, vs[i]? = some u → Own .i64 3 B w u (zss.getD i [])
/-- The row itself the call's own. -/
def OwnVI (B : Nat) (w : World) (s : Value) (vs : List Value) : Prop := w.ownsRow B 23 1 s vs.length vs

theorem SlVI.ext {w w' : World} {v : Value} {vs : List Value} (h : SlVI w v vs) (he : Ext w w') : SlVI w' v vs := by
  obtain ⟨a, c, h1, h2, h3, h0, h4⟩ := h
  refine ⟨a, c, h1, h2, h3, h0, ?_⟩
  rcases h4 with h4 | ⟨b, off, h4, h5⟩
  · exact .inl h4
  · exact .inr ⟨b, off, h4, fun j v hj => he.cellOf (h5 j v hj)⟩
theorem ReadI.ext {w w' : World} {vs : List Value} {zss : List (List Int)} (h : ReadI w vs zss) (he : Ext w w') : ReadI w' vs zss := ⟨h.1, fun i u hu => (h.2 i u hu).ext he⟩
theorem RowsI.ext {B : Nat} {w w' : World} {vs : List Value} {zss : List (List Int)} (h : RowsI B w vs zss) (he : Ext w w') : RowsI B w' vs zss := ⟨h.1, fun i u hu => (h.2 i u hu).ext he⟩
theorem RowsI.low {B B' : Nat} {w : World} {vs : List Value} {zss : List (List Int)} (h : RowsI B w vs zss) (hB : B' ≤ B) : RowsI B' w vs zss := ⟨h.1, fun i u hu => (h.2 i u hu).low hB⟩
theorem RowsI.read {B : Nat} {w : World} {vs : List Value} {zss : List (List Int)} (h : RowsI B w vs zss) : ReadI w vs zss := ⟨h.1, fun i u hu => (h.2 i u hu).sl⟩
theorem OwnVI.ext {B : Nat} {w w' : World} {s : Value} {vs : List Value} (h : OwnVI B w s vs) (he : Ext w w') : OwnVI B w' s vs :=
  World.ownsRow.kept (row := none) h ⟨he.os, he.tape, he.output, he.size, fun i hi _ => he.block i hi⟩ (by cases hv : s.ownBlock <;> simp)
theorem OwnVI.low {B B' : Nat} {w : World} {s : Value} {vs : List Value} (h : OwnVI B w s vs) (hB : B' ≤ B) : OwnVI B' w s vs := by
  obtain ⟨h1, h2⟩ := h
  refine ⟨h1, ?_⟩
  rcases h2 with h2 | ⟨g, cap, cur, h2, h3, h4⟩
  · exact .inl h2
  · exact .inr ⟨g, cap, cur, h2, Nat.le_trans hB h3, h4⟩
theorem OwnVI.nil (B : Nat) (w : World) : OwnVI B w (.slice none 0 0) [] := World.ownsRow_nil _ _ _ _
theorem OwnVI.sl {B : Nat} {w : World} {s : Value} {vs : List Value} (h : OwnVI B w s vs) : SlVI w s vs := by
  rcases h.2 with ⟨rfl, h2⟩ | ⟨g, cap, cur, rfl, _, hh, hn, hm, hs, ht⟩
  · exact ⟨none, 0, by rw [h2], by omega, by simp [maxLen], fun _ => rfl, .inl (List.length_eq_zero_iff.1 h2)⟩
  · refine ⟨_, cap, rfl, hn, hm, (fun h => by cases h), .inr ⟨g, 0, rfl, fun j v hj => ?_⟩⟩
    have := World.ownsRow.cells h (g := g) rfl j v hj
    rwa [Addr.add_mid] at this
/-- An empty row just laid. -/
theorem OwnVI.lit (B : Nat) (w : World) (hB : B ≤ w.heap.size) (g : Nat) (hg : g = w.heap.size) : OwnVI B (w.alloc (.cells #[] 23)) (.slice (some ⟨g, 0, none⟩) 0 0) [] := by
  subst hg
  exact World.ownsRow_made w #[] 0 hB (by simp) (by simp)
theorem Sl.cell1I {k : IntKind} {w : World} {v : Value} {zs : List Int} (h : Sl k w v zs) : v.oneCell' = true := by
  obtain ⟨a, c, rfl, _⟩ := h
  rfl
theorem ReadI.one {w : World} {vs : List Value} {zss : List (List Int)} (h : ReadI w vs zss) : ∀ u ∈ vs, u.oneCell' = true := fun u hu => by
  obtain ⟨i, hi, e⟩ := List.mem_iff_getElem.1 hu
  exact (h.2 i u (by rw [List.getElem?_eq_getElem hi, e])).cell1I
theorem ReadI.nil (w : World) : ReadI w [] [] := ⟨rfl, fun i u h => by simp at h⟩
theorem RowsI.nil (B : Nat) (w : World) : RowsI B w [] [] := ⟨rfl, fun i u h => by simp at h⟩
theorem getDI_app_left {α : Type} {x y : List α} {i : Nat} {d : α} (h : i < x.length) : (x ++ y).getD i d = x.getD i d := by simp only [List.getD_eq_getElem?_getD]; rw [List.getElem?_append_left h]
theorem getDI_app_right {α : Type} {x y : List α} {i : Nat} {d : α} (h : x.length ≤ i) : (x ++ y).getD i d = y.getD (i - x.length) d := by simp only [List.getD_eq_getElem?_getD]; rw [List.getElem?_append_right h]
theorem ltI_of_some {α : Type} {l : List α} {i : Nat} {u : α} (h : l[i]? = some u) : i < l.length := (List.getElem?_eq_some_iff.1 h).1
theorem ReadI.app {w : World} {vs us : List Value} {zss yss : List (List Int)} (h : ReadI w vs zss) (k : ReadI w us yss) : ReadI w (vs ++ us) (zss ++ yss) := by
  refine ⟨by rw [List.length_append, List.length_append, h.1, k.1], fun i u hu => ?_⟩
  by_cases hi : i < vs.length
  · rw [List.getElem?_append_left hi] at hu
    rw [getDI_app_left (by rw [← h.1]; exact hi)]
    exact h.2 i u hu
  · rw [List.getElem?_append_right (by omega)] at hu
    rw [getDI_app_right (by rw [← h.1]; omega), ← h.1]
    exact k.2 _ u hu
theorem ReadI.single {w : World} {u : Value} {zs : List Int} (h : Sl .i64 w u zs) : ReadI w [u] [zs] := ⟨rfl, fun i v hv => by
  have := ltI_of_some hv
  simp at this
  subst this
  simp at hv
  subst hv
  exact h⟩
theorem RowsI.app {B : Nat} {w : World} {vs us : List Value} {zss yss : List (List Int)} (h : RowsI B w vs zss) (k : RowsI B w us yss) : RowsI B w (vs ++ us) (zss ++ yss) := by
  refine ⟨by rw [List.length_append, List.length_append, h.1, k.1], fun i u hu => ?_⟩
  by_cases hi : i < vs.length
  · rw [List.getElem?_append_left hi] at hu
    rw [getDI_app_left (by rw [← h.1]; exact hi)]
    exact h.2 i u hu
  · rw [List.getElem?_append_right (by omega)] at hu
    rw [getDI_app_right (by rw [← h.1]; omega), ← h.1]
    exact k.2 _ u hu
theorem RowsI.single {B : Nat} {w : World} {u : Value} {zs : List Int} (h : Own .i64 3 B w u zs) : RowsI B w [u] [zs] := ⟨rfl, fun i v hv => by
  have := ltI_of_some hv
  simp at this
  subst this
  simp at hv
  subst hv
  exact h⟩
theorem RowsI.take {B : Nat} {w : World} {vs : List Value} {zss : List (List Int)} (h : RowsI B w vs zss) (n : Nat) : RowsI B w (vs.take n) (zss.take n) := by
  refine ⟨by rw [List.length_take, List.length_take, h.1], fun i u hu => ?_⟩
  rw [List.getElem?_take] at hu
  split at hu
  · rename_i hi
    rw [List.getD_eq_getElem?_getD, List.getElem?_take, if_pos hi, ← List.getD_eq_getElem?_getD]
    exact h.2 i u hu
  · cases hu
theorem RowsI.drop {B : Nat} {w : World} {vs : List Value} {zss : List (List Int)} (h : RowsI B w vs zss) (n : Nat) : RowsI B w (vs.drop n) (zss.drop n) := by
  refine ⟨by rw [List.length_drop, List.length_drop, h.1], fun i u hu => ?_⟩
  rw [List.getElem?_drop] at hu
  rw [List.getD_eq_getElem?_getD, List.getElem?_drop, ← List.getD_eq_getElem?_getD]
  exact h.2 _ u hu

/-- A block has one type: a row of another type stays. -/
theorem ownsI_other {e e' : TypeId} {B B' n m sz sz' : Nat} {w w' : World} {v x : Value} {xs ys : List Value} (hv : w.ownsRow B e sz v n xs) (hx : w.ownsRow B' e' sz' x m ys) (he : e ≠ e') (hg : w.grownBy w' v.ownBlock) : w'.ownsRow B' e' sz' x m ys := by
  refine World.ownsRow.kept (row := v.ownBlock) hx hg ?_
  rcases hx.2 with ⟨h, _⟩ | ⟨g, cap, cur, h, _, hb, _⟩
  · rw [h]; exact .inl rfl
  · refine .inr fun e1 => ?_
    rcases hv.2 with ⟨h', _⟩ | ⟨g', cap', cur', h', _, hb', _⟩
    · rw [h, h'] at e1; simp [Value.ownBlock] at e1
    · rw [h, h'] at e1
      simp only [Value.ownBlock, Option.some.injEq] at e1
      subst e1
      rw [hb] at hb'
      cases hb'
      exact he rfl
theorem ownsI_grown {e : TypeId} {B n sz : Nat} {w w' : World} {v : Value} {xs : List Value} (h : w.ownsRow B e sz v n xs) (hB : B ≤ w.heap.size) (hg : w.grownBy w' v.ownBlock) : Below B w w' :=
  (Below.refl _ _).grown hg hB (fun k hk => (World.ownsRow.lt h k hk).1)
theorem RowsI.other {B B' : Nat} {w w' : World} {s : Value} {vs us : List Value} {zss : List (List Int)} (h : RowsI B w us zss) (hv : OwnVI B' w s vs) (hg : w.grownBy w' s.ownBlock) : RowsI B w' us zss :=
  ⟨h.1, fun i u hu => ownsI_other hv (h.2 i u hu) (by decide) hg⟩

theorem infoVI : (Try.prog.info? 23).map (fun i => (i.zero, i.size, i.bytes)) = some (some (.slice none 0 0), 1, 24) := by kernel_rfl
theorem info_partsVI {P : Program} {e : TypeId} {z : Value} {n b : Nat} (h : (P.info? e).map (fun i => (i.zero, i.size, i.bytes)) = some (some z, n, b)) : ∃ i, P.info? e = some i ∧ i.zero = some z ∧ i.size = n ∧ i.bytes = b := by
  cases hi : P.info? e with
  | none => simp [hi] at h
  | some i =>
    simp only [hi, Option.map_some, Option.some.injEq, Prod.mk.injEq] at h
    exact ⟨i, rfl, h.1, h.2.1, h.2.2⟩

/-- 'append(s, x)' -/
theorem wpList_snocVI (w : World) {ops : Array Oper} {rest : List Oper} {o : Oper} {a : Act} {Q : Exit → Act → World → Prop} (hgd : o.guard = none) (s x : Operand)
    (ho : o.op = .call { callee := .builtin .append, args := #[s, x], argTypes := #[25, 25] }) (B : Nat) (v : Value) (vs : List Value) (u : Value) (g : Nat) (hs : a.eval s = v) (hx : a.eval x = .slice (some ⟨g, 0, none⟩) 1 1)
    (hc : w.cell? ⟨g, 0, none⟩ = some u) (h1 : u.oneCell' = true) (hown : OwnVI B w v vs) (hlen : vs.length + 1 ≤ 1000000) (hB : B ≤ w.heap.size)
    (h : ∀ v' w', OwnVI B w' v' (vs ++ [u]) → w.grownBy w' v.ownBlock → wpList Try.prog ops Q rest (a.put o.dst v') w') : wpList Try.prog ops Q (o :: rest) a w := by
  obtain ⟨i0, hi, hz0, hz1, hz2⟩ := info_partsVI infoVI
  refine wpList_append_own w hgd s x 25 ho B 23 i0 (.slice none 0 0) 1 24 Try.underlying25 hi hz0 hz1 hz2 rfl (by decide) v _ _ hs hown ⟨g, 0, none⟩ 1 1 [u] hx rfl ?_ (by simpa using h1) (by unfold maxLen; omega) (by omega) hB ?_
  · intro j u' hj
    rw [Addr.add_mid, Nat.zero_add]
    match j, hj with
    | 0, hj => simp at hj; subst hj; exact hc
  · intro v' w' k1 k2 _
    refine h v' w' ?_ k2
    unfold OwnVI
    rw [List.length_append]
    exact k1

/-- 'append(s, xs...)' -/
theorem wpList_joinVI (w : World) {ops : Array Oper} {rest : List Oper} {o : Oper} {a : Act} {Q : Exit → Act → World → Prop} (hgd : o.guard = none) (s x : Operand)
    (ho : o.op = .call { callee := .builtin .append, args := #[s, x], argTypes := #[25, 25] }) (B : Nat) (v y : Value) (vs us : List Value) (hs : a.eval s = v) (hx : a.eval x = y)
    (hsl : SlVI w y us) (h1 : ∀ u ∈ us, u.oneCell' = true) (hown : OwnVI B w v vs) (hlen : vs.length + us.length ≤ 1000000) (hB : B ≤ w.heap.size)
    (h : ∀ v' w', OwnVI B w' v' (vs ++ us) → w.grownBy w' v.ownBlock → wpList Try.prog ops Q rest (a.put o.dst v') w') : wpList Try.prog ops Q (o :: rest) a w := by
  obtain ⟨i0, hi, hz0, hz1, hz2⟩ := info_partsVI infoVI
  obtain ⟨ad, c, rfl, h2, h3, h0, h4⟩ := hsl
  cases ad with
  | none =>
    have hc := h0 rfl
    subst hc
    have hy : us = [] := List.length_eq_zero_iff.1 (by omega)
    subst hy
    refine wpList_append_own_none hgd s x 25 ho B 23 i0 1 Try.underlying25 hi v _ _ hs hown hx ?_
    refine h v w ?_ ⟨rfl, rfl, rfl, Nat.le_refl _, fun _ _ _ => rfl⟩
    rw [List.append_nil]; exact hown
  | some ad =>
    refine wpList_append_own w hgd s x 25 ho B 23 i0 (.slice none 0 0) 1 24 Try.underlying25 hi hz0 hz1 hz2 rfl (by decide) v _ _ hs hown ad us.length c us hx (by simp) ?_ h1 (by unfold maxLen; omega) (by omega) hB (fun v' w' k1 k2 _ => h v' w' (by unfold OwnVI; rw [List.length_append]; exact k1) k2)
    intro j u hj
    rcases h4 with rfl | ⟨b, off, hb, h5⟩
    · simp at hj
    · simp only [Option.some.injEq] at hb
      subst hb
      rw [Go.WideShapes.add_plain]
      exact h5 j u hj
theorem SlVI.row {w : World} {a : Option Addr} {n c : Nat} {vs : List Value} {zss : List (List Int)} (h : SlVI w (.slice a n c) vs) (hr : ReadI w vs zss) {k : Nat} (hk : k < zss.length) :
    ∃ g off u, a = some ⟨g, off, .none⟩ ∧ w.cell? ⟨g, off + k, .none⟩ = some u ∧ Sl .i64 w u (zss.getD k []) := by
  obtain ⟨a', c', hv, _, _, _, h4⟩ := h
  simp only [Value.slice.injEq] at hv
  obtain ⟨rfl, _, rfl⟩ := hv
  have hk' : k < vs.length := by rw [hr.1]; exact hk
  rcases h4 with h4 | ⟨g, off, rfl, h5⟩
  · rw [h4] at hk'; exact absurd hk' (by simp)
  exact ⟨g, off, vs[k], rfl, h5 k _ (List.getElem?_eq_getElem hk'), hr.2 k _ (List.getElem?_eq_getElem hk')⟩
end Go.Proofs.Yticblbegjfcbdaa

/- Rows of truths that a call owns: made, read, stored to. No conditions. -/
namespace Go.Proofs.Yticblbegjfcbdaa
set_option linter.unusedVariables false
set_option linter.unusedSimpArgs false
open Go.RowKit

theorem infoB : (Try.prog.info? 4).map (fun i => (i.zero, i.size, i.bytes)) = some (some (.bool false), 1, 1) := by kernel_rfl

/-- The call's own row of truths. -/
def OwnB (B : Nat) (w : World) (s : Value) (bs : List Bool) : Prop := w.ownsRow B 4 1 s bs.length (bs.map Value.bool)

theorem make_bools (w : World) (n : Nat) (hn : n ≤ 4000000) : ∃ w', (Instr.makeSlice 34 (.int .i64 (n : Int)) (.int .i64 (n : Int))).run Try.prog w = .ok (.slice (some ⟨w.heap.size, 0, none⟩) n n) w' ∧ OwnB w.heap.size w' (.slice (some ⟨w.heap.size, 0, none⟩) n n) (List.replicate n false) ∧ Ext w w' := by
  obtain ⟨i0, hi, hz0, hz1, hz2⟩ := info_parts infoB
  obtain ⟨w', h1, h2, h3⟩ := run_make_full (P := Try.prog) w w.heap.size 34 4 i0 (.bool false) 1 Try.underlying34 hi hz0 hz1 .i64 .i64 n (by rw [hz2]; omega) (by unfold maxLen; omega) (Nat.le_refl _)
  refine ⟨w', h1, ?_, ⟨h3.os, h3.tape, h3.output, h3.size, fun k hk => h3.block k hk (by simp)⟩⟩
  unfold OwnB
  have e1 : (Value.bool false).cells = #[Value.bool false] := rfl
  rw [e1, Nat.mul_one, toList_madeCells_one] at h2
  rw [List.length_replicate, List.map_replicate]
  exact h2

theorem OwnB.cell {B : Nat} {w : World} {g n cap : Nat} {bs : List Bool} (h : OwnB B w (.slice (some ⟨g, 0, none⟩) n cap) bs) (hn : bs.length = n) (j : Nat) (hj : j < n) : w.cell? ⟨g, j, none⟩ = some (.bool (bs.getD j false)) := by
  subst hn
  have := World.ownsRow.cellAt h j (by simpa using hj)
  rw [this]
  simp [List.getD, List.getElem?_eq_getElem hj]
theorem OwnB.frozen {B : Nat} {w : World} {g n cap : Nat} {bs : List Bool} (h : OwnB B w (.slice (some ⟨g, 0, none⟩) n cap) bs) (hn : bs.length = n) (j : Nat) : w.frozen? ⟨g, j, none⟩ = false := by
  subst hn
  exact World.ownsRow.frozenAt h j
theorem OwnB.store {B : Nat} {w : World} {g n cap : Nat} {bs : List Bool} (h : OwnB B w (.slice (some ⟨g, 0, none⟩) n cap) bs) (hn : bs.length = n) (j : Nat) (b : Bool) :
    OwnB B (w.setCell ⟨g, j, none⟩ (.bool b)) (.slice (some ⟨g, 0, none⟩) n cap) (bs.set j b) := by
  subst hn
  have := (World.ownsRow.stored h j (.bool b)).1
  unfold OwnB
  rw [List.length_set, List.map_set]
  exact this
theorem OwnB.ext {B : Nat} {w w' : World} {s : Value} {bs : List Bool} (h : OwnB B w s bs) (he : Ext w w') : OwnB B w' s bs :=
  World.ownsRow.kept (row := none) h ⟨he.os, he.tape, he.output, he.size, fun i hi _ => he.block i hi⟩ (by cases hv : s.ownBlock <;> simp)
/-- A row of truths that may be read. -/
def SlB (w : World) (v : Value) (bs : List Bool) : Prop :=
  ∃ a c, v = .slice a bs.length c ∧ bs.length ≤ c ∧ c ≤ maxLen ∧ (bs = [] ∨ ∃ b off, a = some ⟨b, off, none⟩ ∧ ∀ i, i < bs.length → w.cell? ⟨b, off + i, none⟩ = some (.bool (bs.getD i false)))

theorem SlB.ext {w w' : World} {v : Value} {bs : List Bool} (h : SlB w v bs) (he : Ext w w') : SlB w' v bs := by
  obtain ⟨a, c, h1, h2, h3, h4⟩ := h
  refine ⟨a, c, h1, h2, h3, ?_⟩
  rcases h4 with h4 | ⟨b, off, h4, h5⟩
  · exact .inl h4
  · exact .inr ⟨b, off, h4, fun i hi => he.cellOf (h5 i hi)⟩

theorem OwnB.sl {B : Nat} {w : World} {s : Value} {bs : List Bool} (h : OwnB B w s bs) : SlB w s bs := by
  obtain ⟨h1, h2⟩ := h
  rcases h2 with ⟨rfl, h2⟩ | ⟨g, cap, cur, rfl, _, hh, hn, hm, hs, ht⟩
  · exact ⟨none, 0, by rw [h2], by omega, by simp [maxLen], .inl (List.length_eq_zero_iff.1 h2)⟩
  · refine ⟨_, cap, rfl, hn, hm, .inr ⟨g, 0, rfl, fun i hi => ?_⟩⟩
    have : w.cell? ⟨g, 0 + i, none⟩ = cur[i]? := by simp [World.cell?, hh]
    rw [this]
    have h5 : cur.toList[i]? = (bs.map Value.bool)[i]? := by
      rw [← ht, List.getElem?_take, if_pos (by simpa using hi)]
    have h6 : cur[i]? = cur.toList[i]? := by simp
    rw [h6, h5]
    simp [List.getD, List.getElem?_eq_getElem hi]

theorem SlB.truth {w : World} {a : Option Addr} {n c : Nat} {bs : List Bool} (h : SlB w (.slice a n c) bs) : bs.length = n ∧ n ≤ c ∧ c ≤ maxLen ∧ (0 < n → ∃ g off, a = some ⟨g, off, none⟩ ∧ ∀ i, i < n → w.cell? ⟨g, off + i, none⟩ = some (.bool (bs.getD i false))) := by
  obtain ⟨a', c', h1, h2, h3, h4⟩ := h
  simp only [Value.slice.injEq] at h1
  obtain ⟨rfl, rfl, rfl⟩ := h1
  refine ⟨rfl, h2, h3, fun h0 => ?_⟩
  rcases h4 with h4 | ⟨b, off, h4, h5⟩
  · rw [h4] at h0; simp at h0
  · exact ⟨b, off, h4, h5⟩

theorem OwnB.nil (B : Nat) (w : World) : OwnB B w (.slice none 0 0) [] := World.ownsRow_nil _ _ _ _
theorem OwnB.alloc {B : Nat} {w : World} {s : Value} {bs : List Bool} (h : OwnB B w s bs) (o : Obj) : OwnB B (w.alloc o) s bs := World.ownsRow.alloc h o
theorem OwnB.low {B B' : Nat} {w : World} {s : Value} {bs : List Bool} (h : OwnB B w s bs) (hB : B' ≤ B) : OwnB B' w s bs := by
  obtain ⟨h1, h2⟩ := h
  refine ⟨h1, ?_⟩
  rcases h2 with h2 | ⟨g, cap, cur, h2, h3, h4⟩
  · exact .inl h2
  · exact .inr ⟨g, cap, cur, h2, Nat.le_trans hB h3, h4⟩

theorem oneB {b : Bool} : ∀ u ∈ [Value.bool b], u.oneCell' = true := by
  intro u hu; simp at hu; subst hu; rfl

/-- 'append(s, x)', s the call's own row of truths. -/
theorem wpList_snocB (w : World) {ops : Array Oper} {rest : List Oper} {o : Oper} {a : Act} {Q : Exit → Act → World → Prop} (hgd : o.guard = none) (s x : Operand)
    (ho : o.op = .call { callee := .builtin .append, args := #[s, x], argTypes := #[34, 34] }) (B : Nat) (v : Value) (bs : List Bool) (z : Bool) (ad : Addr) (hs : a.eval s = v) (hx : a.eval x = .slice (some ad) 1 1)
    (hcell : w.cell? ad = some (.bool z)) (hown : OwnB B w v bs) (hlen : bs.length + 1 ≤ 1000000) (hB : B ≤ w.heap.size)
    (h : ∀ v' w', OwnB B w' v' (bs ++ [z]) → Below B w w' → wpList Try.prog ops Q rest (a.put o.dst v') w') : wpList Try.prog ops Q (o :: rest) a w := by
  obtain ⟨i0, hi, hz0, hz1, hz2⟩ := info_parts infoB
  refine wpList_append_own w hgd s x 34 ho B 4 i0 (.bool false) 1 1 Try.underlying34 hi hz0 hz1 hz2 rfl (by decide) v _ _ hs hown ad 1 1 [.bool z] hx rfl ?_ oneB (by unfold maxLen; omega) (by omega) hB ?_
  · intro j u hj
    match j, hj with
    | 0, hj => simp at hj; subst hj; simpa [Addr.add] using hcell
  · intro v' w' h1 h2 _
    exact h v' w' (by unfold OwnB; simpa using h1) ((Below.refl _ _).grown h2 hB (fun k hk => (World.ownsRow.lt hown k hk).1))

theorem setB_same {l : List Bool} {i : Nat} {x : Bool} (h : i < l.length) : (l.set i x).getD i false = x := by simp [List.getD, h]
theorem setB_other {l : List Bool} {i j : Nat} {x : Bool} (h : i ≠ j) : (l.set i x).getD j false = l.getD j false := by
  simp [List.getD, List.getElem?_set_ne h]
theorem getB_ext {x y : List Bool} (hl : x.length = y.length) (h : ∀ k, k < x.length → x.getD k false = y.getD k false) : x = y := by
  refine List.ext_getElem hl fun k h1 h2 => ?_
  have := h k h1
  simpa [List.getD, List.getElem?_eq_getElem h1, List.getElem?_eq_getElem h2] using this
end Go.Proofs.Yticblbegjfcbdaa

/- Borders, periods and roots of a row of numbers. Plain numbers, no conditions. -/
namespace Go.Proofs.Yticblbegjfcbdaa
set_option linter.unusedVariables false
set_option linter.unusedSimpArgs false

/-- Among the first n of s each is the one d behind it. -/
def Per (s : List Int) (n d : Nat) : Prop := ∀ i, i + d < n → s.getD i 0 = s.getD (i + d) 0
/-- The first k of s are also the last of its first n. -/
def Bord (s : List Int) (n k : Nat) : Prop := k < n ∧ Per s n (n - k)
/-- The longest such. -/
def Bor (s : List Int) (n b : Nat) : Prop := Bord s n b ∧ ∀ k, Bord s n k → k ≤ b

def bdown (s : List Int) (n : Nat) : Nat → Nat
  | 0 => 0
  | k + 1 => if s.take (k + 1) = (s.take n).drop (n - (k + 1)) then k + 1 else bdown s n k
def borI (s : List Int) (n : Nat) : Nat := bdown s n (n - 1)

theorem cut_getD (s : List Int) (n m k j : Nat) (hj : j < k) (hm : m + k = n) : ((s.take n).drop m).getD j 0 = s.getD (m + j) 0 := by
  simp only [List.getD_eq_getElem?_getD, List.getElem?_drop, List.getElem?_take]
  rw [if_pos (by omega)]
theorem take_getD (s : List Int) (k j : Nat) (hj : j < k) : (s.take k).getD j 0 = s.getD j 0 := by
  simp only [List.getD_eq_getElem?_getD, List.getElem?_take]
  rw [if_pos hj]
theorem bord_iff {s : List Int} {n k : Nat} (hk : k ≤ n) (hn : n ≤ s.length) : s.take k = (s.take n).drop (n - k) ↔ Per s n (n - k) := by
  constructor
  · intro h i hi
    have h1 : (s.take k).getD i 0 = ((s.take n).drop (n - k)).getD i 0 := congrArg (fun l => l.getD i 0) h
    rw [take_getD _ _ _ (by omega), cut_getD s n (n - k) k i (by omega) (by omega)] at h1
    rw [h1, Nat.add_comm]
  · intro h
    refine getD_ext (by simp; omega) fun i hi => ?_
    have hi' : i < k := by simp at hi; omega
    rw [take_getD _ _ _ hi', cut_getD s n (n - k) k i hi' (by omega), h i (by omega), Nat.add_comm]

theorem bdown_spec (s : List Int) (n : Nat) (hn : n ≤ s.length) : ∀ m, m < n → Bord s n (bdown s n m) ∧ ∀ k, k ≤ m → Bord s n k → k ≤ bdown s n m := by
  intro m
  induction m with
  | zero => intro hm; exact ⟨⟨hm, fun i hi => by simp only [bdown] at hi; omega⟩, fun k hk _ => hk⟩
  | succ m ih =>
    intro hm
    unfold bdown
    by_cases h : s.take (m + 1) = (s.take n).drop (n - (m + 1))
    · rw [if_pos h]
      exact ⟨⟨hm, (bord_iff (by omega) hn).1 h⟩, fun k hk _ => hk⟩
    · rw [if_neg h]
      obtain ⟨h1, h2⟩ := ih (by omega)
      refine ⟨h1, fun k hk hb => ?_⟩
      by_cases hkm : k = m + 1
      · subst hkm
        exact absurd ((bord_iff (by omega) hn).2 hb.2) h
      · exact h2 k (by omega) hb

theorem borI_spec {s : List Int} {n : Nat} (h0 : 0 < n) (hn : n ≤ s.length) : Bor s n (borI s n) := by
  obtain ⟨h1, h2⟩ := bdown_spec s n hn (n - 1) (by omega)
  exact ⟨h1, fun k hk => h2 k (by have := hk.1; omega) hk⟩
theorem borI_eq {s : List Int} {n b : Nat} (hn : n ≤ s.length) (h : Bor s n b) : borI s n = b := by
  have h1 := borI_spec (s := s) (n := n) (by have := h.1.1; omega) hn
  have := h1.2 b h.1
  have := h.2 _ h1.1
  omega
theorem borI_lt {s : List Int} {n : Nat} (h0 : 0 < n) (hn : n ≤ s.length) : borI s n < n := (borI_spec h0 hn).1.1

/-- What the search for the next border keeps. -/
def Srch (s : List Int) (i n : Nat) : Prop := Bord s i n ∧ ∀ k, n < k → Bord s i k → s.getD k 0 ≠ s.getD i 0

theorem Srch.start {s : List Int} {i : Nat} (h0 : 0 < i) (hi : i ≤ s.length) : Srch s i (borI s i) := by
  have h := borI_spec h0 hi
  exact ⟨h.1, fun k hk hb => by have := h.2 k hb; omega⟩
theorem Bord.trans {s : List Int} {i n m : Nat} (h : Bord s i n) (k : Bord s n m) : Bord s i m := by
  obtain ⟨h1, h2⟩ := h
  obtain ⟨k1, k2⟩ := k
  refine ⟨by omega, fun j hj => ?_⟩
  rw [k2 j (by omega), h2 (j + (n - m)) (by omega)]
  congr 1
  omega
theorem Bord.inner {s : List Int} {i n m : Nat} (h : Bord s i n) (k : Bord s i m) (hm : m < n) : Bord s n m := by
  obtain ⟨h1, h2⟩ := h
  obtain ⟨k1, k2⟩ := k
  refine ⟨hm, fun j hj => ?_⟩
  rw [k2 j (by omega), h2 (j + (n - m)) (by omega)]
  congr 1
  omega
theorem Srch.down {s : List Int} {i n : Nat} (hi : i ≤ s.length) (h : Srch s i n) (h0 : 0 < n) (hne : s.getD n 0 ≠ s.getD i 0) : Srch s i (borI s n) := by
  have hn : n < i := h.1.1
  have hb := borI_spec (s := s) h0 (by omega)
  refine ⟨h.1.trans hb.1, fun k hk hk2 => ?_⟩
  by_cases h1 : k = n
  · subst h1; exact hne
  · by_cases h2 : n < k
    · exact h.2 k h2 hk2
    · have := hb.2 k (h.1.inner hk2 (by omega))
      omega
theorem Bord.longer {s : List Int} {i n : Nat} (h : Bord s i n) (he : s.getD n 0 = s.getD i 0) : Bord s (i + 1) (n + 1) := by
  obtain ⟨h1, h2⟩ := h
  refine ⟨by omega, fun j hj => ?_⟩
  by_cases hjn : j = n
  · subst hjn
    rw [he]
    congr 1
    omega
  · rw [h2 j (by omega)]
    congr 1
    omega
theorem Bord.shorter {s : List Int} {i n : Nat} (h : Bord s (i + 1) (n + 1)) : Bord s i n ∧ s.getD n 0 = s.getD i 0 := by
  obtain ⟨h1, h2⟩ := h
  refine ⟨⟨by omega, fun j hj => ?_⟩, ?_⟩
  · rw [h2 j (by omega)]
    congr 1
    omega
  · rw [h2 n (by omega)]
    congr 1
    omega
theorem Srch.found {s : List Int} {i n : Nat} (hi : i < s.length) (h : Srch s i n) (he : s.getD n 0 = s.getD i 0) : borI s (i + 1) = n + 1 := by
  refine borI_eq (by omega) ⟨h.1.longer he, fun k hk => ?_⟩
  cases k with
  | zero => omega
  | succ k =>
    obtain ⟨h1, h2⟩ := hk.shorter
    by_cases hkn : n < k
    · exact absurd h2 (h.2 k hkn h1)
    · omega
theorem Srch.none {s : List Int} {i : Nat} (hi : i < s.length) (h : Srch s i 0) (he : s.getD 0 0 ≠ s.getD i 0) : borI s (i + 1) = 0 := by
  refine borI_eq (by omega) ⟨⟨by omega, fun j hj => by omega⟩, fun k hk => ?_⟩
  cases k with
  | zero => omega
  | succ k =>
    obtain ⟨h1, h2⟩ := hk.shorter
    by_cases hkn : k = 0
    · subst hkn; exact absurd h2 he
    · exact absurd h2 (h.2 k (by omega) h1)

/-- All borders. -/
def borsL (s : List Int) : List Int := (List.range s.length).map fun i => (borI s (i + 1) : Int)
theorem borsL_len (s : List Int) : (borsL s).length = s.length := by simp [borsL]
theorem borsL_at {s : List Int} {i : Nat} (hi : i < s.length) : (borsL s).getD i 0 = (borI s (i + 1) : Int) := by
  simp [borsL, List.getD, List.getElem?_eq_getElem, hi]

/-- The least period. -/
def leastI (s : List Int) : Nat := s.length - borI s s.length
theorem leastI_spec {s : List Int} (h : 0 < s.length) : 1 ≤ leastI s ∧ leastI s ≤ s.length ∧ Per s s.length (leastI s) ∧ ∀ d, 1 ≤ d → Per s s.length d → leastI s ≤ d := by
  obtain ⟨h1, h2⟩ := borI_spec (s := s) h (Nat.le_refl _)
  have := h1.1
  unfold leastI
  refine ⟨by omega, by omega, h1.2, fun d hd hp => ?_⟩
  by_cases hdl : d ≤ s.length
  · have := h2 (s.length - d) ⟨by omega, by rwa [show s.length - (s.length - d) = d by omega]⟩
    omega
  · omega
theorem leastI_eq {s : List Int} {p : Nat} (h : 0 < s.length) (h1 : 1 ≤ p) (h2 : Per s s.length p) (h3 : ∀ d, 1 ≤ d → d < p → ¬ Per s s.length d) : leastI s = p := by
  obtain ⟨a1, a2, a3, a4⟩ := leastI_spec h
  have := a4 p h1 h2
  by_cases hlt : leastI s < p
  · exact absurd a3 (h3 _ a1 hlt)
  · omega

theorem Per.sub {s : List Int} {n p q : Nat} (hp : Per s n p) (hq : Per s n q) (h : p + q ≤ n) (hle : p ≤ q) : Per s n (q - p) := by
  intro i hi
  by_cases hiq : i + q < n
  · rw [hq i hiq]
    have := hp (i + (q - p)) (by omega)
    rw [this]
    congr 1
    omega
  · have h1 := hp (i - p) (by omega)
    have h2 := hq (i - p) (by omega)
    rw [show i - p + p = i by omega] at h1
    rw [show i - p + q = i + (q - p) by omega] at h2
    rw [← h1, h2]
theorem Per.gcd {s : List Int} {n : Nat} : ∀ (m p q : Nat), p + q ≤ m → p + q ≤ n → Per s n p → Per s n q → Per s n (Nat.gcd p q) := by
  intro m
  induction m with
  | zero =>
    intro p q h _ hp _
    have e1 : p = 0 := by omega
    have e2 : q = 0 := by omega
    subst e1 e2
    exact hp
  | succ m ih =>
    intro p q h hn hp hq
    by_cases h1 : p = 0
    · subst h1; rw [Nat.gcd_zero_left]; exact hq
    by_cases h2 : q = 0
    · subst h2; rw [Nat.gcd_zero_right]; exact hp
    by_cases hle : p ≤ q
    · have := ih p (q - p) (by omega) (by omega) hp (hp.sub hq hn hle)
      rwa [Nat.gcd_sub_self_right hle] at this
    · have := ih (p - q) q (by omega) (by omega) (hq.sub hp (by omega) (by omega)) hq
      rwa [Nat.gcd_sub_self_left (by omega)] at this
theorem Per.mod {s : List Int} {n d : Nat} (h : Per s n d) (hd : 0 < d) (i : Nat) (hi : i < n) : s.getD i 0 = s.getD (i % d) 0 := by
  induction i using Nat.strongRecOn with
  | ind i ih =>
    by_cases hlt : i < d
    · rw [Nat.mod_eq_of_lt hlt]
    · have h1 := h (i - d) (by omega)
      rw [show i - d + d = i by omega] at h1
      rw [← h1, ih (i - d) (by omega) (by omega)]
      congr 1
      exact (Nat.mod_eq_sub_mod (by omega)).symm
theorem Per.ofMod {s : List Int} {n d : Nat} (h : ∀ i, i < n → s.getD i 0 = s.getD (i % d) 0) : Per s n d := by
  intro i hi
  rw [h i (by omega), h (i + d) hi, Nat.add_mod_right]

/-- How long the root is. -/
def rootN (s : List Int) : Nat := if s.length % leastI s = 0 then leastI s else s.length
theorem rootN_spec {s : List Int} (h : 0 < s.length) : 1 ≤ rootN s ∧ rootN s ≤ s.length ∧ rootN s ∣ s.length ∧ Per s s.length (rootN s) ∧ ∀ d, 1 ≤ d → d ∣ s.length → Per s s.length d → rootN s ≤ d := by
  obtain ⟨a1, a2, a3, a4⟩ := leastI_spec h
  have base : 1 ≤ rootN s ∧ rootN s ≤ s.length ∧ rootN s ∣ s.length ∧ Per s s.length (rootN s) := by
    unfold rootN
    by_cases hm : s.length % leastI s = 0
    · rw [if_pos hm]
      exact ⟨a1, a2, Nat.dvd_of_mod_eq_zero hm, a3⟩
    · rw [if_neg hm]
      exact ⟨h, Nat.le_refl _, Nat.dvd_refl _, fun i hi => by omega⟩
  refine ⟨base.1, base.2.1, base.2.2.1, base.2.2.2, fun d hd hdv hp => ?_⟩
  have hpd := a4 d hd hp
  by_cases hdl : d = s.length
  · rw [hdl]; exact base.2.1
  · obtain ⟨c, hc⟩ := hdv
    have h2 : 2 * d ≤ s.length := by
      have hc0 : c ≠ 0 := fun e => by rw [e] at hc; omega
      have hc1 : c ≠ 1 := fun e => by rw [e] at hc; omega
      have : d * 2 ≤ d * c := Nat.mul_le_mul_left d (by omega)
      omega
    have hg := Per.gcd _ _ _ (Nat.le_refl _) (show leastI s + d ≤ s.length by omega) a3 hp
    have hgp : 0 < Nat.gcd (leastI s) d := Nat.gcd_pos_of_pos_left _ (by omega)
    have hge := a4 _ hgp hg
    have hgl : Nat.gcd (leastI s) d ≤ leastI s := Nat.le_of_dvd (by omega) (Nat.gcd_dvd_left _ _)
    have hgg : Nat.gcd (leastI s) d = leastI s := by omega
    have hdd : leastI s ∣ d := by rw [← hgg]; exact Nat.gcd_dvd_right _ _
    have hsl : leastI s ∣ s.length := by rw [hc]; exact Nat.dvd_mul_right_of_dvd hdd c
    have : rootN s = leastI s := by unfold rootN; rw [if_pos (Nat.mod_eq_zero_of_dvd hsl)]
    omega

/-- A row so many times has its root. -/
theorem rootN_rep {s : List Int} {n : Nat} (h : 0 < s.length) (hn : 0 < n) : rootN (repI s n) = rootN s := by
  obtain ⟨a1, a2, a3, a4, a5⟩ := rootN_spec h
  have hL := repI_len s n
  have hN : 0 < n * s.length := Nat.mul_pos hn h
  have hle : s.length ≤ n * s.length := Nat.le_mul_of_pos_left _ hn
  obtain ⟨b1, b2, b3, b4, b5⟩ := rootN_spec (s := repI s n) (by omega)
  have hp : Per (repI s n) (repI s n).length (rootN s) := by
    refine Per.ofMod fun i hi => ?_
    have hm1 : i % s.length < s.length := Nat.mod_lt _ h
    have hm2 : i % rootN s < rootN s := Nat.mod_lt _ a1
    rw [repI_at _ _ _ (by omega), repI_at _ _ _ (by omega), a4.mod a1 _ hm1, Nat.mod_mod_of_dvd _ a3, Nat.mod_eq_of_lt (show i % rootN s < s.length by omega)]
  have hdv : rootN s ∣ (repI s n).length := by rw [hL]; exact Nat.dvd_mul_left_of_dvd a3 n
  have hq := b5 _ a1 hdv hp
  by_cases h1 : n = 1
  · subst h1
    have : repI s 1 = s := by simp [repI]
    rw [this]
  · by_cases hql : rootN (repI s n) = (repI s n).length
    · omega
    · have e2 : 2 * s.length ≤ n * s.length := Nat.mul_le_mul_right _ (by omega)
      have hqq : 2 * rootN (repI s n) ≤ (repI s n).length := by
        obtain ⟨c, hc⟩ := b3
        have hc0 : c ≠ 0 := fun e => by rw [e] at hc; omega
        have hc1 : c ≠ 1 := fun e => by rw [e] at hc; omega
        have : rootN (repI s n) * 2 ≤ rootN (repI s n) * c := Nat.mul_le_mul_left _ (by omega)
        omega
      have hg := Per.gcd _ _ _ (Nat.le_refl _) (show rootN s + rootN (repI s n) ≤ (repI s n).length by omega) hp b4
      have hgp : 0 < Nat.gcd (rootN s) (rootN (repI s n)) := Nat.gcd_pos_of_pos_left _ (by omega)
      have hgs : Per s s.length (Nat.gcd (rootN s) (rootN (repI s n))) := by
        intro i hi
        have := hg i (by omega)
        rw [repI_at _ _ _ (by omega), repI_at _ _ _ (by omega), Nat.mod_eq_of_lt (by omega), Nat.mod_eq_of_lt hi] at this
        exact this
      have hge := a5 _ hgp (Nat.dvd_trans (Nat.gcd_dvd_left _ _) a3) hgs
      have hgl : Nat.gcd (rootN s) (rootN (repI s n)) ≤ rootN (repI s n) := Nat.le_of_dvd (by omega) (Nat.gcd_dvd_right _ _)
      omega
theorem root_rep {s : List Int} {n : Nat} (h : 0 < s.length) (hn : 0 < n) : (repI s n).take (rootN (repI s n)) = s.take (rootN s) := by
  rw [rootN_rep h hn]
  obtain ⟨a1, a2, _⟩ := rootN_spec h
  cases n with
  | zero => omega
  | succ n => rw [repI_cons, List.take_append_of_le_length a2]

/-- A root has none but itself. -/
theorem rootN_root {s : List Int} (h : 0 < s.length) : rootN (s.take (rootN s)) = rootN s := by
  obtain ⟨a1, a2, a3, a4, a5⟩ := rootN_spec h
  have hl : (s.take (rootN s)).length = rootN s := by rw [List.length_take]; omega
  obtain ⟨b1, b2, b3, b4, _⟩ := rootN_spec (s := s.take (rootN s)) (by omega)
  rw [hl] at b2 b3 b4
  have hp : Per s s.length (rootN (s.take (rootN s))) := by
    refine Per.ofMod fun i hi => ?_
    have hm1 : i % rootN s < rootN s := Nat.mod_lt _ a1
    have h1 := b4.mod b1 (i % rootN s) hm1
    have hm2 : i % rootN s % rootN (s.take (rootN s)) < rootN (s.take (rootN s)) := Nat.mod_lt _ b1
    rw [take_getD _ _ _ hm1, take_getD _ _ _ (by omega), Nat.mod_mod_of_dvd _ b3] at h1
    rw [a4.mod a1 i hi, h1]
  have := a5 _ b1 (Nat.dvd_trans b3 a3) hp
  omega
theorem rootN_nil : rootN [] = 0 := by unfold rootN leastI; simp
end Go.Proofs.Yticblbegjfcbdaa

/- Words without end, compared. Plain numbers, no conditions. -/
namespace Go.Proofs.Yticblbegjfcbdaa
set_option linter.unusedVariables false
set_option linter.unusedSimpArgs false

/-- The k-th of a word without end. -/
def atW (u : List Int) (k : Nat) : Int := u.getD (k % u.length) 0
/-- The first n of a word without end; of the empty one nothing. -/
def infI (u : List Int) (n : Nat) : List Int := (repI u n).take n
/-- -1, 0, 1. -/
def omI (u v : List Int) : Int := cmpI (infI u (u.length + v.length)) (infI v (u.length + v.length))

theorem infI_nil (n : Nat) : infI [] n = [] := by
  have : (repI [] n).length = 0 := by rw [repI_len]; simp
  unfold infI
  rw [List.length_eq_zero_iff.1 this]; simp
theorem infI_len {u : List Int} (n : Nat) (h : 0 < u.length) : (infI u n).length = n := by
  unfold infI
  rw [List.length_take, repI_len]
  have : n * 1 ≤ n * u.length := Nat.mul_le_mul_left n h
  omega
theorem infI_at {u : List Int} {n k : Nat} (h : 0 < u.length) (hk : k < n) : (infI u n).getD k 0 = atW u k := by
  have : n * 1 ≤ n * u.length := Nat.mul_le_mul_left n h
  unfold infI
  rw [take_getD _ _ _ hk, repI_at _ _ _ (by omega)]
  rfl

theorem atW_per (u : List Int) (k : Nat) : atW u (k + u.length) = atW u k := by unfold atW; rw [Nat.add_mod_right]

/-- Words that are alike for as many as both have together are alike without end. -/
theorem atW_same {u v : List Int} (hu : 0 < u.length) (hv : 0 < v.length) (h : ∀ k, k < u.length + v.length → atW u k = atW v k) : ∀ k, atW u k = atW v k := by
  obtain ⟨x, hx⟩ : ∃ x, x = infI u (u.length + v.length) := ⟨_, rfl⟩
  have hl : x.length = u.length + v.length := by rw [hx, infI_len _ hu]
  have hxa : ∀ k, k < u.length + v.length → x.getD k 0 = atW u k := fun k hk => by rw [hx]; exact infI_at hu hk
  have p1 : Per x (u.length + v.length) u.length := fun i hi => by rw [hxa i (by omega), hxa _ hi, atW_per]
  have p2 : Per x (u.length + v.length) v.length := fun i hi => by rw [hxa i (by omega), hxa _ hi, h i (by omega), h _ hi, atW_per]
  have pg := Per.gcd _ _ _ (Nat.le_refl _) (Nat.le_refl _) p1 p2
  have hg : 0 < Nat.gcd u.length v.length := Nat.gcd_pos_of_pos_left _ hu
  intro k
  have h1 : atW u k = x.getD (k % Nat.gcd u.length v.length) 0 := by
    have hm : k % u.length < u.length := Nat.mod_lt _ hu
    have e : atW u k = atW u (k % u.length) := by unfold atW; rw [Nat.mod_mod]
    rw [e, ← hxa _ (by omega), pg.mod hg _ (by omega), Nat.mod_mod_of_dvd _ (Nat.gcd_dvd_left _ _)]
  have h2 : atW v k = x.getD (k % Nat.gcd u.length v.length) 0 := by
    have hm : k % v.length < v.length := Nat.mod_lt _ hv
    have e : atW v k = atW v (k % v.length) := by unfold atW; rw [Nat.mod_mod]
    rw [e, ← h _ (by omega), ← hxa _ (by omega), pg.mod hg _ (by omega), Nat.mod_mod_of_dvd _ (Nat.gcd_dvd_right _ _)]
  rw [h1, h2]

/-- Less, place by place. -/
def LtF (f g : Nat → Int) : Prop := ∃ m, (∀ k, k < m → f k = g k) ∧ f m < g m
theorem LtF.irr {f g : Nat → Int} (h : LtF f g) (k : LtF g f) : False := by
  obtain ⟨m, h1, h2⟩ := h
  obtain ⟨n, k1, k2⟩ := k
  rcases Nat.lt_trichotomy m n with g | g | g
  · have := k1 m g; omega
  · subst g; omega
  · have := h1 n g; omega
theorem LtF.trans {f g h : Nat → Int} (a : LtF f g) (b : LtF g h) : LtF f h := by
  obtain ⟨m, h1, h2⟩ := a
  obtain ⟨n, k1, k2⟩ := b
  rcases Nat.lt_trichotomy m n with q | q | q
  · exact ⟨m, fun k hk => (h1 k hk).trans (k1 k (by omega)), by rw [← k1 m q]; exact h2⟩
  · subst q; exact ⟨m, fun k hk => (h1 k hk).trans (k1 k hk), by omega⟩
  · exact ⟨n, fun k hk => (h1 k (by omega)).trans (k1 k hk), by rw [h1 n q]; exact k2⟩
theorem first_other {f g : Nat → Int} : ∀ n, (∀ k, k < n → f k = g k) ∨ ∃ m, m < n ∧ (∀ k, k < m → f k = g k) ∧ f m ≠ g m
  | 0 => .inl fun k hk => by omega
  | n + 1 => by
    rcases first_other (f := f) (g := g) n with h | ⟨m, h1, h2, h3⟩
    · by_cases e : f n = g n
      · refine .inl fun k hk => ?_
        by_cases hk2 : k = n
        · subst hk2; exact e
        · exact h k (by omega)
      · exact .inr ⟨n, by omega, h, e⟩
    · exact .inr ⟨m, by omega, h2, h3⟩

/-- As the first other one tells. -/
theorem cmpI_first {x y : List Int} {m : Nat} (hx : m < x.length) (hy : m < y.length) (h : ∀ k, k < m → x.getD k 0 = y.getD k 0) (hne : x.getD m 0 ≠ y.getD m 0) : cmpI x y = if x.getD m 0 < y.getD m 0 then -1 else 1 := by
  have key : ∀ k, k ≤ m → cmpI x y = cmpI (x.drop k) (y.drop k) := by
    intro k
    induction k with
    | zero => intro _; simp
    | succ k ih => intro hk; rw [ih (by omega), cmpI_same (by omega) (by omega) (h k (by omega))]
  rw [key m (Nat.le_refl _)]
  by_cases hlt : x.getD m 0 < y.getD m 0
  · rw [if_pos hlt, cmpI_lt hx hy hlt]
  · rw [if_neg hlt, cmpI_gt hx hy (by omega)]

/-- However much is looked at, if it is enough. -/
theorem omI_eq (u v : List Int) (N : Nat) (hN : u.length + v.length ≤ N) : cmpI (infI u N) (infI v N) = omI u v := by
  unfold omI
  by_cases hu : u = []
  · subst hu
    by_cases hv : v = []
    · subst hv; simp only [infI_nil]
    · have hv' : 0 < v.length := List.length_pos_iff.2 hv
      have e : ∀ n, 0 < n → cmpI [] (infI v n) = -1 := fun n hn => by
        have hl := infI_len n hv'
        cases hc : infI v n with
        | nil => rw [hc] at hl; simp at hl; omega
        | cons a l => rfl
      simp only [infI_nil]
      simp at hN
      rw [e _ (by omega), e _ (by simp; omega)]
  · have hu' : 0 < u.length := List.length_pos_iff.2 hu
    by_cases hv : v = []
    · subst hv
      have e : ∀ n, 0 < n → cmpI (infI u n) [] = 1 := fun n hn => by
        have hl := infI_len n hu'
        cases hc : infI u n with
        | nil => rw [hc] at hl; simp at hl; omega
        | cons a l => rfl
      simp only [infI_nil]
      simp at hN
      rw [e _ (by omega), e _ (by simp; omega)]
    · have hv' : 0 < v.length := List.length_pos_iff.2 hv
      have e : ∀ n, u.length + v.length ≤ n → (∀ k, k < u.length + v.length → atW u k = atW v k) → cmpI (infI u n) (infI v n) = 0 := fun n hn h => by
        have : infI u n = infI v n := getD_ext (by rw [infI_len _ hu', infI_len _ hv']) fun k hk => by
          rw [infI_len _ hu'] at hk
          rw [infI_at hu' hk, infI_at hv' hk, atW_same hu' hv' h k]
        rw [this, cmpI_self]
      have e2 : ∀ n m, m < n → (∀ k, k < m → atW u k = atW v k) → atW u m ≠ atW v m → cmpI (infI u n) (infI v n) = if atW u m < atW v m then -1 else 1 := fun n m hm h hne => by
        have := cmpI_first (x := infI u n) (y := infI v n) (m := m) (by rw [infI_len _ hu']; exact hm) (by rw [infI_len _ hv']; exact hm)
          (fun k hk => by rw [infI_at hu' (by omega), infI_at hv' (by omega)]; exact h k hk) (by rw [infI_at hu' hm, infI_at hv' hm]; exact hne)
        rw [infI_at hu' hm, infI_at hv' hm] at this
        exact this
      rcases first_other (f := atW u) (g := atW v) (u.length + v.length) with h | ⟨m, h1, h2, h3⟩
      · rw [e _ hN h, e _ (Nat.le_refl _) h]
      · rw [e2 N m (by omega) h2 h3, e2 _ m h1 h2 h3]

theorem omI_none_left {v : List Int} (hv : 0 < v.length) : omI [] v = -1 := by
  unfold omI
  rw [infI_nil]
  have hl := infI_len (([] : List Int).length + v.length) hv
  cases hc : infI v (([] : List Int).length + v.length) with
  | nil => rw [hc] at hl; simp at hl; omega
  | cons a l => rfl
theorem omI_swap (u v : List Int) : omI v u = - omI u v := by
  unfold omI
  rw [Nat.add_comm v.length, cmpI_swap]
theorem omI_none_right {v : List Int} (hv : 0 < v.length) : omI v [] = 1 := by rw [omI_swap, omI_none_left hv]; rfl
theorem omI_nil : omI [] [] = 0 := by decide
theorem omI_other {u v : List Int} (hu : 0 < u.length) (hv : 0 < v.length) {m : Nat} (hm : m < u.length + v.length) (h : ∀ k, k < m → atW u k = atW v k) (hne : atW u m ≠ atW v m) : omI u v = if atW u m < atW v m then -1 else 1 := by
  unfold omI
  have := cmpI_first (x := infI u (u.length + v.length)) (y := infI v (u.length + v.length)) (m := m) (by rw [infI_len _ hu]; exact hm) (by rw [infI_len _ hv]; exact hm)
    (fun k hk => by rw [infI_at hu (by omega), infI_at hv (by omega)]; exact h k hk) (by rw [infI_at hu hm, infI_at hv hm]; exact hne)
  rw [infI_at hu hm, infI_at hv hm] at this
  exact this
theorem omI_same {u v : List Int} (hu : 0 < u.length) (hv : 0 < v.length) (h : ∀ k, k < u.length + v.length → atW u k = atW v k) : omI u v = 0 := by
  have : infI u (u.length + v.length) = infI v (u.length + v.length) := getD_ext (by rw [infI_len _ hu, infI_len _ hv]) fun k hk => by
    rw [infI_len _ hu] at hk
    rw [infI_at hu hk, infI_at hv hk, h k hk]
  unfold omI
  rw [this, cmpI_self]
theorem omI_zero {u v : List Int} (hu : 0 < u.length) (hv : 0 < v.length) : omI u v = 0 ↔ ∀ k, atW u k = atW v k := by
  constructor
  · intro h
    have := cmpI_zero h
    refine atW_same hu hv fun k hk => ?_
    rw [← infI_at hu hk, this, infI_at hv hk]
  · exact fun h => omI_same hu hv fun k _ => h k
theorem omI_neg {u v : List Int} (hu : 0 < u.length) (hv : 0 < v.length) : omI u v < 0 ↔ LtF (atW u) (atW v) := by
  rcases first_other (f := atW u) (g := atW v) (u.length + v.length) with h | ⟨m, h1, h2, h3⟩
  · rw [omI_same hu hv h]
    constructor
    · intro h; omega
    · rintro ⟨m, _, h2⟩
      have := atW_same hu hv h m
      omega
  · rw [omI_other hu hv h1 h2 h3]
    by_cases hlt : atW u m < atW v m
    · rw [if_pos hlt]
      exact ⟨fun _ => ⟨m, h2, hlt⟩, fun _ => by omega⟩
    · rw [if_neg hlt]
      refine ⟨fun h => by omega, fun h => absurd h fun h => ?_⟩
      have hgt : LtF (atW v) (atW u) := ⟨m, fun k hk => (h2 k hk).symm, by omega⟩
      exact (LtF.irr h hgt).elim

theorem omI_three (u v : List Int) : omI u v = -1 ∨ omI u v = 0 ∨ omI u v = 1 := cmpI_three _ _

/-- Of three, through the middle one. -/
theorem omI_trans (u v w : List Int) (h : omI u v ≤ 0) (h' : omI v w ≤ 0) : omI u w ≤ 0 := by
  have hN : ∀ a b : List Int, a.length + b.length ≤ u.length + v.length + w.length → cmpI (infI a (u.length + v.length + w.length)) (infI b (u.length + v.length + w.length)) = omI a b := fun a b h => omI_eq a b _ h
  rw [← hN u v (by omega)] at h
  rw [← hN v w (by omega)] at h'
  rw [← hN u w (by omega)]
  exact cmpI_trans _ _ _ h h'
theorem omI_alike (u v w : List Int) (h : omI u v = 0) : omI v w = omI u w := by
  have hN : ∀ a b : List Int, a.length + b.length ≤ u.length + v.length + w.length → cmpI (infI a (u.length + v.length + w.length)) (infI b (u.length + v.length + w.length)) = omI a b := fun a b h => omI_eq a b _ h
  rw [← hN u v (by omega)] at h
  rw [← hN v w (by omega), ← hN u w (by omega), cmpI_zero h]

/-- A word again and again is the same without end. -/
theorem atW_rep {u : List Int} {n : Nat} (hn : 0 < n) (hu : 0 < u.length) (k : Nat) : atW (repI u n) k = atW u k := by
  unfold atW
  rw [repI_at _ _ _ (by rw [repI_len]; exact Nat.mod_lt _ (Nat.mul_pos hn hu)), repI_len, Nat.mod_mul_left_mod]
theorem omI_rep {u : List Int} {a b : Nat} (hu : 0 < u.length) (ha : 0 < a) (hb : 0 < b) : omI (repI u a) (repI u b) = 0 :=
  (omI_zero (by rw [repI_len]; exact Nat.mul_pos ha hu) (by rw [repI_len]; exact Nat.mul_pos hb hu)).2 fun k => by rw [atW_rep ha hu, atW_rep hb hu]
theorem repI_root {u : List Int} (hu : 0 < u.length) : repI (u.take (rootN u)) (u.length / rootN u) = u := by
  obtain ⟨a1, a2, a3, a4, _⟩ := rootN_spec hu
  have hl : (u.take (rootN u)).length = rootN u := by rw [List.length_take]; omega
  have hm : u.length / rootN u * rootN u = u.length := Nat.div_mul_cancel a3
  refine getD_ext (by rw [repI_len, hl, hm]) fun k hk => ?_
  rw [repI_len, hl, hm] at hk
  rw [repI_at _ _ _ (by rw [hl, hm]; exact hk), hl, take_getD _ _ _ (Nat.mod_lt _ a1), ← a4.mod a1 k hk]
/-- The same without end just if there is one root. -/
theorem omI_root {u v : List Int} (hu : 0 < u.length) (hv : 0 < v.length) : omI u v = 0 ↔ u.take (rootN u) = v.take (rootN v) := by
  constructor
  · intro h
    have h1 := (omI_zero hu hv).1 h
    have e : repI u v.length = repI v u.length := by
      refine getD_ext (by rw [repI_len, repI_len, Nat.mul_comm]) fun k hk => ?_
      rw [repI_len] at hk
      rw [repI_at _ _ _ hk, repI_at _ _ _ (by rw [Nat.mul_comm]; exact hk)]
      exact h1 k
    rw [← root_rep hu hv, ← root_rep hv hu, e]
  · intro h
    obtain ⟨a1, a2, a3, _⟩ := rootN_spec hu
    obtain ⟨b1, b2, b3, _⟩ := rootN_spec hv
    have := omI_rep (u := u.take (rootN u)) (a := u.length / rootN u) (b := v.length / rootN v) (by rw [List.length_take]; omega) (Nat.div_pos a2 a1) (Nat.div_pos b2 b1)
    rw [repI_root hu, h, repI_root hv] at this
    exact this
/-- As what is long enough of both tells. -/
theorem omI_long {u v : List Int} (hu : 0 < u.length) (hv : 0 < v.length) : cmpI (repI u (2 * v.length)) (repI v (2 * u.length)) = omI u v := by
  have hL : 2 * v.length * u.length = 2 * u.length * v.length := by rw [Nat.mul_assoc, Nat.mul_assoc, Nat.mul_comm v.length]
  have g : ∀ {x : List Int} {n N : Nat}, 0 < x.length → n * x.length = N → repI x n = infI x N := by
    intro x n N hx hN
    refine getD_ext (by rw [repI_len, infI_len _ hx, hN]) fun k hk => ?_
    rw [repI_len] at hk
    rw [repI_at _ _ _ hk, infI_at hx (by omega)]
    rfl
  rw [g hu hL, g hv rfl, omI_eq]
  have e1 : 1 * u.length ≤ v.length * u.length := Nat.mul_le_mul_right _ hv
  have e2 : v.length * 1 ≤ v.length * u.length := Nat.mul_le_mul_left _ hu
  rw [Nat.mul_assoc, Nat.mul_comm u.length]
  omega
end Go.Proofs.Yticblbegjfcbdaa

/- Ranks, and the order of endless rows by doubling. Plain numbers, no conditions. -/
namespace Go.Proofs.Yticblbegjfcbdaa
set_option linter.unusedVariables false
set_option linter.unusedSimpArgs false

/-- How many times the pair of keys turns, up to the i-th. -/
def cls (ord : List Nat) (f s : Nat → Nat) : Nat → Nat
  | 0 => 0
  | i + 1 => cls ord f s i + (if f (ord.getD (i + 1) 0) = f (ord.getD i 0) ∧ s (ord.getD (i + 1) 0) = s (ord.getD i 0) then 0 else 1)

/-- Less by the first key, then by the second. -/
def Lt2 (f s : Nat → Nat) (p q : Nat) : Prop := f p < f q ∨ (f p = f q ∧ s p < s q)

theorem cls_le (ord : List Nat) (f s : Nat → Nat) : ∀ i, cls ord f s i ≤ i
  | 0 => Nat.le_refl _
  | i + 1 => by have := cls_le ord f s i; unfold cls; split <;> omega

theorem pair_at {R : Nat → Nat → Prop} {l : List Nat} (h : l.Pairwise R) {i j : Nat} (hij : i < j) (hj : j < l.length) : R (l.getD i 0) (l.getD j 0) := by
  have := List.pairwise_iff_getElem.1 h i j (by omega) hj hij
  simpa [List.getD, List.getElem?_eq_getElem hj, List.getElem?_eq_getElem (show i < l.length by omega)] using this

theorem cls_up {ord : List Nat} {f s : Nat → Nat} (h : ord.Pairwise fun p q => ¬ Lt2 f s q p) {i : Nat} : ∀ {j : Nat}, i ≤ j → j < ord.length →
    (cls ord f s i = cls ord f s j ∧ f (ord.getD i 0) = f (ord.getD j 0) ∧ s (ord.getD i 0) = s (ord.getD j 0)) ∨ (cls ord f s i < cls ord f s j ∧ Lt2 f s (ord.getD i 0) (ord.getD j 0)) := by
  intro j hij
  induction hij with
  | refl => intro _; exact .inl ⟨rfl, rfl, rfl⟩
  | step hm ih =>
    rename_i m
    intro hj
    have hj' : m + 1 < ord.length := hj
    have hs := pair_at h (show m < m + 1 by omega) hj'
    have ih' := ih (by omega)
    have hc : cls ord f s (m + 1) = cls ord f s m + (if f (ord.getD (m + 1) 0) = f (ord.getD m 0) ∧ s (ord.getD (m + 1) 0) = s (ord.getD m 0) then 0 else 1) := rfl
    unfold Lt2 at *
    show (cls ord f s i = cls ord f s (m + 1) ∧ _ = f (ord.getD (m + 1) 0) ∧ _ = s (ord.getD (m + 1) 0)) ∨ (cls ord f s i < cls ord f s (m + 1) ∧ (_ < f (ord.getD (m + 1) 0) ∨ _ = f (ord.getD (m + 1) 0) ∧ _ < s (ord.getD (m + 1) 0)))
    rw [hc]
    generalize ord.getD (m + 1) 0 = q at *
    generalize ord.getD m 0 = p at *
    generalize ord.getD i 0 = o at *
    split
    · rename_i e; omega
    · rename_i e; omega

/-- What the ranks of an order are. -/
theorem rank_iff {ord : List Nat} {f s rk : Nat → Nat} {M : Nat} (hp : ord.Perm (List.range M)) (h : ord.Pairwise fun p q => ¬ Lt2 f s q p) (hr : ∀ i, i < M → rk (ord.getD i 0) = cls ord f s i) :
    ∀ p q, p < M → q < M → (rk p < rk q ↔ Lt2 f s p q) := by
  have hl : ord.length = M := by rw [hp.length_eq, List.length_range]
  have key : ∀ i j, i ≤ j → j < M → (rk (ord.getD i 0) = rk (ord.getD j 0) ∧ f (ord.getD i 0) = f (ord.getD j 0) ∧ s (ord.getD i 0) = s (ord.getD j 0)) ∨ (rk (ord.getD i 0) < rk (ord.getD j 0) ∧ Lt2 f s (ord.getD i 0) (ord.getD j 0)) := fun i j hij hj => by
    rw [hr i (by omega), hr j hj]
    exact cls_up h hij (by omega)
  intro p q hpM hqM
  obtain ⟨i, hi, rfl⟩ := mem_getN (hp.mem_iff.2 (List.mem_range.2 hpM))
  obtain ⟨j, hj, rfl⟩ := mem_getN (hp.mem_iff.2 (List.mem_range.2 hqM))
  unfold Lt2 at *
  rcases Nat.le_total i j with g | g
  · have := key i j g (by omega); omega
  · have := key j i g (by omega); omega

theorem cls_onto (ord : List Nat) (f s : Nat → Nat) : ∀ i r, r ≤ cls ord f s i → ∃ j, j ≤ i ∧ cls ord f s j = r
  | 0, r, h => ⟨0, Nat.le_refl _, by have : cls ord f s 0 = 0 := rfl; omega⟩
  | i + 1, r, h => by
    by_cases e : r = cls ord f s (i + 1)
    · exact ⟨i + 1, Nat.le_refl _, e.symm⟩
    · have hc : cls ord f s (i + 1) = cls ord f s i + (if f (ord.getD (i + 1) 0) = f (ord.getD i 0) ∧ s (ord.getD (i + 1) 0) = s (ord.getD i 0) then 0 else 1) := rfl
      have : r ≤ cls ord f s i := by
        rw [hc] at h e
        split at h <;> split at e <;> omega
      obtain ⟨j, h1, h2⟩ := cls_onto ord f s i r this
      exact ⟨j, by omega, h2⟩
theorem cls_mono {ord : List Nat} {f s : Nat → Nat} {i j : Nat} (h : i ≤ j) : cls ord f s i ≤ cls ord f s j := by
  induction h with
  | refl => exact Nat.le_refl _
  | step _ ih =>
    rename_i m _
    have hc : cls ord f s (m + 1) = cls ord f s m + (if f (ord.getD (m + 1) 0) = f (ord.getD m 0) ∧ s (ord.getD (m + 1) 0) = s (ord.getD m 0) then 0 else 1) := rfl
    show _ ≤ cls ord f s (m + 1)
    omega

/-- How many ranks there are. -/
def clsT (ord : List Nat) (f s : Nat → Nat) (i : Nat) : Nat := match i with | 0 => 0 | i + 1 => cls ord f s i + 1

theorem rank_dense {ord : List Nat} {f s rk : Nat → Nat} {M : Nat} (hp : ord.Perm (List.range M)) (hr : ∀ i, i < M → rk (ord.getD i 0) = cls ord f s i) :
    (∀ p, p < M → rk p < clsT ord f s M) ∧ ∀ r, r < clsT ord f s M → ∃ p, p < M ∧ rk p = r := by
  have hl : ord.length = M := by rw [hp.length_eq, List.length_range]
  cases M with
  | zero => exact ⟨fun p h => by omega, fun r h => by simp [clsT] at h⟩
  | succ M =>
    constructor
    · intro p hpM
      obtain ⟨i, hi, rfl⟩ := mem_getN (hp.mem_iff.2 (List.mem_range.2 hpM))
      rw [hr i (by omega)]
      have := cls_mono (ord := ord) (f := f) (s := s) (show i ≤ M by omega)
      show _ < cls ord f s M + 1
      omega
    · intro r h
      obtain ⟨j, h1, h2⟩ := cls_onto ord f s M r (by simp only [clsT] at h; omega)
      refine ⟨ord.getD j 0, ?_, by rw [hr j (by omega), h2]⟩
      exact List.mem_range.1 (hp.mem_iff.1 (getN_mem (by omega)))

/-- Ranks that part no more than others did are the same ones. -/
theorem dense_up {M n : Nat} {a b : Nat → Nat} (hon : ∀ r, r < n → ∃ p, p < M ∧ a p = r) (hab : ∀ p q, p < M → q < M → a p < a q → b p < b q) : ∀ r p, p < M → a p = r → a p < n → r ≤ b p := by
  intro r
  induction r with
  | zero => intro p _ _ _; omega
  | succ r ih =>
    intro p hp e hn
    obtain ⟨q, hq, eq⟩ := hon r (by omega)
    have h1 := ih q hq eq (by omega)
    have h2 := hab q p hq hp (by omega)
    omega
theorem dense_same {M n : Nat} {a b : Nat → Nat} (hon : ∀ r, r < n → ∃ p, p < M ∧ a p = r) (han : ∀ p, p < M → a p < n) (hbn : ∀ p, p < M → b p < n) (hab : ∀ p q, p < M → q < M → a p < a q → b p < b q) : ∀ p, p < M → b p = a p := by
  have up : ∀ d p, p < M → a p + d + 1 = n → b p ≤ a p := by
    intro d
    induction d with
    | zero => intro p hp e; have := hbn p hp; omega
    | succ d ih =>
      intro p hp e
      obtain ⟨q, hq, eq⟩ := hon (a p + 1) (by omega)
      have h1 := ih q hq (by omega)
      have h2 := hab p q hp hq (by omega)
      omega
  intro p hp
  have h1 := dense_up hon hab _ p hp rfl (han p hp)
  have h2 := up (n - 1 - a p) p hp (by have := han p hp; omega)
  omega
theorem dense_more {M n m : Nat} {a b : Nat → Nat} (hon : ∀ r, r < n → ∃ p, p < M ∧ a p = r) (hbm : ∀ p, p < M → b p < m) (hab : ∀ p q, p < M → q < M → a p < a q → b p < b q) : n ≤ m := by
  cases n with
  | zero => omega
  | succ n =>
    obtain ⟨p, hp, e⟩ := hon n (by omega)
    have h1 := dense_up hon hab _ p hp rfl (by omega)
    have := hbm p hp
    omega

/-- So many steps on. -/
def itN (nx : Nat → Nat) : Nat → Nat → Nat
  | 0, p => p
  | k + 1, p => itN nx k (nx p)
theorem itN_add (nx : Nat → Nat) : ∀ (a b p : Nat), itN nx (a + b) p = itN nx b (itN nx a p)
  | 0, b, p => by rw [Nat.zero_add]; rfl
  | a + 1, b, p => by
    rw [show a + 1 + b = (a + b) + 1 by omega]
    exact itN_add nx a b (nx p)
theorem itN_lt {nx : Nat → Nat} {M : Nat} (h : ∀ p, p < M → nx p < M) : ∀ k p, p < M → itN nx k p < M
  | 0, p, hp => hp
  | k + 1, p, hp => itN_lt h k (nx p) (h p hp)
/-- What is read from p on. -/
def seqN (b : Nat → Int) (nx : Nat → Nat) (p k : Nat) : Int := b (itN nx k p)
theorem seqN_on (b : Nat → Int) (nx : Nat → Nat) (L p k : Nat) : seqN b nx (itN nx L p) k = seqN b nx p (L + k) := by
  unfold seqN; rw [itN_add]

/-- Less within the first L. -/
def LtN (L : Nat) (f g : Nat → Int) : Prop := ∃ m, m < L ∧ (∀ k, k < m → f k = g k) ∧ f m < g m
theorem LtN.irr {L : Nat} {f g : Nat → Int} (h : LtN L f g) (k : LtN L g f) : False := by
  obtain ⟨m, _, h1, h2⟩ := h
  obtain ⟨n, _, k1, k2⟩ := k
  exact LtF.irr ⟨m, h1, h2⟩ ⟨n, k1, k2⟩
theorem LtN.three {L : Nat} (f g : Nat → Int) : LtN L f g ∨ LtN L g f ∨ ∀ k, k < L → f k = g k := by
  rcases first_other (f := f) (g := g) L with h | ⟨m, h1, h2, h3⟩
  · exact .inr (.inr h)
  · by_cases hlt : f m < g m
    · exact .inl ⟨m, h1, h2, hlt⟩
    · exact .inr (.inl ⟨m, h1, fun k hk => (h2 k hk).symm, by omega⟩)
theorem LtN.ne {L : Nat} {f g : Nat → Int} (h : LtN L f g) (k : ∀ k, k < L → f k = g k) : False := by
  obtain ⟨m, hm, _, h2⟩ := h
  have := k m hm
  omega
/-- By both halves. -/
theorem LtN.twice {L : Nat} {f g : Nat → Int} : LtN (L + L) f g ↔ LtN L f g ∨ ((∀ k, k < L → f k = g k) ∧ LtN L (fun k => f (L + k)) (fun k => g (L + k))) := by
  constructor
  · rintro ⟨m, hm, h1, h2⟩
    by_cases h : m < L
    · exact .inl ⟨m, h, h1, h2⟩
    · refine .inr ⟨fun k hk => h1 k (by omega), m - L, by omega, fun k hk => h1 (L + k) (by omega), ?_⟩
      show f (L + (m - L)) < g (L + (m - L))
      rw [show L + (m - L) = m by omega]; exact h2
  · rintro (⟨m, hm, h1, h2⟩ | ⟨h0, m, hm, h1, h2⟩)
    · exact ⟨m, by omega, h1, h2⟩
    · refine ⟨L + m, by omega, fun k hk => ?_, h2⟩
      by_cases h : k < L
      · exact h0 k h
      · have := h1 (k - L) (by omega)
        simp only [show L + (k - L) = k by omega] at this
        exact this

/-- The ranks tell the order by the first L. -/
def Rk (M : Nat) (b : Nat → Int) (nx : Nat → Nat) (L : Nat) (rk : Nat → Nat) : Prop := ∀ p q, p < M → q < M → (rk p < rk q ↔ LtN L (seqN b nx p) (seqN b nx q))
theorem Rk.same {M L : Nat} {b : Nat → Int} {nx rk : Nat → Nat} (h : Rk M b nx L rk) {p q : Nat} (hp : p < M) (hq : q < M) : rk p = rk q ↔ ∀ k, k < L → seqN b nx p k = seqN b nx q k := by
  have h1 := h p q hp hq
  have h2 := h q p hq hp
  rcases LtN.three (L := L) (seqN b nx p) (seqN b nx q) with g | g | g
  · have := h1.2 g
    exact ⟨fun e => by omega, fun e => (LtN.ne g e).elim⟩
  · have := h2.2 g
    exact ⟨fun e => by omega, fun e => (LtN.ne g (fun k hk => (e k hk).symm)).elim⟩
  · refine ⟨fun _ => g, fun _ => ?_⟩
    have a1 : ¬ rk p < rk q := fun e => LtN.ne (h1.1 e) g
    have a2 : ¬ rk q < rk p := fun e => LtN.ne (h2.1 e) (fun k hk => (g k hk).symm)
    omega
theorem Rk.start {M : Nat} {b : Nat → Int} {nx rk : Nat → Nat} (h : ∀ p, p < M → b p = (rk p : Int)) : Rk M b nx 1 rk := by
  intro p q hp hq
  have e1 : seqN b nx p 0 = (rk p : Int) := h p hp
  have e2 : seqN b nx q 0 = (rk q : Int) := h q hq
  constructor
  · intro e
    exact ⟨0, by omega, fun k hk => by omega, by rw [e1, e2]; omega⟩
  · rintro ⟨m, hm, _, h2⟩
    have : m = 0 := by omega
    subst this
    rw [e1, e2] at h2
    omega
theorem Rk.twice {M L : Nat} {b : Nat → Int} {nx rk : Nat → Nat} (hn : ∀ p, p < M → nx p < M) (h : Rk M b nx L rk) {p q : Nat} (hp : p < M) (hq : q < M) :
    Lt2 rk (fun p => rk (itN nx L p)) p q ↔ LtN (L + L) (seqN b nx p) (seqN b nx q) := by
  rw [LtN.twice]
  unfold Lt2
  have e1 : (fun k => seqN b nx p (L + k)) = seqN b nx (itN nx L p) := by funext k; exact (seqN_on b nx L p k).symm
  have e2 : (fun k => seqN b nx q (L + k)) = seqN b nx (itN nx L q) := by funext k; exact (seqN_on b nx L q k).symm
  rw [e1, e2, ← h p q hp hq, ← h _ _ (itN_lt hn L p hp) (itN_lt hn L q hq), h.same hp hq]

/-- Ranks that twice as many do not part are parted by none. -/
theorem Rk.whole {M L : Nat} {b : Nat → Int} {nx rk : Nat → Nat} (hL : 0 < L) (hn : ∀ p, p < M → nx p < M) (h : Rk M b nx L rk) (hs : ∀ p q, p < M → q < M → rk p = rk q → rk (itN nx L p) = rk (itN nx L q)) {p q : Nat} (hp : p < M) (hq : q < M) :
    (rk p = rk q → ∀ k, seqN b nx p k = seqN b nx q k) := by
  intro e k
  induction k using Nat.strongRecOn generalizing p q with
  | ind k ih =>
    by_cases hk : k < L
    · exact (h.same hp hq).1 e k hk
    · have h1 := ih (k - L) (by omega) (itN_lt hn L p hp) (itN_lt hn L q hq) (hs p q hp hq e)
      rw [seqN_on, seqN_on, show L + (k - L) = k by omega] at h1
      exact h1

/-- Less without end; of the same ones by place. -/
def RR (b : Nat → Int) (nx : Nat → Nat) (p q : Nat) : Prop := LtF (seqN b nx p) (seqN b nx q) ∨ ((∀ k, seqN b nx p k = seqN b nx q k) ∧ p < q)

theorem Rk.order {M L : Nat} {b : Nat → Int} {nx rk : Nat → Nat} (hL : 0 < L) (hn : ∀ p, p < M → nx p < M) (h : Rk M b nx L rk) (hs : ∀ p q, p < M → q < M → rk p = rk q → rk (itN nx L p) = rk (itN nx L q)) {p q : Nat} (hp : p < M) (hq : q < M)
    (ho : rk p < rk q ∨ (rk p = rk q ∧ (rk (itN nx L p) < rk (itN nx L q) ∨ (rk (itN nx L p) = rk (itN nx L q) ∧ p < q)))) : RR b nx p q := by
  rcases ho with ho | ⟨h1, ho⟩
  · obtain ⟨m, _, h1, h2⟩ := (h p q hp hq).1 ho
    exact .inl ⟨m, h1, h2⟩
  · have := hs p q hp hq h1
    exact .inr ⟨h.whole hL hn hs hp hq h1, by omega⟩
end Go.Proofs.Yticblbegjfcbdaa

/- The cycles of an order. Plain numbers, no conditions. -/
namespace Go.Proofs.Yticblbegjfcbdaa
set_option linter.unusedVariables false
set_option linter.unusedSimpArgs false

/-- What all rows of cycles have, found so far. -/
structure CycAll (p : Nat → Nat) (cs : List (List Nat)) : Prop where
  ne : ∀ c ∈ cs, 0 < c.length
  nxt : ∀ c ∈ cs, ∀ t, t < c.length → p (c.getD t 0) = c.getD ((t + 1) % c.length) 0
  least : ∀ c ∈ cs, ∀ x ∈ c, c.getD 0 0 ≤ x
  up : cs.Pairwise fun c d => c.getD 0 0 < d.getD 0 0
/-- The cycles of an order of n places. -/
structure CycOf (p : Nat → Nat) (n : Nat) (cs : List (List Nat)) : Prop extends CycAll p cs where
  all : cs.flatten.Perm (List.range n)
/-- The cycles of all places ahead of i. -/
structure CycTo (p : Nat → Nat) (n i : Nat) (cs : List (List Nat)) : Prop extends CycAll p cs where
  nodup : cs.flatten.Nodup
  lt : ∀ x ∈ cs.flatten, x < n
  upto : ∀ j, j < i → j ∈ cs.flatten
  heads : ∀ c ∈ cs, c.getD 0 0 < i
/-- One cycle, as far as it is walked; k is the next one. -/
structure CycIn (p : Nat → Nat) (n i : Nat) (cs : List (List Nat)) (c : List Nat) (k : Nat) : Prop where
  nodup : c.Nodup
  apart : ∀ x ∈ c, x ∉ cs.flatten
  lt : ∀ x ∈ c, x < n
  first : c = [] → k = i
  head : 0 < c.length → c.getD 0 0 = i
  nxt : ∀ t, t + 1 < c.length → p (c.getD t 0) = c.getD (t + 1) 0
  on : 0 < c.length → p (c.getD (c.length - 1) 0) = k
  klt : k < n

theorem CycTo.start (p : Nat → Nat) (n : Nat) : CycTo p n 0 [] :=
  { ne := (fun c hc => by cases hc), nxt := (fun c hc => by cases hc), least := (fun c hc => by cases hc), up := List.Pairwise.nil, nodup := (by simp), lt := (fun x hx => by simp at hx), upto := (fun j hj => by omega), heads := (fun c hc => by cases hc) }
theorem CycTo.skip {p : Nat → Nat} {n i : Nat} {cs : List (List Nat)} (h : CycTo p n i cs) (hi : i ∈ cs.flatten) : CycTo p n (i + 1) cs :=
  { h with
    upto := fun j hj => by
      by_cases e : j = i
      · subst e; exact hi
      · exact h.upto j (by omega)
    heads := fun c hc => by have := h.heads c hc; omega }
theorem CycIn.start {p : Nat → Nat} {n i : Nat} {cs : List (List Nat)} (hi : i < n) : CycIn p n i cs [] i :=
  ⟨by simp, (fun x hx => by cases hx), (fun x hx => by cases hx), (fun _ => rfl), (fun h => by simp at h), (fun t h => by simp at h), (fun h => by simp at h), hi⟩
theorem getN_snoc_lt {c : List Nat} {k t : Nat} (h : t < c.length) : (c ++ [k]).getD t 0 = c.getD t 0 := by
  simp only [List.getD_eq_getElem?_getD]
  rw [List.getElem?_append_left h]
theorem getN_snoc_eq {c : List Nat} {k t : Nat} (h : t = c.length) : (c ++ [k]).getD t 0 = k := by
  subst h
  simp
theorem CycIn.step {p : Nat → Nat} {n i k : Nat} {cs : List (List Nat)} {c : List Nat} (hp : ∀ x, x < n → p x < n) (h : CycIn p n i cs c k) (h1 : k ∉ c) (h2 : k ∉ cs.flatten) : CycIn p n i cs (c ++ [k]) (p k) := by
  have hl : (c ++ [k]).length = c.length + 1 := by simp
  refine ⟨?_, ?_, ?_, fun e => ?_, fun _ => ?_, fun t ht => ?_, fun _ => ?_, hp k h.klt⟩
  · refine List.nodup_append.2 ⟨h.nodup, by simp, fun a ha b hb e => ?_⟩
    rw [List.mem_singleton] at hb
    subst hb; subst e
    exact h1 ha
  · intro x hx
    rcases List.mem_append.1 hx with g | g
    · exact h.apart x g
    · rw [List.mem_singleton.1 g]; exact h2
  · intro x hx
    rcases List.mem_append.1 hx with g | g
    · exact h.lt x g
    · rw [List.mem_singleton.1 g]; exact h.klt
  · simp at e
  · by_cases e : c = []
    · subst e
      simp [h.first rfl]
    · have : 0 < c.length := List.length_pos_iff.2 e
      rw [getN_snoc_lt this]
      exact h.head this
  · rw [hl] at ht
    rw [getN_snoc_lt (by omega)]
    by_cases e : t + 1 = c.length
    · rw [getN_snoc_eq e]
      have := h.on (by omega)
      rw [show c.length - 1 = t by omega] at this
      exact this
    · rw [getN_snoc_lt (by omega)]
      exact h.nxt t (by omega)
  · rw [hl, Nat.add_sub_cancel, getN_snoc_eq rfl]
theorem mem_flat {cs : List (List Nat)} {x : Nat} : x ∈ cs.flatten ↔ ∃ c ∈ cs, x ∈ c := List.mem_flatten
/-- A place met again closes the cycle. -/
theorem CycIn.close {p : Nat → Nat} {n i k : Nat} {cs : List (List Nat)} {c : List Nat} (hinj : ∀ x y, x < n → y < n → p x = p y → x = y) (hc : CycTo p n i cs) (h : CycIn p n i cs c k) (hi : i ∉ cs.flatten) (hk : k ∈ c ∨ k ∈ cs.flatten) : CycTo p n (i + 1) (cs ++ [c]) := by
  have hne : 0 < c.length := by
    rcases Nat.eq_zero_or_pos c.length with e | e
    · have e2 := List.length_eq_zero_iff.1 e
      rw [h.first e2, e2] at hk
      rcases hk with g | g
      · cases g
      · exact absurd g hi
    · exact e
  have hlast : c.getD (c.length - 1) 0 ∈ c := getN_mem (by omega)
  have hon := h.on hne
  have hki : k = i := by
    rcases hk with g | g
    · obtain ⟨t, ht, e⟩ := mem_getN g
      by_cases e0 : t = 0
      · subst e0
        rw [← e]
        exact h.head hne
      · have h3 := h.nxt (t - 1) (by omega)
        rw [show t - 1 + 1 = t by omega, e, ← hon] at h3
        have h4 := hinj _ _ (h.lt _ (getN_mem (by omega))) (h.lt _ hlast) h3
        have h5 := nodup_getN h.nodup (by omega) (by omega) h4
        omega
    · exfalso
      obtain ⟨d, hd, hx⟩ := mem_flat.1 g
      obtain ⟨t, ht, e⟩ := mem_getN hx
      obtain ⟨u, hu, eu⟩ : ∃ u, u < d.length ∧ (u + 1) % d.length = t := by
        by_cases e0 : t = 0
        · exact ⟨d.length - 1, by omega, by rw [e0, show d.length - 1 + 1 = d.length by omega, Nat.mod_self]⟩
        · exact ⟨t - 1, by omega, by rw [show t - 1 + 1 = t by omega, Nat.mod_eq_of_lt ht]⟩
      have h3 := hc.nxt d hd u hu
      rw [eu, e, ← hon] at h3
      have hm : d.getD u 0 ∈ cs.flatten := mem_flat.2 ⟨d, hd, getN_mem hu⟩
      have h4 := hinj _ _ (hc.lt _ hm) (h.lt _ hlast) h3
      rw [h4] at hm
      exact h.apart _ hlast hm
  have hhead := h.head hne
  have hflat : (cs ++ [c]).flatten = cs.flatten ++ c := by simp
  have hin : i ∈ c := by rw [← hhead]; exact getN_mem hne
  refine { ne := ?_, nxt := ?_, least := ?_, up := ?_, nodup := ?_, lt := ?_, upto := ?_, heads := ?_ }
  · intro d hd
    rcases List.mem_append.1 hd with g | g
    · exact hc.ne d g
    · rw [List.mem_singleton.1 g]; exact hne
  · intro d hd t ht
    rcases List.mem_append.1 hd with g | g
    · exact hc.nxt d g t ht
    · rw [List.mem_singleton.1 g] at ht ⊢
      by_cases e : t + 1 = c.length
      · rw [e, Nat.mod_self, hhead, ← hki, ← hon, show c.length - 1 = t by omega]
      · rw [Nat.mod_eq_of_lt (by omega)]
        exact h.nxt t (by omega)
  · intro d hd x hx
    rcases List.mem_append.1 hd with g | g
    · exact hc.least d g x hx
    · rw [List.mem_singleton.1 g] at hx ⊢
      rw [hhead]
      rcases Nat.lt_or_ge x i with g2 | g2
      · exact absurd (hc.upto x g2) (h.apart x hx)
      · exact g2
  · refine List.pairwise_append.2 ⟨hc.up, by simp, fun d hd e he => ?_⟩
    rw [List.mem_singleton.1 he, hhead]
    exact hc.heads d hd
  · rw [hflat]
    refine List.nodup_append.2 ⟨hc.nodup, h.nodup, fun a ha b hb e => ?_⟩
    subst e
    exact h.apart _ hb ha
  · intro x hx
    rw [hflat] at hx
    rcases List.mem_append.1 hx with g | g
    · exact hc.lt x g
    · exact h.lt x g
  · intro j hj
    rw [hflat]
    by_cases e : j = i
    · rw [e]; exact List.mem_append_right _ hin
    · exact List.mem_append_left _ (hc.upto j (by omega))
  · intro d hd
    rcases List.mem_append.1 hd with g | g
    · have := hc.heads d g; omega
    · rw [List.mem_singleton.1 g, hhead]; omega
theorem nodup_permN_le {l : List Nat} {n : Nat} (h : l.Nodup) (hl : ∀ x ∈ l, x < n) : l.length ≤ n := by
  rcases Nat.lt_or_ge n l.length with g | g
  · exfalso
    have hp := nodup_permN h (l' := List.range n) (fun x hx => List.mem_range.2 (hl x hx)) (by rw [List.length_range]; omega)
    have := hp.length_eq
    rw [List.length_range] at this
    omega
  · exact g
theorem CycTo.done {p : Nat → Nat} {n : Nat} {cs : List (List Nat)} (h : CycTo p n n cs) : CycOf p n cs :=
  { toCycAll := h.toCycAll
    all := (nodup_permN List.nodup_range (fun x hx => h.upto x (List.mem_range.1 hx)) (by
      have := nodup_permN_le h.nodup h.lt
      rw [List.length_range]; exact this)).symm }
end Go.Proofs.Yticblbegjfcbdaa

/- Which places were walked: the row of truths that the loop over cycles keeps. Plain lists. -/
namespace Go.Proofs.Yticblbegjfcbdaa
set_option linter.unusedVariables false
set_option linter.unusedSimpArgs false

/-- Which of n places stand in a row. -/
def seenF (n : Nat) (xs : List Nat) : List Bool := (List.range n).map fun k => decide (k ∈ xs)
theorem seenF_len (n : Nat) (xs : List Nat) : (seenF n xs).length = n := by simp [seenF]
theorem seenF_nil (n : Nat) : seenF n [] = List.replicate n false :=
  List.ext_getElem (by simp [seenF]) fun i h1 h2 => by simp [seenF]
theorem seenF_at {n k : Nat} (xs : List Nat) (h : k < n) : (seenF n xs).getD k false = decide (k ∈ xs) := by
  have h' : k < (seenF n xs).length := by rw [seenF_len]; exact h
  rw [List.getD_eq_getElem?_getD, List.getElem?_eq_getElem h']
  simp [seenF]
theorem seenF_set {n k : Nat} (xs : List Nat) (h : k < n) : (seenF n xs).set k true = seenF n (xs ++ [k]) := by
  refine List.ext_getElem (by simp [seenF]) fun i h1 h2 => ?_
  rw [List.getElem_set]
  by_cases e : k = i
  · subst e; rw [if_pos rfl]; simp [seenF]
  · rw [if_neg e]
    have e' : ¬ i = k := fun h => e h.symm
    simp [seenF, e']
theorem seenF_close (n : Nat) (cs : List (List Nat)) (c : List Nat) : seenF n (cs.flatten ++ c) = seenF n (cs ++ [c]).flatten := by simp
/-- The round's own test: is the next place walked already? -/
theorem seenF_test {n k : Nat} (cs : List (List Nat)) (c : List Nat) (h : k < n) : (seenF n (cs.flatten ++ c)).getD k false = decide (k ∈ c ∨ k ∈ cs.flatten) := by
  rw [seenF_at _ h]
  exact decide_eq_decide.2 (by rw [List.mem_append]; exact Or.comm)
end Go.Proofs.Yticblbegjfcbdaa

/- An order has just one row of cycles. Plain numbers, no conditions. -/
namespace Go.Proofs.Yticblbegjfcbdaa
set_option linter.unusedVariables false
set_option linter.unusedSimpArgs false

theorem nodup_permG {α : Type} [DecidableEq α] {l : List α} : ∀ {l' : List α}, l.Nodup → (∀ x ∈ l, x ∈ l') → l'.length ≤ l.length → l.Perm l' := by
  induction l with
  | nil => intro l' _ _ h; rw [List.length_eq_zero_iff.1 (Nat.le_zero.1 h)]
  | cons a l ih =>
    intro l' hn hs hl
    rw [List.nodup_cons] at hn
    have ha := hs a List.mem_cons_self
    have h2 := List.length_erase_of_mem ha
    rw [List.length_cons] at hl
    have h1 := ih (l' := l'.erase a) hn.2 (fun x hx => by
      have hne : x ≠ a := fun e => hn.1 (e ▸ hx)
      exact (List.mem_erase_of_ne hne).2 (hs x (List.mem_cons_of_mem _ hx))) (by omega)
    exact (List.Perm.cons a h1).trans (List.perm_cons_erase ha).symm
theorem nodup_leG {α : Type} [DecidableEq α] {l l' : List α} (h : l.Nodup) (hs : ∀ x ∈ l, x ∈ l') : l.length ≤ l'.length := by
  rcases Nat.lt_or_ge l'.length l.length with g | g
  · have := (nodup_permG h hs (by omega)).length_eq
    omega
  · exact g
theorem mem_permG {α : Type} [DecidableEq α] {l l' : List α} (h : l.Nodup) (h' : l'.Nodup) (hs : ∀ x, x ∈ l ↔ x ∈ l') : l.Perm l' :=
  nodup_permG h (fun x hx => (hs x).1 hx) (nodup_leG h' fun x hx => (hs x).2 hx)

theorem CycAll.nodup {p : Nat → Nat} {cs : List (List Nat)} (h : CycAll p cs) : cs.Nodup := h.up.imp fun {a b} g e => by rw [e] at g; omega
/-- Of one cycle. -/
theorem flat_nodup {cs : List (List Nat)} (h : cs.flatten.Nodup) {c : List Nat} (hc : c ∈ cs) : c.Nodup := (List.pairwise_flatten.1 h).1 c hc
theorem CycOf.nodupC {p : Nat → Nat} {n : Nat} {cs : List (List Nat)} (h : CycOf p n cs) {c : List Nat} (hc : c ∈ cs) : c.Nodup := flat_nodup (h.all.nodup_iff.2 List.nodup_range) hc
theorem CycOf.ltC {p : Nat → Nat} {n : Nat} {cs : List (List Nat)} (h : CycOf p n cs) {c : List Nat} (hc : c ∈ cs) {x : Nat} (hx : x ∈ c) : x < n := List.mem_range.1 (h.all.mem_iff.1 (mem_flat.2 ⟨c, hc, hx⟩))
theorem CycOf.find {p : Nat → Nat} {n : Nat} {cs : List (List Nat)} (h : CycOf p n cs) {x : Nat} (hx : x < n) : ∃ c ∈ cs, x ∈ c := mem_flat.1 (h.all.mem_iff.2 (List.mem_range.2 hx))
/-- One that begins alike is the same. -/
theorem cyc_same {p : Nat → Nat} {c d : List Nat} (hc : 0 < c.length) (hd : 0 < d.length) (nc : c.Nodup) (nd : d.Nodup) (h1 : ∀ t, t < c.length → p (c.getD t 0) = c.getD ((t + 1) % c.length) 0) (h2 : ∀ t, t < d.length → p (d.getD t 0) = d.getD ((t + 1) % d.length) 0)
    (e : c.getD 0 0 = d.getD 0 0) : c = d := by
  have key : ∀ t, t < c.length → t < d.length → c.getD t 0 = d.getD t 0 := by
    intro t
    induction t with
    | zero => intro _ _; exact e
    | succ t ih =>
      intro g1 g2
      have e1 := h1 t (by omega)
      have e2 := h2 t (by omega)
      rw [Nat.mod_eq_of_lt g1] at e1
      rw [Nat.mod_eq_of_lt g2] at e2
      rw [← e1, ← e2, ih (by omega) (by omega)]
  have hlen : c.length = d.length := by
    rcases Nat.lt_trichotomy c.length d.length with g | g | g
    · exfalso
      have e1 := h1 (c.length - 1) (by omega)
      have e2 := h2 (c.length - 1) (by omega)
      rw [show c.length - 1 + 1 = c.length by omega, Nat.mod_self] at e1
      rw [show c.length - 1 + 1 = c.length by omega, Nat.mod_eq_of_lt g] at e2
      rw [key _ (by omega) (by omega), e2, e] at e1
      have := nodup_getN nd (by omega) (by omega) e1
      omega
    · exact g
    · exfalso
      have e1 := h1 (d.length - 1) (by omega)
      have e2 := h2 (d.length - 1) (by omega)
      rw [show d.length - 1 + 1 = d.length by omega, Nat.mod_self] at e2
      rw [show d.length - 1 + 1 = d.length by omega, Nat.mod_eq_of_lt g] at e1
      rw [key _ (by omega) (by omega), e2, ← e] at e1
      have := nodup_getN nc (by omega) (by omega) e1
      omega
  exact natL_ext hlen fun t ht => key t ht (by omega)
/-- Round a cycle. -/
theorem cyc_it {p : Nat → Nat} {c : List Nat} (hc : 0 < c.length) (h1 : ∀ t, t < c.length → p (c.getD t 0) = c.getD ((t + 1) % c.length) 0) {t u : Nat} (ht : t < c.length) (hu : u < c.length) : ∃ k, itN p k (c.getD t 0) = c.getD u 0 := by
  have key : ∀ k, itN p k (c.getD t 0) = c.getD ((t + k) % c.length) 0 := by
    intro k
    induction k with
    | zero => rw [Nat.add_zero, Nat.mod_eq_of_lt ht]; rfl
    | succ k ih =>
      rw [itN_add p k 1, ih]
      show p _ = _
      rw [h1 _ (Nat.mod_lt _ hc), Nat.mod_add_mod, Nat.add_assoc]
  refine ⟨u + c.length - t, ?_⟩
  rw [key, show t + (u + c.length - t) = u + c.length by omega, Nat.add_mod_right, Nat.mod_eq_of_lt hu]
theorem cyc_closed {p : Nat → Nat} {c : List Nat} (hc : 0 < c.length) (h1 : ∀ t, t < c.length → p (c.getD t 0) = c.getD ((t + 1) % c.length) 0) {x : Nat} (hx : x ∈ c) : ∀ k, itN p k x ∈ c := by
  intro k
  induction k generalizing x with
  | zero => exact hx
  | succ k ih =>
    obtain ⟨t, ht, rfl⟩ := mem_getN hx
    show itN p k (p _) ∈ c
    rw [h1 t ht]
    exact ih (getN_mem (Nat.mod_lt _ hc))
theorem CycOf.sub {p : Nat → Nat} {n : Nat} {cs ds : List (List Nat)} (h : CycOf p n cs) (k : CycOf p n ds) {c : List Nat} (hc : c ∈ cs) : c ∈ ds := by
  have nc := h.ne c hc
  have hx : c.getD 0 0 ∈ c := getN_mem nc
  obtain ⟨d, hd, hxd⟩ := k.find (h.ltC hc hx)
  have nd := k.ne d hd
  have l1 := k.least d hd _ hxd
  obtain ⟨t, ht, et⟩ := mem_getN hxd
  obtain ⟨j, hj⟩ := cyc_it nd (k.nxt d hd) ht nd
  have hy : d.getD 0 0 ∈ c := by
    rw [← hj, et]
    exact cyc_closed nc (h.nxt c hc) hx j
  have l2 := h.least c hc _ hy
  have := cyc_same nc nd (h.nodupC hc) (k.nodupC hd) (h.nxt c hc) (k.nxt d hd) (by omega)
  rw [this]
  exact hd
theorem CycOf.eq {p : Nat → Nat} {n : Nat} {cs ds : List (List Nat)} (h : CycOf p n cs) (k : CycOf p n ds) : cs = ds :=
  List.Perm.eq_of_pairwise (le := fun c d : List Nat => c.getD 0 0 < d.getD 0 0) (fun a b _ _ h1 h2 => by omega) h.up k.up (mem_permG h.nodup k.nodup fun c => ⟨h.sub k, k.sub h⟩)
end Go.Proofs.Yticblbegjfcbdaa

/- Contracts of the document's own Inverse and Is: whorlref16. -/
namespace Go.Proofs.Yticblbegjfcbdaa
set_option linter.unusedVariables false
set_option linter.unusedSimpArgs false
open Go.RowKit

set_option maxHeartbeats 1000000 in
theorem rinv_any (v : Value) (l : List Int) (w : World) (hv : Sl .i64 w v l) (hlen : l.length ≤ 1000000) :
    Calls Try.prog 18 #[v] w fun e w' => ∃ s, e = .returned (.tuple #[s, .bool (ordB l)]) ∧ Own .i64 3 w.heap.size w' s (invI l) ∧ Ext w w' := by
  have HV := hide' hv
  obtain ⟨a, c, rfl, _⟩ := hv
  obtain ⟨_, _, _, hcv⟩ := HV.out.int
  have CV := hide' hcv
  obtain ⟨n, HN⟩ : ∃ n, Hid (l.length = n) := ⟨_, rfl⟩
  rw [HN.out] at CV hlen ⊢
  clear hcv HV
  obtain ⟨w1, hmk, ho, he⟩ := make_intsB w n (by omega)
  have HO := hide' ho
  have HE := hide' he
  clear ho he
  go_enter Try.func18, Try.ntmps18
  go_wp2
  clear hmk
  go_loopw [5] (fun vi wr => ∃ (i : Nat) (bs : List Int), i ≤ n ∧ vi = .int .i64 i ∧ Hid (bs.length = n) ∧ Hid (∀ j, j < i → bs.getD j 0 = -1) ∧
    Hid (Own .i64 3 w.heap.size wr (.slice (some ⟨w.heap.size, 0, none⟩) n n) bs) ∧ Hid (Ext w wr)) (fun vi _ => n - (intOf vi).toNat)
  case atStart => exact ⟨0, List.replicate n 0, Nat.zero_le _, rfl, List.length_replicate, (fun j hj => by omega), HO, HE⟩
  case round =>
    clear HO HE
    obtain ⟨i, bs, hi, rfl, HL, HB, HO, HE⟩ := hrel
    by_cases hlt : i < n
    · have hlt' : (i : Int) < n := by omega
      have hfz := HO.out.frozen HL.out i
      have hci := HO.out.cell HL.out i hlt
      have HO2 := hide' (HO.out.store HL.out i (-1))
      go_wp2
      go_roundw
      case rel =>
        refine ⟨i + 1, bs.set i (-1), by omega, by go_num, (show _ = _ by rw [List.length_set]; exact HL.out), fun j hj => ?_, HO2, Ext.but HE.out (Nat.le_refl _) (but_set _ _ _ _)⟩
        by_cases hji : j = i
        · subst hji; rw [setI_same (by rw [HL.out]; exact hlt)]
        · rw [setI_other (by omega), HB.out j (by omega)]
      case measure => simp [intOf]; omega
    · have hlt' : decide ((i : Int) < n) = false := by simp; omega
      have hin : n = i := by omega
      have HI0 : Hid (Inv l 0 bs) := Inv.start (by rw [HL.out, HN.out]) fun x hx => HB.out x (by rw [HN.out] at hx; omega)
      clear HB
      subst hin
      go_wp2
      go_loopw [6] (fun vi wq => ∃ (t : Nat) (cs : List Int), t ≤ n ∧ vi = .int .i64 t ∧ Hid (cs.length = n) ∧ Hid (Inv l t cs) ∧
        Hid (Own .i64 3 w.heap.size wq (.slice (some ⟨w.heap.size, 0, none⟩) n n) cs) ∧ Hid (Ext w wq)) (fun vi _ => n - (intOf vi).toNat)
      case atStart => exact ⟨0, bs, Nat.zero_le _, rfl, HL, HI0, HO, HE⟩
      case round =>
        clear HO HE HL HI0 hlt hlt' hi
        obtain ⟨t, cs, ht, rfl, HL, HI, HO, HE⟩ := hrel
        by_cases hlt : t < n
        · have hlt' : (t : Int) < n := by omega
          obtain ⟨g1, o1, rfl, k1⟩ := CV.out (by omega)
          have c1 := HE.out.cellOf (k1 t hlt)
          have C1 := hide' (k1 t hlt)
          clear k1
          have HBAD : Hid (∀ z, l.getD t 0 = z → (z < 0 ∨ (n : Int) ≤ z ∨ 0 ≤ cs.getD z.toNat 0) → ordB l = false ∧ invI l = []) := fun z hz h => HI.out.bad (by rw [HN.out]; exact hlt) (by rw [hz, HN.out]; exact h)
          have HNX : Hid (∀ p : Nat, l.getD t 0 = (p : Int) → p < n → cs.getD p 0 < 0 → Inv l (t + 1) (cs.set p (t : Int))) := fun p h1 h2 h3 => HI.out.next (by rw [HN.out]; exact hlt) h1 (by rw [HN.out]; exact h2) h3
          obtain ⟨z, HZ⟩ : ∃ p, Hid (l.getD t 0 = p) := ⟨_, rfl⟩
          rw [HZ.out] at c1 C1
          by_cases h0 : z < 0
          · have HB := hide' (HBAD.out z HZ.out (.inl h0))
            go_wp2
            go_ret2
            rw [HB.out.1, HB.out.2]
            exact ⟨_, rfl, Own.nil _ _ _ _, HE.out⟩
          · have e0 : decide (z < 0) = false := by simp; omega
            by_cases h1 : (n : Int) ≤ z
            · have HB := hide' (HBAD.out z HZ.out (.inr (.inl h1)))
              go_wp2
              go_ret2
              rw [HB.out.1, HB.out.2]
              exact ⟨_, rfl, Own.nil _ _ _ _, HE.out⟩
            · have e1 : decide ((n : Int) ≤ z) = false := by simp; omega
              obtain ⟨p, rfl⟩ := Int.eq_ofNat_of_zero_le (show 0 ≤ z by omega)
              have hp : p < n := by omega
              have hp' : (p : Int) < n := by omega
              have e2 : decide (n ≤ p) = false := by simp; omega
              have hci := HO.out.cell HL.out p hp
              clear h0 h1
              obtain ⟨y, HY⟩ : ∃ x, Hid (cs.getD p 0 = x) := ⟨_, rfl⟩
              rw [HY.out] at hci
              by_cases hy : 0 ≤ y
              · have HB := hide' (HBAD.out p HZ.out (.inr (.inr (by rw [Int.toNat_natCast, HY.out]; exact hy))))
                go_wp2
                go_ret2
                rw [HB.out.1, HB.out.2]
                exact ⟨_, rfl, Own.nil _ _ _ _, HE.out⟩
              · have e3 : decide (0 ≤ y) = false := by simp; omega
                have HM2 := hide' (HNX.out p HZ.out hp (by rw [HY.out]; omega))
                have hfz := HO.out.frozen HL.out p
                have HO2 := hide' (HO.out.store HL.out p (t : Int))
                clear hy
                go_wp2
                go_roundw
                case rel => exact ⟨t + 1, cs.set p (t : Int), by omega, by go_num, (show _ = _ by rw [List.length_set]; exact HL.out), HM2, HO2, Ext.but HE.out (Nat.le_refl _) (but_set _ _ _ _)⟩
                case measure => simp [intOf] <;> omega
        · have hlt' : decide ((t : Int) < n) = false := by simp; omega
          have htl : n = t := by omega
          have HB := hide' ((show Inv l l.length cs by rw [HN.out, htl]; exact HI.out).done)
          go_wp2
          go_ret2
          rw [HB.out.1, HB.out.2]
          exact ⟨_, rfl, HO.out, HE.out⟩

theorem ris_any (v : Value) (l : List Int) (w : World) (hv : Sl .i64 w v l) (hlen : l.length ≤ 1000000) :
    Calls Try.prog 12 #[v] w fun e w' => e = .returned (.bool (ordB l)) ∧ Ext w w' := by
  have C := hide' (rinv_any v l w hv hlen)
  clear hv hlen
  go_enter Try.func12, Try.ntmps12
  go_wp2_with fail
  refine C.out.mono ?_
  rintro e w1 ⟨s, rfl, _, he⟩
  have X1 := hide' he
  clear he C
  go_wp2
  go_ret
  exact ⟨rfl, X1.out⟩
end Go.Proofs.Yticblbegjfcbdaa

/- Two rows of the call's own, grown side by side: rows of two types lie apart. Over any program, no conditions. -/
namespace Go.Proofs.Yticblbegjfcbdaa
set_option linter.unusedVariables false
set_option linter.unusedSimpArgs false
open Go.RowKit

theorem grown_refl (w : World) (row : Option Nat) : w.grownBy w row := ⟨rfl, rfl, rfl, Nat.le_refl _, fun _ _ _ => rfl⟩

/-- 'append(s, x)', s the call's own: all but s's block is as it was. -/
theorem wpList_snocG {P : Program} (w : World) {ops : Array Oper} {rest : List Oper} {o : Oper} {a : Act} {Q : Exit → Act → World → Prop} (hgd : o.guard = none) (s x : Operand) (t : TypeId)
    (ho : o.op = .call { callee := .builtin .append, args := #[s, x], argTypes := #[t, t] }) (e : TypeId) (k : IntKind) (bytes : Nat) (ht : P.underlying t = some (.slice e))
    (hinfo : (P.info? e).map (fun i => (i.zero, i.size, i.bytes)) = some (some (.int k 0), 1, bytes)) (B : Nat) (v : Value) (zs : List Int) (z : Int) (ad : Addr) (hs : a.eval s = v) (hx : a.eval x = .slice (some ad) 1 1)
    (hcell : w.cell? ad = some (.int k z)) (hown : Own k e B w v zs) (hlen : (zs.length + 1) * bytes ≤ 140737488355328 ∧ zs.length + 1 ≤ maxLen) (hB : B ≤ w.heap.size)
    (h : ∀ v' w', Own k e B w' v' (zs ++ [z]) → w.grownBy w' v.ownBlock → wpList P ops Q rest (a.put o.dst v') w') : wpList P ops Q (o :: rest) a w := by
  obtain ⟨i0, hi, hz0, hz1, hz2⟩ := info_parts hinfo
  refine wpList_append_own w hgd s x t ho B e i0 (.int k 0) 1 bytes ht hi hz0 hz1 hz2 rfl (by decide) v _ _ hs hown ad 1 1 [.int k z] hx rfl ?_ one1 hlen.2 hlen.1 hB ?_
  · intro j u hj
    match j, hj with
    | 0, hj => simp at hj; subst hj; simpa [Addr.add] using hcell
  · intro v' w' h1 h2 _
    exact h v' w' (Own.snoc h1) h2

/-- 'append(s, xs...)', s the call's own, xs whatever numbers: all but s's block is as it was. -/
theorem wpList_joinG {P : Program} (w : World) {ops : Array Oper} {rest : List Oper} {o : Oper} {a : Act} {Q : Exit → Act → World → Prop} (hgd : o.guard = none) (s x : Operand) (t : TypeId)
    (ho : o.op = .call { callee := .builtin .append, args := #[s, x], argTypes := #[t, t] }) (e : TypeId) (k : IntKind) (bytes : Nat) (ht : P.underlying t = some (.slice e))
    (hinfo : (P.info? e).map (fun i => (i.zero, i.size, i.bytes)) = some (some (.int k 0), 1, bytes)) (B : Nat) (v u : Value) (zs ys : List Int) (hs : a.eval s = v) (hx : a.eval x = u)
    (hown : Own k e B w v zs) (hsl : Sl k w u ys) (hlen : (zs.length + ys.length) * bytes ≤ 140737488355328 ∧ zs.length + ys.length ≤ maxLen) (hB : B ≤ w.heap.size)
    (h : ∀ v' w', Own k e B w' v' (zs ++ ys) → w.grownBy w' v.ownBlock → wpList P ops Q rest (a.put o.dst v') w') : wpList P ops Q (o :: rest) a w := by
  obtain ⟨i0, hi, hz0, hz1, hz2⟩ := info_parts hinfo
  obtain ⟨ad, c, rfl, h1, h2, h3, h4⟩ := hsl
  cases ad with
  | none =>
    have hc := h3 rfl
    subst hc
    have hy : ys = [] := List.length_eq_zero_iff.1 (by omega)
    subst hy
    refine wpList_append_own_none hgd s x t ho B e i0 1 ht hi v _ _ hs hown hx ?_
    refine h v w ?_ (grown_refl _ _)
    rw [List.append_nil]; exact hown
  | some ad =>
    refine wpList_append_own w hgd s x t ho B e i0 (.int k 0) 1 bytes ht hi hz0 hz1 hz2 rfl (by decide) v _ _ hs hown ad ys.length c (ys.map (Value.int k)) hx (by simp) ?_ (ints_one ys) hlen.2 hlen.1 hB (fun v' w' g1 g2 _ => h v' w' (by unfold Own; simpa using g1) g2)
    intro j u hj
    rcases h4 with rfl | ⟨b, off, hb, h5⟩
    · simp at hj
    · simp only [Option.some.injEq] at hb
      subst hb
      have hjl : j < ys.length := by
        rcases Nat.lt_or_ge j ys.length with g | g
        · exact g
        · simp [List.getElem?_eq_none (show (ys.map (Value.int k)).length ≤ j by simpa using g)] at hj
      rw [Go.WideShapes.add_plain, h5 j hjl]
      simp [List.getElem?_eq_getElem hjl] at hj
      subst hj
      simp [List.getD, List.getElem?_eq_getElem hjl]

/-- A block has one type. -/
theorem Own.other {k k' : IntKind} {e e' : TypeId} {B B' : Nat} {w w' : World} {v x : Value} {zs ys : List Int} (hv : Own k e B w v zs) (hx : Own k' e' B' w x ys) (he : e ≠ e') (hg : w.grownBy w' v.ownBlock) : Own k' e' B' w' x ys := by
  refine World.ownsRow.kept (row := v.ownBlock) hx hg ?_
  rcases hx.2 with ⟨h, _⟩ | ⟨g, cap, cur, h, _, hb, _⟩
  · rw [h]; exact .inl rfl
  · refine .inr fun e1 => ?_
    rcases hv.2 with ⟨h', _⟩ | ⟨g', cap', cur', h', _, hb', _⟩
    · rw [h, h'] at e1; simp [Value.ownBlock] at e1
    · rw [h, h'] at e1
      simp only [Value.ownBlock, Option.some.injEq] at e1
      subst e1
      rw [hb] at hb'
      cases hb'
      exact he rfl

theorem Own.grown {k : IntKind} {e : TypeId} {B : Nat} {w w' : World} {v : Value} {zs : List Int} (h : Own k e B w v zs) (hB : B ≤ w.heap.size) (hg : w.grownBy w' v.ownBlock) : Below B w w' :=
  (Below.refl _ _).grown hg hB (fun k hk => (World.ownsRow.lt h k hk).1)
/-- 'T{}' of a slice type, made. -/
theorem emptyOwn (k : IntKind) (e : TypeId) (w : World) : Own k e w.heap.size (w.alloc (.cells #[] e)) (.slice (some ⟨w.heap.size, 0, none⟩) 0 0) [] := ⟨rfl, .inr ⟨w.heap.size, 0, _, rfl, Nat.le_refl _, heap_alloc_top _ _, Nat.le_refl _, by decide, rfl, rfl⟩⟩
end Go.Proofs.Yticblbegjfcbdaa

/- Contract of the document's own Cycles: whorlref22.Cycles. -/
namespace Go.Proofs.Yticblbegjfcbdaa
set_option linter.unusedVariables false
set_option linter.unusedSimpArgs false
open Go.RowKit

def stepN (A : List Nat) (x : Nat) : Nat := A.getD x 0
/-- The cycles of a row, or none. -/
def CycIs (l : List Int) (cs : List (List Nat)) : Prop := if ordB l = true then CycOf (stepN (toN l)) l.length cs else cs = []
theorem CycIs.eq {l : List Int} {cs ds : List (List Nat)} (h : CycIs l cs) (k : CycIs l ds) : cs = ds := by
  unfold CycIs at h k
  by_cases e : ordB l = true
  · rw [if_pos e] at h k; exact CycOf.eq h k
  · rw [if_neg e] at h k; rw [h, k]
theorem CycIs.no {l : List Int} (h : ordB l = false) : CycIs l [] := by unfold CycIs; rw [h]; rfl
theorem CycIs.yes {l : List Int} {cs : List (List Nat)} (h : ordB l = true) (k : CycOf (stepN (toN l)) l.length cs) : CycIs l cs := by unfold CycIs; rw [if_pos h]; exact k
def rowLen : Value → Nat
  | .slice _ n _ => n
  | _ => 0
theorem rowLen_eq (a : Option Addr) (n c : Nat) : rowLen (.slice a n c) = n := rfl
theorem Own.rowLen {k : IntKind} {e : TypeId} {B : Nat} {w : World} {v : Value} {zs : List Int} (h : Own k e B w v zs) : rowLen v = zs.length := by
  obtain ⟨a, c, rfl, _⟩ := h.sl
  rfl
theorem flatC_len : ∀ {cs : List (List Nat)}, (∀ c ∈ cs, 0 < c.length) → cs.length ≤ cs.flatten.length
  | [], _ => Nat.zero_le _
  | c :: cs, h => by
    have h1 := h c (List.mem_cons_self)
    have h2 := flatC_len (cs := cs) fun d hd => h d (List.mem_cons_of_mem _ hd)
    rw [List.flatten_cons, List.length_append, List.length_cons]
    omega
/-- What a row of another type keeps. -/
theorem OwnB.other {e' : TypeId} {B B' m sz : Nat} {w w' : World} {g n cap : Nat} {x : Value} {bs : List Bool} {ys : List Value} (hv : OwnB B w (.slice (some ⟨g, 0, none⟩) n cap) bs) (hx : w.ownsRow B' e' sz x m ys) (he : 4 ≠ e') (hg : But g w w') : w'.ownsRow B' e' sz x m ys := by
  have hl : n = bs.length := by
    rcases hv.2 with ⟨h, _⟩ | ⟨_, _, _, h, _⟩
    · cases h
    · cases h; rfl
  exact ownsI_other (v := .slice (some ⟨g, 0, none⟩) n cap) hv hx he hg
theorem but_grown {g : Nat} {w w1 w2 : World} {v : Value} (h : But g w w1) (hg : w1.grownBy w2 v.ownBlock) (hv : ∀ k, v.ownBlock = some k → w.heap.size ≤ k) : But g w w2 :=
  ⟨hg.os.trans h.os, hg.tape.trans h.tape, hg.output.trans h.output, Nat.le_trans h.size hg.size, fun i hi hne => (hg.block i (Nat.lt_of_lt_of_le hi h.size) (fun e => by
    have := hv i e.symm
    omega)).trans (h.block i hi hne)⟩
theorem Own.above {k : IntKind} {e : TypeId} {B : Nat} {w : World} {v : Value} {zs : List Int} (h : Own k e B w v zs) : ∀ j, v.ownBlock = some j → B ≤ j := fun j hj => (World.ownsRow.lt h j hj).1

set_option maxHeartbeats 4000000 in
theorem rlfCycles_any (v : Value) (l : List Int) (w : World) (hv : Sl .i64 w v l) (hlen : l.length ≤ 100000) :
    Calls Try.prog 9 #[v] w fun e w' => ∃ cs s us, e = .returned (.tuple #[s, .bool (ordB l)]) ∧ CycIs l cs ∧ OwnVI w.heap.size w' s us ∧ RowsI w.heap.size w' us (cs.map natL) ∧ Ext w w' := by
  have HU := hide' hv
  obtain ⟨ua, uc, rfl, _⟩ := hv
  have C := hide' (ris_any _ l w HU.out (by omega))
  cases h2 : ordB l
  · have HN := hide' (CycIs.no h2)
    rw [h2] at C
    clear h2 HU
    go_enter Try.func9, Try.ntmps9
    go_wp2_with fail
    refine C.out.mono ?_
    rintro e w1 ⟨rfl, he1⟩
    have X1 := hide' he1
    clear he1
    go_wp2
    go_ret2
    exact ⟨[], _, [], rfl, HN.out, OwnVI.nil _ _, RowsI.nil _ _, X1.out⟩
  · rw [h2] at C
    have HYES : Hid (∀ cs, CycOf (stepN (toN l)) l.length cs → CycIs l cs) := fun cs h => CycIs.yes h2 h
    obtain ⟨hA, hP⟩ := ordB_cast h2
    obtain ⟨A, HA⟩ : ∃ A, Hid (toN l = A) := ⟨_, rfl⟩
    rw [HA.out] at hA hP HYES
    obtain ⟨n, HN⟩ : ∃ n, Hid (l.length = n) := ⟨_, rfl⟩
    have hAL : A.length = n := by rw [← HN.out, ← hA, natL_len]
    have hPP : A.Perm (List.range A.length) := by rw [hAL, ← HN.out]; exact hP
    have HLT : Hid (∀ x, x < n → stepN A x < n) := fun x hx => by
      have := perm_lt hPP (p := x) (by rw [hAL]; exact hx)
      rwa [hAL] at this
    have HINJ : Hid (∀ x y, x < n → y < n → stepN A x = stepN A y → x = y) := fun x y hx hy e => nodup_getN (hPP.nodup_iff.2 List.nodup_range) (by rw [hAL]; exact hx) (by rw [hAL]; exact hy) e
    have HU2 : Hid (Sl .i64 w (.slice ua n uc) (natL A)) := by have := HU.out; rw [← hA, natL_len, hAL] at this; exact this
    obtain ⟨_, _, _, hcp⟩ := HU2.out.nat
    have HPC : Hid (0 < n → ∃ pg poff, ua = some ⟨pg, poff, none⟩ ∧ ∀ j, j < n → w.cell? ⟨pg, poff + j, none⟩ = some (.int .i64 (stepN A j : Nat))) := fun h0 => hcp h0
    rw [HN.out] at C hlen HYES ⊢
    clear hA hP hAL h2 HU HA hPP HN hcp HU2
    go_enter Try.func9, Try.ntmps9
    go_wp2_with fail
    refine C.out.mono ?_
    rintro e w1 ⟨rfl, he1⟩
    have X1 := hide' he1
    have hz1 := he1.size
    clear he1 C
    obtain ⟨w2, hmk, ho, he⟩ := make_bools w1 n (by omega)
    rw [← seenF_nil] at ho
    have HO := hide' (ho.low hz1)
    have HE := hide' (X1.out.trans he)
    clear ho he
    go_wp2
    clear hmk
    obtain ⟨g, HG⟩ : ∃ g, Hid (w1.heap.size = g) := ⟨_, rfl⟩
    rw [HG.out] at HO ⊢
    have Hg : Hid (w.heap.size ≤ g) := by show _ ≤ _; rw [← HG.out]; exact hz1
    clear HG hz1
    go_loopw [5, 6, 7, 8] (fun vo vi _ _ wr => ∃ (i : Nat) (cs : List (List Nat)) (us : List Value), i ≤ n ∧ vi = .int .i64 i ∧ Hid (CycTo (stepN A) n i cs) ∧ Hid (OwnB w.heap.size wr (.slice (some ⟨g, 0, none⟩) n n) (seenF n cs.flatten)) ∧
      Hid (OwnVI w.heap.size wr vo us) ∧ Hid (RowsI w.heap.size wr us (cs.map natL)) ∧ Hid (Ext w wr)) (fun _ vi _ _ _ => n - (intOf vi).toNat)
    case atStart => exact ⟨0, [], [], Nat.zero_le _, rfl, CycTo.start _ _, HO, OwnVI.nil _ _, RowsI.nil _ _, HE⟩
    case round =>
      clear HO HE
      obtain ⟨i, cs, us, hi, rfl, HT, HO, HV, HR, HE⟩ := hrel
      by_cases hlt : i < n
      · have hlt' : (i : Int) < n := by omega
        have hsz := HE.out.size
        obtain ⟨pg, poff, rfl, hpc⟩ := HPC.out (by omega)
        have HP2 := hide' hpc
        clear hpc
        go_wp2
        go_loopw [7, 8] (fun vc vk wq => ∃ (c : List Nat) (k : Nat), k < n ∧ vk = .int .i64 k ∧ Hid (CycIn (stepN A) n i cs c k) ∧ Hid (OwnB w.heap.size wq (.slice (some ⟨g, 0, none⟩) n n) (seenF n (cs.flatten ++ c))) ∧
          Hid (Own .i64 3 wr.heap.size wq vc (natL c)) ∧ Hid (But g wr wq)) (fun vc _ _ => n - rowLen vc)
        case atStart => exact ⟨[], i, hlt, rfl, CycIn.start hlt, (by rw [List.append_nil]; exact HO), Own.nil _ _ _ _, But.refl _ _⟩
        case round =>
          obtain ⟨c, k, hk, rfl, HC, HB, HW, HBT⟩ := hrel
          have hk' : (k : Int) < n := by omega
          have hcb := HB.out.cell (seenF_len _ _) k hk
          rw [seenF_test cs c hk] at hcb
          have HEQ := hide' (Ext.but HE.out Hg.out HBT.out)
          have hszq := HBT.out.size
          by_cases hin : k ∈ c ∨ k ∈ cs.flatten
          · rw [decide_eq_true hin] at hcb
            have HCL : Hid (i ∉ cs.flatten → CycTo (stepN A) n (i + 1) (cs ++ [c])) := fun h => HC.out.close HINJ.out HT.out h hin
            have hrl := HW.out.rowLen
            rw [natL_len] at hrl
            have HRL := hide' hrl
            obtain ⟨ca, cc, hcs, _⟩ := id HW.out.sl
            rw [natL_len] at hcs
            by_cases h0 : c.length = 0
            · have hc0 : c = [] := List.length_eq_zero_iff.1 h0
              subst hc0
              have HIN : Hid (i ∈ cs.flatten) := by
                have h3 := HC.out.first rfl
                rcases hin with h | h
                · cases h
                · rw [h3] at h; exact h
              have HT2 := hide' (HT.out.skip HIN.out)
              have HO2 : Hid (OwnB w.heap.size wr (.slice (some ⟨g, 0, none⟩) n n) (seenF n cs.flatten)) := by have := HB.out; rw [List.append_nil] at this; exact this
              have HV2 : Hid (OwnVI w.heap.size wr u5 us) := OwnB.other HO.out HV.out (by decide) HBT.out
              have HR2 : Hid (RowsI w.heap.size wr us (cs.map natL)) := ⟨HR.out.1, fun j u hu => OwnB.other HO.out (HR.out.2 j u hu) (by decide) HBT.out⟩
              subst hcs
              clear hin h0 HCL
              go_wp2
              go_roundw
              case rel => exact ⟨i + 1, cs, us, by omega, by go_num, HT2, HO2, HV2, HR2, HEQ⟩
              case measure => simp [intOf]; omega
            · have hne : i ∉ cs.flatten := fun h => by
                have h3 := HC.out.head (by omega)
                have h4 := HC.out.apart (c.getD 0 0) (getN_mem (by omega))
                rw [h3] at h4
                exact h4 h
              have HT2 := hide' (HCL.out hne)
              have HO2 : Hid (OwnB w.heap.size wr (.slice (some ⟨g, 0, none⟩) n n) (seenF n (cs ++ [c]).flatten)) := by show OwnB _ _ _ _; rw [← seenF_close]; exact HB.out
              have HV2 : Hid (OwnVI w.heap.size wr u5 us) := OwnB.other HO.out HV.out (by decide) HBT.out
              have HR2 : Hid (RowsI w.heap.size wr (us ++ [u7]) ((cs ++ [c]).map natL)) := by
                show RowsI _ _ _ _
                rw [List.map_append]
                exact RowsI.app ⟨HR.out.1, fun j u hu => OwnB.other HO.out (HR.out.2 j u hu) (by decide) HBT.out⟩ (RowsI.single (HW.out.low hsz))
              have LU : Hid (us.length + 1 ≤ 1000000) := by
                have h1 := HR.out.1
                rw [List.length_map] at h1
                have h3 := flatC_len HT.out.ne
                have h4 := nodup_permN_le HT.out.nodup HT.out.lt
                show _ ≤ _
                omega
              subst hcs
              have d0 : decide ((0 : Int) < (c.length : Int)) = true := by simp; omega
              have d0' : decide (0 < c.length) = true := by simp; omega
              obtain ⟨m, HM⟩ : ∃ m, Hid (c.length = m) := ⟨_, rfl⟩
              rw [HM.out] at d0 d0' HR2 ⊢
              have V2 := hide' (HV2.out.ext (ext_alloc wr (.cells #[.slice ca m cc] 23)))
              have R2 := hide' (HR2.out.ext (ext_alloc wr (.cells #[.slice ca m cc] 23)))
              have O2 := hide' (HO2.out.ext (ext_alloc wr (.cells #[.slice ca m cc] 23)))
              have E2 := hide' (HEQ.out.trans (ext_alloc wr (.cells #[.slice ca m cc] 23)))
              clear hin h0 HCL hne HV2 HR2 HO2
              go_wp2_with (at_builtin; refine wpList_snocVI _ rfl _ _ rfl w.heap.size _ us (.slice ca m cc) wr.heap.size rfl rfl ?c1 rfl V2.out LU.out E2.out.size ?_)
              case c1 => simp only [World.cell?, heap_alloc_top]; simp
              intro v1 w3 ho1 hg1
              have V3 := hide' ho1
              have R3 : Hid (RowsI w.heap.size w3 (us ++ [.slice ca m cc]) ((cs ++ [c]).map natL)) := RowsI.other R2.out V2.out hg1
              have O3 : Hid (OwnB w.heap.size w3 (.slice (some ⟨g, 0, none⟩) n n) (seenF n (cs ++ [c]).flatten)) := ownsI_other V2.out O2.out (by decide) hg1
              have E3 : Hid (Ext w w3) := Below.trans E2.out (ownsI_grown V2.out E2.out.size hg1)
              clear ho1 hg1 V2 R2 O2 E2
              go_wp2
              go_roundw
              case rel => exact ⟨i + 1, cs ++ [c], us ++ [.slice ca m cc], by omega, by go_num, HT2, O3, V3, R3, E3⟩
              case measure => simp [intOf]; omega
          · rw [decide_eq_false hin] at hcb
            have HC2 := hide' (HC.out.step HLT.out (fun h => hin (.inl h)) (fun h => hin (.inr h)))
            have hpk := HLT.out k hk
            have hln := nodup_permN_le HC2.out.nodup HC2.out.lt
            rw [List.length_append, List.length_singleton] at hln
            have hfz := HB.out.frozen (seenF_len _ _) k
            have HB1 := HB.out.store (seenF_len _ _) k true
            rw [seenF_set _ hk, List.append_assoc] at HB1
            have HB2 := hide' (HB1.ext (ext_alloc (wr.setCell ⟨g, k, none⟩ (.bool true)) (.cells #[.int .i64 (k : Int)] 3)))
            have HW1 : Own .i64 3 _ (wr.setCell ⟨g, k, none⟩ (.bool true)) u7 (natL c) := OwnB.other HB.out HW.out (by decide) (but_set _ _ _ _)
            have HW2 := hide' (HW1.ext (ext_alloc (wr.setCell ⟨g, k, none⟩ (.bool true)) (.cells #[.int .i64 (k : Int)] 3)))
            have HBT2 := hide' ((HBT.out.trans (but_set wr g k (.bool true))).trans (But.ofExt (ext_alloc (wr.setCell ⟨g, k, none⟩ (.bool true)) (.cells #[.int .i64 (k : Int)] 3))))
            have hcl : (natL c).length ≤ 100000 := by rw [natL_len]; omega
            have HCL := hide' hcl
            have hrl := HW.out.rowLen
            rw [natL_len] at hrl
            have HRL := hide' hrl
            obtain ⟨p, HPK⟩ : ∃ p, Hid (stepN A k = p) := ⟨_, rfl⟩
            rw [HPK.out] at HC2 hpk
            have hpk' : (p : Int) < n := by omega
            have HLN := hide' hln
            clear hin HB HW HB1 HW1 hcl hrl hln HO HV HR HT
            go_wp2_with (at_builtin; refine wpList_snocG _ rfl _ _ 23 rfl 3 .i64 8 Try.underlying23 infoI64 _ _ (natL c) (k : Int) ⟨wr.heap.size, 0, none⟩ rfl rfl ?c4 HW2.out ?c3 ?c5 ?_)
            case c3 => have := HCL.out; unfold maxLen; omega
            case c5 => exact HBT2.out.size
            case c4 =>
              rw [show wr.heap.size = (wr.setCell ⟨g, k, none⟩ (.bool true)).heap.size by simp [World.setCell]]
              simp only [World.cell?, heap_alloc_top]
              simp
            intro v1 w4 ho1 hg1
            rw [natL_snoc] at ho1
            have HW3 := hide' ho1
            have HB3 : Hid (OwnB w.heap.size w4 (.slice (some ⟨g, 0, none⟩) n n) (seenF n (cs.flatten ++ (c ++ [k])))) := ownsI_other HW2.out HB2.out (by decide) hg1
            have HBT3 := hide' (but_grown HBT2.out hg1 HW2.out.above)
            have HR1 : Hid (rowLen v1 = c.length + 1) := by show _ = _; rw [ho1.rowLen, natL_len, List.length_append, List.length_singleton]
            have hpc := (Ext.but HE.out Hg.out HBT3.out).cellOf (HP2.out k hk)
            rw [HPK.out] at hpc
            clear ho1 hg1 HW2 HB2 HBT2
            go_wp2
            go_roundw
            case rel => exact ⟨c ++ [k], p, by omega, by first | rfl | go_num, HC2, HB3, HW3, HBT3⟩
            case measure => have h1 := HR1.out; have h2 := HRL.out; have h3 := HLN.out; omega
      · have hlt' : decide ((i : Int) < n) = false := by simp; omega
        have hin : n = i := by omega
        have HD := hide' (HYES.out _ (show CycOf (stepN A) n cs by have := HT.out; rw [← hin] at this; exact this.done))
        go_wp2
        go_ret2
        exact ⟨cs, _, us, rfl, HD.out, HV.out, HR.out, HE.out⟩

theorem CycIs.len {l : List Int} {cs : List (List Nat)} (h : CycIs l cs) (k : Nat) : ((cs.map natL).getD k []).length ≤ l.length := by
  rw [List.getD_eq_getElem?_getD]
  rcases Nat.lt_or_ge k (cs.map natL).length with g | g
  · rw [List.getElem?_eq_getElem g, Option.getD_some, List.getElem_map, natL_len]
    unfold CycIs at h
    split at h
    · have hm : cs[k]'(by simpa using g) ∈ cs := List.getElem_mem _
      exact nodup_permN_le (h.nodupC hm) fun x hx => h.ltC hm hx
    · subst h; simp at g
  · rw [List.getElem?_eq_none g]; exact Nat.zero_le _
theorem CycIs.num {l : List Int} {cs : List (List Nat)} (h : CycIs l cs) : (cs.map natL).length ≤ l.length := by
  rw [List.length_map]
  unfold CycIs at h
  split at h
  · have h1 := flatC_len h.ne
    have h2 := h.all.length_eq
    rw [List.length_range] at h2
    omega
  · subst h; exact Nat.zero_le _
theorem take_flat_le (cs : List (List Nat)) (i : Nat) : (cs.take i).flatten.length ≤ cs.flatten.length := by
  have h := congrArg List.length (congrArg List.flatten (List.take_append_drop i cs))
  rw [List.flatten_append, List.length_append] at h
  omega
theorem take_flat_succ (cs : List (List Nat)) {i : Nat} (hi : i < cs.length) : (cs.take (i + 1)).flatten.length = (cs.take i).flatten.length + (cs.getD i []).length := by
  rw [List.take_add_one, List.getElem?_eq_getElem hi, List.flatten_append, List.length_append, List.getD_eq_getElem?_getD, List.getElem?_eq_getElem hi]
  simp
theorem CycIs.flat {l : List Int} {cs : List (List Nat)} (h : CycIs l cs) : cs.flatten.length ≤ l.length := by
  unfold CycIs at h
  split at h
  · have := h.all.length_eq
    rw [List.length_range] at this
    omega
  · subst h; exact Nat.zero_le _
theorem CycIs.flat_ok {l : List Int} {cs : List (List Nat)} (h : CycIs l cs) (ho : ordB l = true) : cs.flatten.length = l.length := by
  unfold CycIs at h
  rw [if_pos ho] at h
  have := h.all.length_eq
  rwa [List.length_range] at this
theorem getD_mapL (cs : List (List Nat)) (k : Nat) : ((cs.map natL).getD k []).length = (cs.getD k []).length := by
  simp only [List.getD_eq_getElem?_getD, List.getElem?_map]
  cases cs[k]? with
  | none => rfl
  | some c => simp [natL_len]
theorem getD_memL {cs : List (List Nat)} {i : Nat} (h : i < cs.length) : cs.getD i [] ∈ cs := by
  rw [List.getD_eq_getElem?_getD, List.getElem?_eq_getElem h]
  exact List.getElem_mem h
theorem getD_mapE (cs : List (List Nat)) (k : Nat) : (cs.map natL).getD k [] = natL (cs.getD k []) := by
  simp only [List.getD_eq_getElem?_getD, List.getElem?_map]
  cases cs[k]? with
  | none => rfl
  | some c => rfl
theorem lf_ok (l : List Int) : ordB (natL (lfN l)) = true := ordB_nat (lfN_perm l)
theorem CycOf.congr {p q : Nat → Nat} {n : Nat} {cs : List (List Nat)} (h : CycOf p n cs) (e : ∀ x, x < n → p x = q x) : CycOf q n cs :=
  { ne := h.ne
    nxt := fun c hc t ht => by rw [← e _ (h.ltC hc (getN_mem ht))]; exact h.nxt c hc t ht
    least := h.least
    up := h.up
    all := h.all }
/-- The cycles of the order that like bytes stand in. -/
theorem lf_cyc {l : List Int} {cs : List (List Nat)} (h : CycIs (natL (lfN l)) cs) : CycOf (rkN l) l.length cs := by
  unfold CycIs at h
  rw [if_pos (lf_ok l), natL_len, lfN_len, toN_nat] at h
  exact h.congr fun x hx => lfN_at hx
end Go.Proofs.Yticblbegjfcbdaa

/- Contract of lf.cycleFrom. -/
namespace Go.Proofs.Yticblbegjfcbdaa
set_option linter.unusedVariables false
set_option linter.unusedSimpArgs false
open Go.RowKit

set_option maxHeartbeats 4000000 in
theorem cycleFrom_any (v : Value) (A : List Nat) (cs : List (List Nat)) (n i g B : Nat) (w0 w : World) (hv : Sl .i64 w0 v (natL A)) (he0 : Ext w0 w) (hg0 : w0.heap.size ≤ g) (hA : A.length = n) (hlen : n ≤ 100000)
    (hlt : ∀ x, x < n → stepN A x < n) (hinj : ∀ x y, x < n → y < n → stepN A x = stepN A y → x = y) (hi : i < n) (hni : i ∉ cs.flatten) (hT : CycTo (stepN A) n i cs)
    (hO : OwnB B w (.slice (some ⟨g, 0, none⟩) n n) (seenF n cs.flatten)) :
    Calls Try.prog 17 #[v, .int .i64 (i : Int), .slice (some ⟨g, 0, none⟩) n n] w fun e w' => ∃ c s, e = .returned s ∧ CycTo (stepN A) n (i + 1) (cs ++ [c]) ∧
      OwnB B w' (.slice (some ⟨g, 0, none⟩) n n) (seenF n (cs ++ [c]).flatten) ∧ Own .i64 3 w.heap.size w' s (natL c) ∧ But g w w' := by
  have HLT := hide' hlt
  have HINJ := hide' hinj
  have HNI := hide' hni
  have HT := hide' hT
  have HO := hide' hO
  have HE := hide' he0
  have Hg := hide' hg0
  have HU2 := hide' hv
  obtain ⟨ua, uc, rfl, _⟩ := hv
  obtain ⟨_, _, _, hcp⟩ := HU2.out.nat
  rw [natL_len, hA] at hcp ⊢
  obtain ⟨pg, poff, rfl, hpc⟩ := hcp (by omega)
  have HP2 : Hid (∀ j, j < n → w0.cell? ⟨pg, poff + j, none⟩ = some (.int .i64 (stepN A j : Nat))) := hpc
  clear hcp hpc hlt hinj hni hT hO he0 hg0 HU2
  go_enter Try.func17, Try.ntmps17
  go_wp2
  go_loopw [7, 8] (fun vc vk wq => ∃ (c : List Nat) (k : Nat), k < n ∧ vk = .int .i64 k ∧ Hid (CycIn (stepN A) n i cs c k) ∧ Hid (OwnB B wq (.slice (some ⟨g, 0, none⟩) n n) (seenF n (cs.flatten ++ c))) ∧
    Hid (Own .i64 3 w.heap.size wq vc (natL c)) ∧ Hid (But g w wq)) (fun vc _ _ => n - rowLen vc)
  case atStart => exact ⟨[], i, hi, rfl, CycIn.start hi, (by rw [List.append_nil]; exact HO), Own.nil _ _ _ _, But.refl _ _⟩
  case round =>
    obtain ⟨c, k, hk, rfl, HC, HB, HW, HBT⟩ := hrel
    have hk' : (k : Int) < n := by omega
    have hcb := HB.out.cell (seenF_len _ _) k hk
    rw [seenF_test cs c hk] at hcb
    have hszq := HBT.out.size
    by_cases hin : k ∈ c ∨ k ∈ cs.flatten
    · rw [decide_eq_true hin] at hcb
      have HCL := hide' (HC.out.close HINJ.out HT.out HNI.out hin)
      have HO2 : Hid (OwnB B wr (.slice (some ⟨g, 0, none⟩) n n) (seenF n (cs ++ [c]).flatten)) := by show OwnB _ _ _ _; rw [← seenF_close]; exact HB.out
      clear hin
      go_wp2
      go_ret
      exact ⟨c, _, rfl, HCL.out, HO2.out, HW.out, HBT.out⟩
    · rw [decide_eq_false hin] at hcb
      have HC2 := hide' (HC.out.step HLT.out (fun h => hin (.inl h)) (fun h => hin (.inr h)))
      have hpk := HLT.out k hk
      have hln := nodup_permN_le HC2.out.nodup HC2.out.lt
      rw [List.length_append, List.length_singleton] at hln
      have hfz := HB.out.frozen (seenF_len _ _) k
      have HB1 := HB.out.store (seenF_len _ _) k true
      rw [seenF_set _ hk, List.append_assoc] at HB1
      have HB2 := hide' (HB1.ext (ext_alloc (wr.setCell ⟨g, k, none⟩ (.bool true)) (.cells #[.int .i64 (k : Int)] 3)))
      have HW1 : Own .i64 3 _ (wr.setCell ⟨g, k, none⟩ (.bool true)) u7 (natL c) := OwnB.other HB.out HW.out (by decide) (but_set _ _ _ _)
      have HW2 := hide' (HW1.ext (ext_alloc (wr.setCell ⟨g, k, none⟩ (.bool true)) (.cells #[.int .i64 (k : Int)] 3)))
      have HBT2 := hide' ((HBT.out.trans (but_set wr g k (.bool true))).trans (But.ofExt (ext_alloc (wr.setCell ⟨g, k, none⟩ (.bool true)) (.cells #[.int .i64 (k : Int)] 3))))
      have hcl : (natL c).length ≤ 100000 := by rw [natL_len]; omega
      have HCL := hide' hcl
      have hrl := HW.out.rowLen
      rw [natL_len] at hrl
      have HRL := hide' hrl
      obtain ⟨p, HPK⟩ : ∃ p, Hid (stepN A k = p) := ⟨_, rfl⟩
      rw [HPK.out] at HC2 hpk
      have hpk' : (p : Int) < n := by omega
      have HLN := hide' hln
      clear hin HB HW HB1 HW1 hcl hrl hln
      go_wp2_with (at_builtin; refine wpList_snocG _ rfl _ _ 23 rfl 3 .i64 8 Try.underlying23 infoI64 _ _ (natL c) (k : Int) ⟨wr.heap.size, 0, none⟩ rfl rfl ?c4 HW2.out ?c3 ?c5 ?_)
      case c3 => have := HCL.out; unfold maxLen; omega
      case c5 => exact HBT2.out.size
      case c4 =>
        rw [show wr.heap.size = (wr.setCell ⟨g, k, none⟩ (.bool true)).heap.size by simp [World.setCell]]
        simp only [World.cell?, heap_alloc_top]
        simp
      intro v1 w4 ho1 hg1
      rw [natL_snoc] at ho1
      have HW3 := hide' ho1
      have HB3 : Hid (OwnB B w4 (.slice (some ⟨g, 0, none⟩) n n) (seenF n (cs.flatten ++ (c ++ [k])))) := ownsI_other HW2.out HB2.out (by decide) hg1
      have HBT3 := hide' (but_grown HBT2.out hg1 HW2.out.above)
      have HR1 : Hid (rowLen v1 = c.length + 1) := by show _ = _; rw [ho1.rowLen, natL_len, List.length_append, List.length_singleton]
      have hpc := (Ext.but HE.out Hg.out HBT3.out).cellOf (HP2.out k hk)
      rw [HPK.out] at hpc
      clear ho1 hg1 HW2 HB2 HBT2
      go_wp2
      go_roundw
      case rel => exact ⟨c ++ [k], p, by omega, by first | rfl | go_num, HC2, HB3, HW3, HBT3⟩
      case measure => have h1 := HR1.out; have h2 := HRL.out; have h3 := HLN.out; omega
end Go.Proofs.Yticblbegjfcbdaa

/- Contract of rank.Inverse. -/
namespace Go.Proofs.Yticblbegjfcbdaa
set_option linter.unusedVariables false
set_option linter.unusedSimpArgs false
open Go.RowKit

theorem Inv.old {l bs : List Int} {i p : Nat} (h : Inv l i bs) (hi : i < l.length) (hp : p < l.length) (hb : bs.getD p 0 ≠ -1) : 0 ≤ bs.getD p 0 := by
  by_cases hin : (p : Int) ∈ l.take i
  · obtain ⟨j, hj, e⟩ := mem_getI hin
    rw [List.length_take] at hj
    have e2 : (l.take i).getD j 0 = l.getD j 0 := by
      simp only [List.getD_eq_getElem?_getD, List.getElem?_take]
      rw [if_pos (by omega)]
    rw [e2] at e
    have := h.at' j p (by omega) (by omega) e
    omega
  · exact absurd (h.none p hp hin) hb

set_option maxHeartbeats 1000000 in
theorem rkInv_any (v : Value) (l : List Int) (w : World) (hv : Sl .i64 w v l) (hlen : l.length ≤ 1000000) :
    Calls Try.prog 21 #[v] w fun e w' => ∃ s, e = .returned (.tuple #[s, .bool (ordB l)]) ∧ Own .i64 3 w.heap.size w' s (invI l) ∧ Ext w w' := by
  have HV := hide' hv
  obtain ⟨a, c, rfl, _⟩ := hv
  obtain ⟨_, _, _, hcv⟩ := HV.out.int
  have CV := hide' hcv
  obtain ⟨n, HN⟩ : ∃ n, Hid (l.length = n) := ⟨_, rfl⟩
  rw [HN.out] at CV hlen ⊢
  clear hcv HV
  obtain ⟨w1, hmk, ho, he⟩ := make_intsB w n (by omega)
  have HO := hide' ho
  have HE := hide' he
  clear ho he
  go_enter Try.func21, Try.ntmps21
  go_wp2
  clear hmk
  go_loopw [5, 13] (fun pi vi wr => ∃ (i : Nat) (bs : List Int), i ≤ n ∧ vi = .int .i64 i ∧ Hid (bs.length = n) ∧ Hid (∀ j, j < i → bs.getD j 0 = -1) ∧
    Hid (Own .i64 3 w.heap.size wr (.slice (some ⟨w.heap.size, 0, none⟩) n n) bs) ∧ Hid (Ext w wr)) (fun _ vi _ => n - (intOf vi).toNat)
  case atStart => exact ⟨0, List.replicate n 0, Nat.zero_le _, rfl, List.length_replicate, (fun j hj => by omega), HO, HE⟩
  case round =>
    clear HO HE
    obtain ⟨i, bs, hi, rfl, HL, HB, HO, HE⟩ := hrel
    by_cases hlt : i < n
    · have hlt' : (i : Int) < n := by omega
      have hfz := HO.out.frozen HL.out i
      have hci := HO.out.cell HL.out i hlt
      have HO2 := hide' (HO.out.store HL.out i (-1))
      go_wp2
      go_roundw
      case rel =>
        refine ⟨i + 1, bs.set i (-1), by omega, by go_num, (show _ = _ by rw [List.length_set]; exact HL.out), fun j hj => ?_, HO2, Ext.but HE.out (Nat.le_refl _) (but_set _ _ _ _)⟩
        by_cases hji : j = i
        · subst hji; rw [setI_same (by rw [HL.out]; exact hlt)]
        · rw [setI_other (by omega), HB.out j (by omega)]
      case measure => simp [intOf]; omega
    · have hlt' : decide ((i : Int) < n) = false := by simp; omega
      have hin : n = i := by omega
      have HI0 : Hid (Inv l 0 bs) := Inv.start (by rw [HL.out, HN.out]) fun x hx => HB.out x (by rw [HN.out] at hx; omega)
      clear HB
      subst hin
      go_wp2
      go_loopw [6, 7, 22] (fun pt pv vi wq => ∃ (t : Nat) (cs : List Int), t ≤ n ∧ vi = .int .i64 t ∧ Hid (cs.length = n) ∧ Hid (Inv l t cs) ∧
        Hid (Own .i64 3 w.heap.size wq (.slice (some ⟨w.heap.size, 0, none⟩) n n) cs) ∧ Hid (Ext w wq)) (fun _ _ vi _ => n - (intOf vi).toNat)
      case atStart => exact ⟨0, bs, Nat.zero_le _, rfl, HL, HI0, HO, HE⟩
      case round =>
        clear HO HE HL HI0 hlt hlt' hi
        obtain ⟨t, cs, ht, rfl, HL, HI, HO, HE⟩ := hrel
        by_cases hlt : t < n
        · have hlt' : (t : Int) < n := by omega
          obtain ⟨g1, o1, rfl, k1⟩ := CV.out (by omega)
          have c1 := HE.out.cellOf (k1 t hlt)
          clear k1
          have HBAD : Hid (∀ z, l.getD t 0 = z → (z < 0 ∨ (n : Int) ≤ z ∨ 0 ≤ cs.getD z.toNat 0) → ordB l = false ∧ invI l = []) := fun z hz h => HI.out.bad (by rw [HN.out]; exact hlt) (by rw [hz, HN.out]; exact h)
          have HNX : Hid (∀ p : Nat, l.getD t 0 = (p : Int) → p < n → cs.getD p 0 < 0 → Inv l (t + 1) (cs.set p (t : Int))) := fun p h1 h2 h3 => HI.out.next (by rw [HN.out]; exact hlt) h1 (by rw [HN.out]; exact h2) h3
          have HOLD : Hid (∀ p : Nat, p < n → cs.getD p 0 ≠ -1 → 0 ≤ cs.getD p 0) := fun p h1 h2 => HI.out.old (by rw [HN.out]; exact hlt) (by rw [HN.out]; exact h1) h2
          obtain ⟨z, HZ⟩ : ∃ p, Hid (l.getD t 0 = p) := ⟨_, rfl⟩
          rw [HZ.out] at c1
          by_cases h0 : z < 0
          · have HB := hide' (HBAD.out z HZ.out (.inl h0))
            go_wp2
            go_ret2
            rw [HB.out.1, HB.out.2]
            exact ⟨_, rfl, Own.nil _ _ _ _, HE.out⟩
          · have e0 : decide (z < 0) = false := by simp; omega
            by_cases h1 : (n : Int) ≤ z
            · have HB := hide' (HBAD.out z HZ.out (.inr (.inl h1)))
              go_wp2
              go_ret2
              rw [HB.out.1, HB.out.2]
              exact ⟨_, rfl, Own.nil _ _ _ _, HE.out⟩
            · have e1 : decide ((n : Int) ≤ z) = false := by simp; omega
              obtain ⟨p, rfl⟩ := Int.eq_ofNat_of_zero_le (show 0 ≤ z by omega)
              have hp : p < n := by omega
              have hp' : (p : Int) < n := by omega
              have e2 : decide (n ≤ p) = false := by simp; omega
              have hci := HO.out.cell HL.out p hp
              clear h0 h1
              have HY2 := hide' (HOLD.out p hp)
              obtain ⟨y, HY⟩ : ∃ x, Hid (cs.getD p 0 = x) := ⟨_, rfl⟩
              rw [HY.out] at hci HY2
              by_cases hy : y = -1
              · subst hy
                have HM2 := hide' (HNX.out p HZ.out hp (by rw [HY.out]; omega))
                have hfz := HO.out.frozen HL.out p
                have HO2 := hide' (HO.out.store HL.out p (t : Int))
                go_wp2
                go_roundw
                case rel => exact ⟨t + 1, cs.set p (t : Int), by omega, by go_num, (show _ = _ by rw [List.length_set]; exact HL.out), HM2, HO2, Ext.but HE.out (Nat.le_refl _) (but_set _ _ _ _)⟩
                case measure => simp [intOf] <;> omega
              · have HB := hide' (HBAD.out p HZ.out (.inr (.inr (by rw [Int.toNat_natCast, HY.out]; exact HY2.out hy))))
                have e3 : (y == -1) = false := by simpa using hy
                go_wp2
                go_ret2
                rw [HB.out.1, HB.out.2]
                exact ⟨_, rfl, Own.nil _ _ _ _, HE.out⟩
        · have hlt' : decide ((t : Int) < n) = false := by simp; omega
          have htl : n = t := by omega
          have HB := hide' ((show Inv l l.length cs by rw [HN.out, htl]; exact HI.out).done)
          go_wp2
          go_ret2
          rw [HB.out.1, HB.out.2]
          exact ⟨_, rfl, HO.out, HE.out⟩
end Go.Proofs.Yticblbegjfcbdaa

/- Contract of rank.Is. -/
namespace Go.Proofs.Yticblbegjfcbdaa
set_option linter.unusedVariables false
set_option linter.unusedSimpArgs false
open Go.RowKit

theorem rkIs_any (v : Value) (l : List Int) (w : World) (hv : Sl .i64 w v l) (hlen : l.length ≤ 1000000) :
    Calls Try.prog 16 #[v] w fun e w' => e = .returned (.bool (ordB l)) ∧ Ext w w' := by
  have C := hide' (rkInv_any v l w hv hlen)
  clear hv hlen
  go_enter Try.func16, Try.ntmps16
  go_wp2_with fail
  refine C.out.mono ?_
  rintro e w1 ⟨s, rfl, _, he⟩
  have X1 := hide' he
  clear he C
  go_wp2
  go_ret
  exact ⟨rfl, X1.out⟩
end Go.Proofs.Yticblbegjfcbdaa

/- Contract of lf.Cycles. -/
namespace Go.Proofs.Yticblbegjfcbdaa
set_option linter.unusedVariables false
set_option linter.unusedSimpArgs false
open Go.RowKit

set_option maxHeartbeats 4000000 in
theorem lfCycles_any (v : Value) (l : List Int) (w : World) (hv : Sl .i64 w v l) (hlen : l.length ≤ 100000) :
    Calls Try.prog 8 #[v] w fun e w' => ∃ cs s us, e = .returned (.tuple #[s, .bool (ordB l)]) ∧ CycIs l cs ∧ OwnVI w.heap.size w' s us ∧ RowsI w.heap.size w' us (cs.map natL) ∧ Ext w w' := by
  have HU := hide' hv
  obtain ⟨ua, uc, rfl, _⟩ := hv
  have C := hide' (rkIs_any _ l w HU.out (by omega))
  cases h2 : ordB l
  · have HN := hide' (CycIs.no h2)
    rw [h2] at C
    clear h2 HU
    go_enter Try.func8, Try.ntmps8
    go_wp2_with fail
    refine C.out.mono ?_
    rintro e w1 ⟨rfl, he1⟩
    have X1 := hide' he1
    clear he1
    go_wp2
    go_ret2
    exact ⟨[], _, [], rfl, HN.out, OwnVI.nil _ _, RowsI.nil _ _, X1.out⟩
  · rw [h2] at C
    have HYES : Hid (∀ cs, CycOf (stepN (toN l)) l.length cs → CycIs l cs) := fun cs h => CycIs.yes h2 h
    obtain ⟨hA, hP⟩ := ordB_cast h2
    obtain ⟨A, HA⟩ : ∃ A, Hid (toN l = A) := ⟨_, rfl⟩
    rw [HA.out] at hA hP HYES
    obtain ⟨n, HN⟩ : ∃ n, Hid (l.length = n) := ⟨_, rfl⟩
    have hAL : A.length = n := by rw [← HN.out, ← hA, natL_len]
    have hPP : A.Perm (List.range A.length) := by rw [hAL, ← HN.out]; exact hP
    have HLT : Hid (∀ x, x < n → stepN A x < n) := fun x hx => by
      have := perm_lt hPP (p := x) (by rw [hAL]; exact hx)
      rwa [hAL] at this
    have HINJ : Hid (∀ x y, x < n → y < n → stepN A x = stepN A y → x = y) := fun x y hx hy e => nodup_getN (hPP.nodup_iff.2 List.nodup_range) (by rw [hAL]; exact hx) (by rw [hAL]; exact hy) e
    have HU2 : Hid (Sl .i64 w (.slice ua n uc) (natL A)) := by have := HU.out; rw [← hA, natL_len, hAL] at this; exact this
    have HAL := hide' hAL
    rw [HN.out] at C hlen HYES ⊢
    clear hA hP hAL h2 HU HA hPP HN
    go_enter Try.func8, Try.ntmps8
    go_wp2_with fail
    refine C.out.mono ?_
    rintro e w1 ⟨rfl, he1⟩
    have X1 := hide' he1
    have hz1 := he1.size
    clear he1 C
    obtain ⟨w2, hmk, ho, he⟩ := make_bools w1 n (by omega)
    rw [← seenF_nil] at ho
    have HO := hide' (ho.low hz1)
    have HE := hide' (X1.out.trans he)
    clear ho he
    go_wp2
    clear hmk
    obtain ⟨g, HG⟩ : ∃ g, Hid (w1.heap.size = g) := ⟨_, rfl⟩
    rw [HG.out] at HO ⊢
    have Hg : Hid (w.heap.size ≤ g) := by show _ ≤ _; rw [← HG.out]; exact hz1
    clear HG hz1
    go_loopw [4, 15] (fun vo vi wr => ∃ (i : Nat) (cs : List (List Nat)) (us : List Value), i ≤ n ∧ vi = .int .i64 i ∧ Hid (CycTo (stepN A) n i cs) ∧ Hid (OwnB w.heap.size wr (.slice (some ⟨g, 0, none⟩) n n) (seenF n cs.flatten)) ∧
      Hid (OwnVI w.heap.size wr vo us) ∧ Hid (RowsI w.heap.size wr us (cs.map natL)) ∧ Hid (Ext w wr)) (fun _ vi _ => n - (intOf vi).toNat)
    case atStart => exact ⟨0, [], [], Nat.zero_le _, rfl, CycTo.start _ _, HO, OwnVI.nil _ _, RowsI.nil _ _, HE⟩
    case round =>
      clear HO HE
      obtain ⟨i, cs, us, hi, rfl, HT, HO, HV, HR, HE⟩ := hrel
      by_cases hlt : i < n
      · have hlt' : (i : Int) < n := by omega
        have hsz := HE.out.size
        have hcb := HO.out.cell (seenF_len _ _) i hlt
        rw [seenF_at _ hlt] at hcb
        by_cases hin : i ∈ cs.flatten
        · rw [decide_eq_true hin] at hcb
          have HT2 := hide' (HT.out.skip hin)
          clear hin
          go_wp2
          go_roundw
          case rel => exact ⟨i + 1, cs, us, by omega, by go_num, HT2, HO, HV, HR, HE⟩
          case measure => simp [intOf]; omega
        · rw [decide_eq_false hin] at hcb
          have HNI := hide' hin
          clear hin
          go_wp2_with fail
          refine (cycleFrom_any _ A cs n i g w.heap.size w wr HU2.out HE.out Hg.out HAL.out hlen HLT.out HINJ.out hlt HNI.out HT.out HO.out).mono ?_
          rintro e w2 ⟨c, s, rfl, ht, hob, how, hbt⟩
          have HT2 := hide' ht
          have HO2 := hide' hob
          have HBT := hide' hbt
          have HW2 := hide' (how.low hsz)
          have HEQ := hide' (Ext.but HE.out Hg.out hbt)
          have HV2 : Hid (OwnVI w.heap.size w2 u4 us) := OwnB.other HO.out HV.out (by decide) HBT.out
          have HR2 : Hid (RowsI w.heap.size w2 (us ++ [s]) ((cs ++ [c]).map natL)) := by
            show RowsI _ _ _ _
            rw [List.map_append]
            exact RowsI.app ⟨HR.out.1, fun j u hu => OwnB.other HO.out (HR.out.2 j u hu) (by decide) HBT.out⟩ (RowsI.single HW2.out)
          have LU : Hid (us.length + 1 ≤ 1000000) := by
            have h1 := HR.out.1
            rw [List.length_map] at h1
            have h3 := flatC_len HT.out.ne
            have h4 := nodup_permN_le HT.out.nodup HT.out.lt
            show _ ≤ _
            omega
          obtain ⟨ca, cc, hcs, _⟩ := id HW2.out.sl
          obtain ⟨m, HM⟩ : ∃ m, Hid ((natL c).length = m) := ⟨_, rfl⟩
          rw [HM.out] at hcs
          subst hcs
          have V2 := hide' (HV2.out.ext (ext_alloc w2 (.cells #[.slice ca m cc] 23)))
          have R2 := hide' (HR2.out.ext (ext_alloc w2 (.cells #[.slice ca m cc] 23)))
          have O2 := hide' (HO2.out.ext (ext_alloc w2 (.cells #[.slice ca m cc] 23)))
          have E2 := hide' (HEQ.out.trans (ext_alloc w2 (.cells #[.slice ca m cc] 23)))
          clear ht hob how hbt HV2 HR2 HO2 HEQ HBT HW2 HV HR HO HT HE
          go_wp2_with (at_builtin; refine wpList_snocVI _ rfl _ _ rfl w.heap.size _ us (.slice ca m cc) w2.heap.size rfl rfl ?c1 rfl V2.out LU.out E2.out.size ?_)
          case c1 => simp only [World.cell?, heap_alloc_top]; simp
          intro v1 w3 ho1 hg1
          have V3 := hide' ho1
          have R3 : Hid (RowsI w.heap.size w3 (us ++ [.slice ca m cc]) ((cs ++ [c]).map natL)) := RowsI.other R2.out V2.out hg1
          have O3 : Hid (OwnB w.heap.size w3 (.slice (some ⟨g, 0, none⟩) n n) (seenF n (cs ++ [c]).flatten)) := ownsI_other V2.out O2.out (by decide) hg1
          have E3 : Hid (Ext w w3) := Below.trans E2.out (ownsI_grown V2.out E2.out.size hg1)
          clear ho1 hg1 V2 R2 O2 E2
          go_wp2
          go_roundw
          case rel => exact ⟨i + 1, cs ++ [c], us ++ [.slice ca m cc], by omega, by go_num, HT2, O3, V3, R3, E3⟩
          case measure => simp [intOf]; omega
      · have hlt' : decide ((i : Int) < n) = false := by simp; omega
        have hin : n = i := by omega
        have HD := hide' (HYES.out _ (show CycOf (stepN A) n cs by have := HT.out; rw [← hin] at this; exact this.done))
        go_wp2
        go_ret2
        exact ⟨cs, _, us, rfl, HD.out, HV.out, HR.out, HE.out⟩
end Go.Proofs.Yticblbegjfcbdaa

/- The contract of whorlref4.Ints: are two rows of numbers one? -/
namespace Go.Proofs.Yticblbegjfcbdaa
set_option linter.unusedVariables false
set_option linter.unusedSimpArgs false
open Go.RowKit

set_option maxHeartbeats 400000 in
theorem ints_any (u v : Value) (x y : List Int) (w : World) (hu : Sl .i64 w u x) (hv : Sl .i64 w v y) (hx : x.length ≤ 1000000) (hy : y.length ≤ 1000000) :
    Calls Try.prog 11 #[u, v] w fun e w' => e = .returned (.bool (decide (x = y))) ∧ ∃ m, w' = w.drewN m := by
  have HU := hide' hu
  have HV := hide' hv
  obtain ⟨a, c, rfl, _⟩ := hu
  obtain ⟨a', c', rfl, _⟩ := hv
  by_cases hl : x.length = y.length
  · obtain ⟨n, hn1⟩ : ∃ n, x.length = n := ⟨_, rfl⟩
    have hn2 : y.length = n := by omega
    rw [hn1] at HU hx ⊢
    rw [hn2] at HV hy ⊢
    have HXL := hide' hn1
    have HYL := hide' hn2
    clear hn1 hn2 hl
    go_enter Try.func11, Try.ntmps11
    go_wp2
    go_loopw [5] (fun vk wr => ∃ (k : Nat), k ≤ n ∧ vk = .int .i64 k ∧ Hid (x.take k = y.take k) ∧ ∃ m, wr = w.drewN m) (fun vk _ => n - (intOf vk).toNat)
    case atStart => exact ⟨0, Nat.zero_le _, rfl, (show _ = _ by simp), 0, rfl⟩
    case round =>
      obtain ⟨k, hk, rfl, HK, m, rfl⟩ := hrel
      by_cases l1 : k < n
      · have hne1 : x ≠ [] := fun h => by have := HXL.out; rw [h] at this; simp at this; omega
        have hne2 : y ≠ [] := fun h => by have := HYL.out; rw [h] at this; simp at this; omega
        obtain ⟨_, b1, o1, e1, c1⟩ := HU.out.at hne1
        obtain ⟨_, b2, o2, e2, c2⟩ := HV.out.at hne2
        have c1' := c1 k l1
        have c2' := c2 k l1
        obtain ⟨p, HP⟩ : ∃ p, Hid (x.getD k 0 = p) := ⟨_, rfl⟩
        obtain ⟨q, HQ⟩ : ∃ q, Hid (y.getD k 0 = q) := ⟨_, rfl⟩
        rw [HP.out] at c1'
        rw [HQ.out] at c2'
        subst e1 e2
        clear c1 c2 hne1 hne2
        have l1' : (k : Int) < n := by omega
        by_cases hpq : p = q
        · have HK' : Hid (x.take (k + 1) = y.take (k + 1)) := take_ext_succ (by rw [HXL.out]; exact l1) (by rw [HYL.out]; exact l1) HK.out (by rw [HP.out, HQ.out, hpq])
          subst hpq
          go_wp2_with fail
          go_quiet (fail)
          go_wp2
          go_roundw
          case rel => exact ⟨k + 1, by omega, by go_num, HK', _, rfl⟩
          case measure => simp [intOf]; omega
        · have hpq' : (p == q) = false := by simpa using hpq
          have HD : Hid (decide (x = y) = false) := by
            show _ = _
            refine decide_eq_false fun h => hpq ?_
            rw [← HP.out, ← HQ.out, h]
          clear hpq
          go_wp2_with fail
          go_quiet (fail)
          go_wp2
          go_ret
          rw [HD.out]
          exact ⟨rfl, _, by first | rfl | rw [World.drewN_drewN]⟩
      · have l1' : decide ((k : Int) < n) = false := by simp; omega
        have HD : Hid (decide (x = y) = true) := by
          show _ = _
          refine decide_eq_true ?_
          have := HK.out
          rwa [List.take_of_length_le (by rw [HXL.out]; omega), List.take_of_length_le (by rw [HYL.out]; omega)] at this
        go_wp2
        go_ret
        rw [HD.out]
        exact ⟨rfl, _, rfl⟩
  · have hd : ((x.length : Int) == (y.length : Int)) = false := by simp; omega
    have HD : Hid (decide (x = y) = false) := by
      show _ = _
      exact decide_eq_false fun h => hl (by rw [h])
    clear hl
    go_enter Try.func11, Try.ntmps11
    go_wp2
    go_ret
    rw [HD.out]
    exact ⟨rfl, 0, rfl⟩

theorem ints_same (u v : Value) (x : List Int) (w : World) (hu : Sl .i64 w u x) (hv : Sl .i64 w v x) (hx : x.length ≤ 1000000) :
    Calls Try.prog 11 #[u, v] w fun e w' => e = .returned (.bool true) ∧ Ext w w' := by
  have := toExt (ints_any u v x x w hu hv hx hx)
  rwa [decide_eq_true rfl] at this
end Go.Proofs.Yticblbegjfcbdaa

/- Contract of the document's own Rows: whorlref22.Rows. -/
namespace Go.Proofs.Yticblbegjfcbdaa
set_option linter.unusedVariables false
set_option linter.unusedSimpArgs false
open Go.RowKit

theorem take_ext_rowsI {x y : List (List Int)} {k : Nat} (h1 : k < x.length) (h2 : k < y.length) (h : x.take k = y.take k) (he : x.getD k [] = y.getD k []) : x.take (k + 1) = y.take (k + 1) := by
  rw [List.take_add_one, List.take_add_one, h]
  simp only [List.getD_eq_getElem?_getD, List.getElem?_eq_getElem h1, List.getElem?_eq_getElem h2, Option.getD_some] at he
  rw [List.getElem?_eq_getElem h1, List.getElem?_eq_getElem h2, he]

set_option maxHeartbeats 1000000 in
theorem rlfRows_any (u v : Value) (us vs : List Value) (x y : List (List Int)) (w : World) (hu : SlVI w u us) (hru : ReadI w us x) (hv : SlVI w v vs) (hrv : ReadI w vs y) (hx : ∀ k, (x.getD k []).length ≤ 1000000) (hy : ∀ k, (y.getD k []).length ≤ 1000000) (lx : x.length ≤ 1000000) (ly : y.length ≤ 1000000) :
    Calls Try.prog 13 #[u, v] w fun e w' => e = .returned (.bool (decide (x = y))) ∧ Ext w w' := by
  have HU := hide' hu
  have HV := hide' hv
  have RU := hide' hru
  have RV := hide' hrv
  have HX := hide' hx
  have HY := hide' hy
  obtain ⟨a, c, rfl, _⟩ := hu
  obtain ⟨a', c', rfl, _⟩ := hv
  obtain ⟨n, HN⟩ : ∃ n, Hid (x.length = n) := ⟨_, rfl⟩
  obtain ⟨m, HM⟩ : ∃ m, Hid (y.length = m) := ⟨_, rfl⟩
  obtain ⟨D, HD⟩ : ∃ D, Hid (decide (x = y) = D) := ⟨_, rfl⟩
  have e1 : us.length = n := by rw [hru.1, HN.out]
  have e2 : vs.length = m := by rw [hrv.1, HM.out]
  rw [e1] at HU ⊢
  rw [e2] at HV ⊢
  rw [HN.out] at lx
  rw [HM.out] at ly
  rw [HD.out]
  clear hx hy hru hrv e1 e2
  by_cases hnm : n = m
  · subst hnm
    have d0 : ((n : Int) != (n : Int)) = false := by simp
    go_enter Try.func13, Try.ntmps13
    go_wp2
    go_loopw [5] (fun vk wr => ∃ (k : Nat), k ≤ n ∧ vk = .int .i64 k ∧ Hid (x.take k = y.take k) ∧ Hid (Ext w wr)) (fun vk _ => n - (intOf vk).toNat)
    case atStart => exact ⟨0, Nat.zero_le _, rfl, rfl, Ext.refl _⟩
    case round =>
      obtain ⟨k, hk, rfl, HT, HE0⟩ := hrel
      by_cases hlt : k < n
      · have hlt' : (k : Int) < n := by omega
        have k1 : k < x.length := by rw [HN.out]; exact hlt
        have k2 : k < y.length := by rw [HM.out]; exact hlt
        obtain ⟨g, off, s1, rfl, hc, h8⟩ := HU.out.row RU.out k1
        obtain ⟨g', off', s2, rfl, hc', h8'⟩ := HV.out.row RV.out k2
        have hc2 := HE0.out.cellOf hc
        have hc2' := HE0.out.cellOf hc'
        clear hc hc'
        have HW := hide' (fun r => ints_any s1 s2 _ _ (wr.drewN r) (h8.ext (HE0.out.trans (Ext.drewN wr r))) (h8'.ext (HE0.out.trans (Ext.drewN wr r))) (HX.out k) (HY.out k))
        have HK := hide' (take_ext_rowsI k1 k2 HT.out)
        have HE : Hid (x.getD k [] ≠ y.getD k [] → D = false) := fun he => by
          rw [← HD.out]
          exact decide_eq_false fun e => he (by rw [e])
        clear h8 h8' k1 k2
        obtain ⟨b, HB⟩ : ∃ b, Hid (decide (x.getD k [] = y.getD k []) = b) := ⟨_, rfl⟩
        rw [HB.out] at HW
        cases b with
        | true =>
          have HT2 : Hid (x.take (k + 1) = y.take (k + 1)) := HK.out (of_decide_eq_true HB.out)
          go_wp2_with fail
          go_quiet ((go_at_call 11; exact Calls.quiet_of (HW.out _)))
          go_wp2
          go_roundw
          case rel => exact ⟨k + 1, by omega, by go_num, HT2, HE0.out.trans (Ext.drewN _ _)⟩
          case measure => simp [intOf]; omega
        | false =>
          have HD2 : Hid (D = false) := HE.out (of_decide_eq_false HB.out)
          go_wp2_with fail
          go_quiet ((go_at_call 11; exact Calls.quiet_of (HW.out _)))
          go_wp2
          go_ret
          rw [HD2.out]
          exact ⟨rfl, HE0.out.trans (Ext.drewN _ _)⟩
      · have hlt' : decide ((k : Int) < n) = false := by simp; omega
        have HD2 : Hid (D = true) := by
          show _ = _
          rw [← HD.out]
          refine decide_eq_true ?_
          have := HT.out
          rw [List.take_of_length_le (by rw [HN.out]; omega), List.take_of_length_le (by rw [HM.out]; omega)] at this
          exact this
        go_wp2
        go_ret
        rw [HD2.out]
        exact ⟨rfl, HE0.out⟩
  · have d0 : ((n : Int) != (m : Int)) = true := by simp; omega
    have HD2 : Hid (D = false) := by
      show _ = _
      rw [← HD.out]
      refine decide_eq_false fun e => hnm ?_
      rw [← HN.out, ← HM.out, e]
    rw [HD2.out]
    go_enter Try.func13, Try.ntmps13
    go_wp2
    go_ret
    exact ⟨rfl, Ext.refl _⟩
end Go.Proofs.Yticblbegjfcbdaa

/- whorllaw22's own known answer. -/
namespace Go.Proofs.Yticblbegjfcbdaa
set_option linter.unusedVariables false
set_option linter.unusedSimpArgs false
open Go.RowKit

theorem SlVI.lit {e : TypeId} (w : World) (us : List Value) (n : Nat) (hn : us.length = n) (hm : n ≤ maxLen) : SlVI (w.alloc (.cells us.toArray e)) (.slice (some ⟨w.heap.size, 0, none⟩) n n) us := by
  subst hn
  refine ⟨_, _, rfl, Nat.le_refl _, hm, (fun h => by cases h), .inr ⟨_, 0, rfl, fun i u hu => ?_⟩⟩
  simp only [World.cell?, heap_alloc_top]
  simpa using hu
theorem bab_lf : natL (lfN [98, 97, 98]) = [1, 0, 2] := by decide
theorem bab_ok : ordB [1, 0, 2] = true := by decide
theorem bab_cyc : CycOf (stepN (toN [1, 0, 2])) 3 [[0, 1], [2]] :=
  { ne := by decide
    nxt := by decide
    least := by decide
    up := by decide
    all := by decide }
theorem bab_is {cs : List (List Nat)} (h : CycIs [1, 0, 2] cs) : cs = [[0, 1], [2]] := h.eq (CycIs.yes bab_ok bab_cyc)

theorem bab_len (k : Nat) : (([[0, 1], [2]] : List (List Int)).getD k []).length ≤ 1000000 := Nat.le_trans (CycIs.len (CycIs.yes bab_ok bab_cyc) k) (by decide)

set_option maxHeartbeats 1000000 in
theorem known_any (w : World) : Calls Try.prog 14 #[] w fun e w' => e = .returned (.bool true) ∧ Ext w w' := by
  have hc3 := fun w => Go.Lib.run_convert_bytes_const (P := Try.prog) w 22 5 #[.int .u8 98, .int .u8 97, .int .u8 98] 3 3 Try.underlying22 Try.underlying5
  have B3 : Hid (∀ (w : World) (x y z : Int) (fr : Nat × Nat), Sl .u8 (w.alloc (.cells (([x, y, z] : List Int).map (Value.int .u8)).toArray 5 fr)) (.slice (some ⟨w.heap.size, 0, none⟩) 3 3) [x, y, z]) := fun w x y z fr => Sl.lit' (k := .u8) (e := 5) (fr := fr) w [x, y, z] 3 rfl (by decide)
  have HI : Hid (∀ (w : World) (x y z : Int), Sl .i64 (w.alloc (.cells (([x, y, z] : List Int).map (Value.int .i64)).toArray 3)) (.slice (some ⟨w.heap.size, 0, none⟩) 3 3) [x, y, z]) := fun w x y z => Sl.lit (k := .i64) (e := 3) w [x, y, z] 3 rfl (by decide)
  have HV : Hid (∀ (w : World), ∀ us, us = [Value.slice (some ⟨w.heap.size, 0, none⟩) 2 2, Value.slice (some ⟨w.heap.size + 1, 0, none⟩) 1 1] →
      SlVI (((w.alloc (.cells (([0, 1] : List Int).map (Value.int .i64)).toArray 3)).alloc (.cells (([2] : List Int).map (Value.int .i64)).toArray 3)).alloc (.cells us.toArray 23)) (.slice (some ⟨w.heap.size + 1 + 1, 0, none⟩) 2 2) us ∧
      ReadI (((w.alloc (.cells (([0, 1] : List Int).map (Value.int .i64)).toArray 3)).alloc (.cells (([2] : List Int).map (Value.int .i64)).toArray 3)).alloc (.cells us.toArray 23)) us [[0, 1], [2]]) := fun w us hus => by
    have e1 : ∀ o, (w.alloc o).heap.size = w.heap.size + 1 := fun o => by simp
    have h1 := Sl.lit (k := .i64) (e := 3) w [0, 1] 2 rfl (by decide)
    have h2 := Sl.lit (k := .i64) (e := 3) (w.alloc (.cells (([0, 1] : List Int).map (Value.int .i64)).toArray 3)) [2] 1 rfl (by decide)
    have h3 := SlVI.lit (e := 23) ((w.alloc (.cells (([0, 1] : List Int).map (Value.int .i64)).toArray 3)).alloc (.cells (([2] : List Int).map (Value.int .i64)).toArray 3)) us 2 (by rw [hus]; rfl) (by decide)
    rw [show ((w.alloc (.cells (([0, 1] : List Int).map (Value.int .i64)).toArray 3)).alloc (.cells (([2] : List Int).map (Value.int .i64)).toArray 3)).heap.size = w.heap.size + 1 + 1 by simp] at h3
    rw [e1] at h2
    refine ⟨h3, ?_⟩
    have r1 := ReadI.single ((h1.ext (ext_alloc _ (.cells (([2] : List Int).map (Value.int .i64)).toArray 3))).ext (ext_alloc _ (.cells us.toArray 23)))
    have r2 := ReadI.single (h2.ext (ext_alloc _ (.cells us.toArray 23)))
    have := r1.app r2
    rw [hus] at this ⊢
    exact this
  have E3 : Hid (∀ (w : World) (o o' o'' : Obj), Ext w (((w.alloc o).alloc o').alloc o'')) := fun w o o' o'' => ((ext_alloc w o).trans (ext_alloc _ o')).trans (ext_alloc _ o'')
  go_enter Try.func14, Try.ntmps14
  go_wp2_with fail
  refine (lfOf_any _ [98, 97, 98] _ (B3.out w 98 97 98 _) (by unfold Bytes8; decide) (by decide)).mono ?_
  rw [bab_lf]
  rintro e w1 ⟨s, rfl, ho, he⟩
  have O1 := hide' ho.sl
  have X1 := hide' ((ext_alloc w _).trans he)
  clear ho he
  go_wp2_with fail
  refine (lfCycles_any _ [1, 0, 2] _ O1.out (by decide)).mono ?_
  rw [bab_ok]
  rintro e w2 ⟨cs, t, us, rfl, hcs, ho, hr, he⟩
  have hc := bab_is hcs
  subst hc
  have V2 := hide' ho.sl
  have R2 := hide' hr.read
  have O2 := hide' (O1.out.ext he)
  have X2 := hide' (X1.out.trans he)
  clear hcs ho hr he O1 X1
  go_wp2_with fail
  refine (ints_same _ _ [1, 0, 2] _ (O2.out.ext (ext_alloc _ _)) (HI.out w2 1 0 2) (by decide)).mono ?_
  rintro e w4 ⟨rfl, he⟩
  have V4 := hide' (V2.out.ext ((ext_alloc _ _).trans he))
  have R4 := hide' (R2.out.ext ((ext_alloc _ _).trans he))
  have X4 := hide' (X2.out.trans ((ext_alloc _ _).trans he))
  clear he V2 R2 O2 X2
  go_wp2_with fail
  refine (rlfRows_any _ _ _ _ [[0, 1], [2]] [[0, 1], [2]] _ (V4.out.ext (E3.out _ _ _ _)) (R4.out.ext (E3.out _ _ _ _)) (HV.out w4 _ rfl).1 (HV.out w4 _ rfl).2 bab_len bab_len (by decide) (by decide)).mono ?_
  rintro e w5 ⟨rfl, he⟩
  have X5 := hide' (X4.out.trans ((E3.out _ _ _ _).trans he))
  clear he
  go_wp2
  go_ret
  exact ⟨rfl, X5.out⟩
end Go.Proofs.Yticblbegjfcbdaa

/- Contract of the document's own Of: whorlref22.Of. -/
namespace Go.Proofs.Yticblbegjfcbdaa
set_option linter.unusedVariables false
set_option linter.unusedSimpArgs false
open Go.RowKit

set_option maxHeartbeats 2000000 in
theorem rlfOf_any (v : Value) (l : List Int) (w : World) (hv : Sl .u8 w v l) (hs : l.length ≤ 100000) :
    Calls Try.prog 10 #[v] w fun e w' => ∃ r, e = .returned r ∧ Own .i64 3 w.heap.size w' r (natL (lfN l)) ∧ Ext w w' := by
  have HV := hide' hv
  obtain ⟨va, vc, rfl, _⟩ := hv
  obtain ⟨n, HN⟩ : ∃ n, Hid (l.length = n) := ⟨_, rfl⟩
  have HLF : Hid ((lfN l).length = n) := by show _ = _; rw [lfN_len, HN.out]
  have HAT : Hid (∀ i, i < n → (lfN l).getD i 0 = rkN l i) := fun i hi => lfN_at (by rw [HN.out]; exact hi)
  have VA : Hid (0 < n → ∃ g off, va = some ⟨g, off, none⟩ ∧ ∀ j, j < n → w.cell? ⟨g, off + j, none⟩ = some (.int .u8 (l.getD j 0))) := fun h0 => by
    obtain ⟨_, g, off, h1, h2⟩ := HV.out.at (fun e => by have := HN.out; rw [e] at this; simp at this; omega)
    exact ⟨g, off, h1, fun j hj => h2 j (by rw [HN.out]; exact hj)⟩
  rw [HN.out] at HV hs ⊢
  obtain ⟨F, HF⟩ : ∃ F, Hid (lfN l = F) := ⟨_, rfl⟩
  rw [HF.out] at HLF HAT ⊢
  go_enter Try.func10, Try.ntmps10
  go_wp2
  go_loopw [3, 4, 5, 6] (fun vo vi _ _ wr => ∃ (i : Nat), i ≤ n ∧ vi = .int .i64 i ∧ Hid (Own .i64 3 w.heap.size wr vo (natL (F.take i))) ∧ Hid (Ext w wr)) (fun _ vi _ _ _ => n - (intOf vi).toNat)
  case atStart => exact ⟨0, Nat.zero_le _, rfl, Own.nil _ _ _ _, Ext.refl _⟩
  case round =>
    obtain ⟨i, hi, rfl, HO, HE⟩ := hrel
    by_cases hlt : i < n
    · have hlt' : (i : Int) < n := by omega
      obtain ⟨vg, voff, rfl, vcell0⟩ := VA.out (by omega)
      have VC := hide' vcell0
      clear vcell0
      obtain ⟨y, HY⟩ : ∃ y, Hid (l.getD i 0 = y) := ⟨_, rfl⟩
      obtain ⟨vo, HVO⟩ : ∃ vo, Hid (Own .i64 3 w.heap.size wr vo (natL (F.take i))) := ⟨_, HO⟩
      go_wp2
      go_loopw [5, 6] (fun vr vj wq => ∃ (j : Nat), j ≤ n ∧ vj = .int .i64 j ∧ vr = .int .i64 (cntJ l i j : Nat) ∧ Hid (Ext wr wq)) (fun _ vj _ => n - (intOf vj).toNat)
      case atStart => exact ⟨0, Nat.zero_le _, rfl, by rw [cntJ_zero]; rfl, Ext.refl _⟩
      case round =>
        obtain ⟨j, hj, rfl, rfl, HE2⟩ := hrel
        have hHE := HE.out.trans HE2.out
        have HEW := hide' hHE
        clear hHE
        by_cases hjn : j < n
        · have hjn' : (j : Int) < n := by omega
          have cK := HEW.out.cellOf (VC.out i hlt)
          have cj := HEW.out.cellOf (VC.out j hjn)
          rw [HY.out] at cK
          have HYES := hide' (cntJ_yes (l := l) (k := i) (J := j))
          have HNO := hide' (cntJ_no (l := l) (k := i) (J := j))
          have HLT : Hid (Lt1 l j i ↔ (l.getD j 0 < y ∨ (l.getD j 0 = y ∧ j < i))) := by show _ ↔ _; rw [← HY.out]
          have hcl := cntJ_le l i j
          obtain ⟨x, HX⟩ : ∃ x, Hid (l.getD j 0 = x) := ⟨_, rfl⟩
          rw [HX.out] at cj HLT
          obtain ⟨C, HC⟩ : ∃ c, Hid (cntJ l i j = c) := ⟨_, rfl⟩
          rw [HC.out] at hcl HYES HNO ⊢
          by_cases g1 : x < y
          · have q1 : decide (x < y) = true := by simpa using g1
            have HS := hide' (HYES.out (HLT.out.2 (.inl g1)))
            clear g1 HYES HNO HLT
            go_wp2_with fail
            go_quiet (fail)
            go_wp2
            go_roundw
            case rel => exact ⟨j + 1, by omega, by go_num, by rw [HS.out]; first | done | go_num, HE2.out.trans (Ext.drewN _ _)⟩
            case measure => simp [intOf]; omega
          · have q1 : decide (x < y) = false := by simpa using g1
            by_cases g2 : x = y
            · have q2 : (x == y) = true := by simpa using g2
              by_cases g3 : j < i
              · have q3 : decide ((j : Int) < (i : Int)) = true := by simp; omega
                have q3' : decide (j < i) = true := by simp; omega
                have HS := hide' (HYES.out (HLT.out.2 (.inr ⟨g2, g3⟩)))
                clear g1 g2 g3 HYES HNO HLT
                go_wp2_with fail
                go_quiet (fail)
                go_wp2
                go_roundw
                case rel => exact ⟨j + 1, by omega, by go_num, by rw [HS.out]; first | done | go_num, HE2.out.trans (Ext.drewN _ _)⟩
                case measure => simp [intOf]; omega
              · have q3 : decide ((j : Int) < (i : Int)) = false := by simp; omega
                have q3' : decide (j < i) = false := by simp; omega
                have HS := hide' (HNO.out (fun h => by rcases HLT.out.1 h with h | h; exact g1 h; exact g3 h.2))
                clear g1 g2 g3 HYES HNO HLT
                go_wp2_with fail
                go_quiet (fail)
                go_wp2
                go_roundw
                case rel => exact ⟨j + 1, by omega, by go_num, by rw [HS.out], HE2.out.trans (Ext.drewN _ _)⟩
                case measure => simp [intOf]; omega
            · have q2 : (x == y) = false := by simpa using g2
              have HS := hide' (HNO.out (fun h => by rcases HLT.out.1 h with h | h; exact g1 h; exact g2 h.1))
              clear g1 g2 HYES HNO HLT
              go_wp2_with fail
              go_quiet (fail)
              go_wp2
              go_roundw
              case rel => exact ⟨j + 1, by omega, by go_num, by rw [HS.out], HE2.out.trans (Ext.drewN _ _)⟩
              case measure => simp [intOf]; omega
        · have hjn' : decide ((j : Int) < n) = false := by simp; omega
          have hjn2 : j = n := by omega
          have HRK : Hid (cntJ l i j = F.getD i 0) := by rw [hjn2, ← HN.out, HAT.out i hlt]; exact cntJ_all l i
          have HTK : Hid (natL (F.take i) ++ [(F.getD i 0 : Int)] = natL (F.take (i + 1))) := by
            show _ = _
            rw [takeN_succ (by rw [HLF.out]; exact hlt)]
            exact natL_snoc _ _
          have HTL : Hid ((natL (F.take i)).length ≤ 100000) := by show _ ≤ _; rw [natL_len, List.length_take]; omega
          have hsz := HEW.out.size
          have HO2 := hide' (HO.out.ext HE2.out)
          rw [HRK.out]
          obtain ⟨c, HCC⟩ : ∃ c, Hid (F.getD i 0 = c) := ⟨_, rfl⟩
          rw [HCC.out] at HTK ⊢
          obtain ⟨T, HT⟩ : ∃ T, Hid (natL (F.take i) = T) := ⟨_, rfl⟩
          rw [HT.out] at HTK HTL HO2
          clear hjn2 HVO
          go_wp2_with (at_builtin; refine wpList_snoc _ rfl _ _ 23 rfl 3 .i64 8 Try.underlying23 infoI64 w.heap.size _ T (c : Int) ⟨wr.heap.size, 0, none⟩ rfl rfl ?c4 (HO2.out.alloc _) ?c3 ?c5 ?_)
          case c3 => have := HTL.out; unfold maxLen; omega
          case c5 => simp; omega
          case c4 => simp only [World.cell?, heap_alloc_top]; simp
          intro v1 w4 ho1 hb1
          have HO1 := ho1
          rw [HTK.out] at HO1
          have HO3 := hide' HO1
          have HE3 : Hid (Ext w w4) := Below.trans (HEW.out.trans (ext_alloc _ _)) (Below.mono hb1 (Nat.le_refl _))
          clear ho1 hb1 HO1
          go_wp2
          go_roundw
          case rel => exact ⟨i + 1, by omega, by go_num, HO3, HE3⟩
          case measure => simp [intOf] <;> omega
    · have hlt' : decide ((i : Int) < n) = false := by simp; omega
      have HB : Hid (F.take i = F) := List.take_of_length_le (by rw [HLF.out]; omega)
      rw [HB.out] at HO
      go_wp2
      go_ret
      exact ⟨_, rfl, HO.out, HE.out⟩
end Go.Proofs.Yticblbegjfcbdaa
