/- CrossSorts: the walk. -/
import Derived.Test.YtmnbjikhjdmmfaaCrRunsLaw
import Derived.Test.YtmnbjikhjdmmfaaPart2
import Derived.Test.YtmnbjikhjdmmfaaPart1
namespace Go.Proofs.Ytmnbjikhjdmmfaa
set_option linter.unusedVariables false
set_option linter.unusedSimpArgs false
open Go.RowKit

/-- What the calls of the last region hand back. -/
def crS (A Z : Value) (f : FuncId) (args : Array Value) (v : Value) : Prop :=
  match f with
  | 14 => v = (match args[0]? with | some (.pointer none) => Z | _ => A)
  | _ => v = .bool true
theorem crS_1 {A Z v : Value} {a : Addr} : crS A Z 14 #[.pointer (some a)] v ↔ v = A := Iff.rfl
theorem crS_2 {A Z v : Value} : crS A Z 14 #[.pointer none] v ↔ v = Z := Iff.rfl
theorem crS_3 {A Z v : Value} : crS A Z 12 #[] v ↔ v = .bool true := Iff.rfl

set_option maxHeartbeats 4000000 in
set_option maxRecDepth 100000 in
theorem lawSorts (u v : Value) (l s : List Int) (z : Int) (w : World) (hu : Sl .i64 w u l) (hv : Sl .u8 w v s) (h8 : Bytes8 s) :
    Calls Try.prog 4 #[u, v, .int .i64 z] w fun e w' => e = .returned (.bool true) ∧ Ext w w' := by
  have HU := hide' hu
  have HV := hide' hv
  have H8 := hide' h8
  obtain ⟨ua, uc, rfl, _⟩ := hu
  obtain ⟨va, vc, rfl, _⟩ := hv
  clear h8
  by_cases h1 : (60 : Int) < (s.length : Int)
  · go_enter Try.func4, Try.ntmps4
    go_wp2
    go_ret
    exact ⟨rfl, Ext.refl _⟩
  have d1 : decide ((60 : Int) < (s.length : Int)) = false := by simpa using h1
  by_cases h2 : (20 : Int) < (l.length : Int)
  · have d2 : decide ((20 : Int) < (l.length : Int)) = true := by simpa using h2
    go_enter Try.func4, Try.ntmps4
    go_wp2
    go_ret
    exact ⟨rfl, Ext.refl _⟩
  have d2 : decide ((20 : Int) < (l.length : Int)) = false := by simpa using h2
  by_cases h3 : z < 0
  · have d3 : decide (z < 0) = true := decide_eq_true h3
    go_enter Try.func4, Try.ntmps4
    go_wp2
    go_ret
    exact ⟨rfl, Ext.refl _⟩
  have d3 : decide (z < 0) = false := decide_eq_false h3
  by_cases h4 : 5 < z
  · have d4 : decide (5 < z) = true := decide_eq_true h4
    go_enter Try.func4, Try.ntmps4
    go_wp2
    go_ret
    exact ⟨rfl, Ext.refl _⟩
  have d4 : decide (5 < z) = false := decide_eq_false h4
  obtain ⟨R, rfl⟩ := Int.eq_ofNat_of_zero_le (show 0 ≤ z by omega)
  have hR5 : R ≤ 5 := by omega
  have HL : Hid (s.length ≤ 500) := by show _ ≤ _; omega
  obtain ⟨K, HK⟩ : ∃ K, Hid (l.length = K) := ⟨_, rfl⟩
  have hK : K ≤ 20 := by have := HK.out; omega
  rw [HK.out] at HU d2 ⊢
  clear h1 h2 h3 h4
  go_enter Try.func4, Try.ntmps4
  go_wp2_with fail
  refine (crsNew_any w).mono ?_
  rintro e w1 ⟨v, fp, rfl, hm, hn, he⟩
  have hlt1 := hm.lts
  obtain ⟨hb, HHB⟩ : ∃ hb, Hid (w1.heap.size = hb) := ⟨_, rfl⟩
  have N1 := hide' hn
  have HFB : Hid (hb ∉ fp) := fun e => by have := hlt1 hb e; have := HHB.out; omega
  have HBW : Hid (w.heap.size ≤ hb) := by show _ ≤ _; have := he.size; have := HHB.out; omega
  obtain ⟨m, rfl⟩ := hm.ptr
  have M1 := hide' (hm.ext (ext_alloc w1 (.cells #[.int .i64 (R : Int), .int .i64 (R : Int), .int .i64 (R : Int)] 37 (0, 0))))
  have X1 := hide' (he.trans (ext_alloc w1 (.cells #[.int .i64 (R : Int), .int .i64 (R : Int), .int .i64 (R : Int)] 37 (0, 0))))
  have W1 := hide' (heap_alloc_top w1 (.cells #[.int .i64 (R : Int), .int .i64 (R : Int), .int .i64 (R : Int)] 37 (0, 0)))
  rw [HHB.out] at W1
  clear hm hn he hlt1
  go_wp2
  rw [HHB.out]
  go_loopw [9] (fun iv wr => ∃ (i : Nat), i ≤ R ∧ iv = .int .i64 i ∧ Hid (Cro wr (.pointer (some ⟨m, 0, none⟩)) i i i fp) ∧ Hid (wr.heap[hb]? = some (.cells #[.int .i64 (R : Int), .int .i64 (R : Int), .int .i64 (R : Int)] 37 (0, 0))) ∧ Hid (Ext w wr)) (fun iv _ => R - (intOf iv).toNat)
  case atStart => exact ⟨0, Nat.zero_le _, rfl, M1, W1, X1⟩
  case round =>
    clear M1 W1 X1
    obtain ⟨i, hi, rfl, HM, HW, HE⟩ := hrel
    by_cases hlt : i < R
    · have hlt' : (i : Int) < R := by omega
      go_wp2_with fail
      refine (crsRun_ok _ _ s i i i fp wr HM.out (HV.out.ext HE.out) H8.out HL.out (by omega)).mono ?_
      rintro e w2 ⟨a, r, L, rfl, _, _, _, _, hm, hbb⟩
      have M2 := hide' hm
      have W2 := hide' ((hbb.block hb (Array.getElem?_eq_some_iff.1 HW.out).1 HFB.out).trans HW.out)
      have X2 := hide' (ButF.ext HE.out hbb N1.out)
      clear hm hbb HM HW HE
      go_wp2
      go_roundw
      case rel => exact ⟨i + 1, by omega, by go_num, M2, W2, X2⟩
      case measure => simp [intOf] <;> omega
    · have hlt' : decide ((i : Int) < R) = false := by simp; omega
      have HM2 : Hid (Cro wr (.pointer (some ⟨m, 0, none⟩)) R R R fp) := by
        have h := HM.out
        rw [show i = R by omega] at h
        exact h
      have HB0 : Hid (R ≤ 5 + 0 ∧ R ≤ 5 + 0 ∧ R ≤ 5 + 0) := ⟨by omega, by omega, by omega⟩
      go_wp2
      go_loopw [10] (fun iv wr => ∃ (k y0 y1 y2 : Nat), k ≤ K ∧ iv = .int .i64 k ∧ Hid (y0 ≤ 5 + k ∧ y1 ≤ 5 + k ∧ y2 ≤ 5 + k) ∧ Hid (Cro wr (.pointer (some ⟨m, 0, none⟩)) y0 y1 y2 fp) ∧ Hid (wr.heap[hb]? = some (.cells #[.int .i64 (y0 : Int), .int .i64 (y1 : Int), .int .i64 (y2 : Int)] 37 (0, 0))) ∧ Hid (Ext w wr)) (fun iv _ => K - (intOf iv).toNat)
      case atStart => exact ⟨0, R, R, R, Nat.zero_le _, rfl, HB0, HM2, HW, HE⟩
      case round =>
        clear HM2 HW HE HM HB0 hlt hlt' hi
        obtain ⟨k, y0, y1, y2, hk, rfl, HB, HM, HW, HE⟩ := hrel
        by_cases hkt : k < K
        · have hkt' : (k : Int) < K := by omega
          obtain ⟨_, _, _, hcell⟩ := HU.out.int
          obtain ⟨g, off, rfl, k1⟩ := hcell (by omega)
          have q1 := k1 k hkt
          have Q1 : Hid (∀ w', Ext w w' → w'.cell? ⟨g, off + k, none⟩ = some (.int .i64 (l.getD k 0))) := fun w' he => he.cellOf q1
          clear k1 q1 hcell
          obtain ⟨x, HX⟩ : ∃ x, Hid (l.getD k 0 = x) := ⟨_, rfl⟩
          rw [HX.out] at Q1
          have HB2 : Hid (y0 ≤ 5 + (k + 1) ∧ y1 ≤ 5 + (k + 1) ∧ y2 ≤ 5 + (k + 1)) := by have := HB.out; exact ⟨by omega, by omega, by omega⟩
          have cx := Q1.out wr HE.out
          by_cases hx : x < 0 ∨ 2 < x
          · have HXX := hide' hx
            by_cases hx0 : x < 0
            · have e1 : decide (x < 0) = true := decide_eq_true hx0
              clear hx
              go_wp2_with fail
              refine (crsSort_arg _ _ x wr HXX.out ⟨m, rfl⟩).mono ?_
              rintro e w2 ⟨u2, rfl, ho, he⟩
              have M2 := hide' (HM.out.ext he)
              have W2 := hide' ((he.block hb (Array.getElem?_eq_some_iff.1 HW.out).1).trans HW.out)
              have X2 := hide' (HE.out.trans he)
              have cx2 := Q1.out w2 X2.out
              obtain ⟨oa, oc, rfl, _⟩ := ho.sl
              simp only [List.length_nil]
              clear ho he HM HW HE cx
              go_wp2
              go_roundw
              case rel => exact ⟨k + 1, y0, y1, y2, by omega, by go_num, HB2, M2, W2, X2⟩
              case measure => simp [intOf] <;> omega
            · have e1 : decide (x < 0) = false := decide_eq_false hx0
              have e2 : decide (2 < x) = true := decide_eq_true (by omega)
              clear hx
              go_wp2_with fail
              refine (crsSort_arg _ _ x wr HXX.out ⟨m, rfl⟩).mono ?_
              rintro e w2 ⟨u2, rfl, ho, he⟩
              have M2 := hide' (HM.out.ext he)
              have W2 := hide' ((he.block hb (Array.getElem?_eq_some_iff.1 HW.out).1).trans HW.out)
              have X2 := hide' (HE.out.trans he)
              have cx2 := Q1.out w2 X2.out
              obtain ⟨oa, oc, rfl, _⟩ := ho.sl
              simp only [List.length_nil]
              clear ho he HM HW HE cx
              go_wp2
              go_roundw
              case rel => exact ⟨k + 1, y0, y1, y2, by omega, by go_num, HB2, M2, W2, X2⟩
              case measure => simp [intOf] <;> omega
          · have hx3 : x = 0 ∨ x = 1 ∨ x = 2 := by omega
            clear hx
            rcases hx3 with rfl | rfl | rfl
            · go_wp2_with fail
              refine (crsSort_ok _ _ s 0 y0 y1 y2 fp wr HM.out (by decide) (HV.out.ext HE.out) H8.out HL.out (by have := HB.out; omega)).mono ?_
              rintro e w2 ⟨u2, L, rfl, hR, ho, hm, hbb⟩
              have M2 : Hid (Cro w2 (.pointer (some ⟨m, 0, none⟩)) (y0 + 1) y1 y2 fp) := hm
              have W2 := hide' ((hbb.block hb (Array.getElem?_eq_some_iff.1 HW.out).1 HFB.out).trans HW.out)
              have hbl := (Array.getElem?_eq_some_iff.1 HW.out).1
              have X2 := hide' (ButF.ext HE.out hbb N1.out)
              have R2 := hide' hR
              have HLL : Hid (L.length ≤ 500) := by show _ ≤ _; have h1 := hR.len; have h2 := HL.out; omega
              have cx2 := Q1.out w2 X2.out
              obtain ⟨c0, c1, c2, f0, f1, f2⟩ := cells3 W2.out
              have hw : IntKind.i64.wrap ((y0 : Int) + 1) = (y0 : Int) + 1 := by rw [IntKind.wrap_i64]; have := HB.out; omega
              have W3 : Hid ((w2.setCell ⟨hb, 0, none⟩ (.int .i64 ((y0 : Int) + 1))).heap[hb]? = some (.cells #[.int .i64 ((y0 : Int) + 1), .int .i64 (y1 : Int), .int .i64 (y2 : Int)] 37 (0, 0))) := set3_0 W2.out
              have X3 : Hid (Ext w (w2.setCell ⟨hb, 0, none⟩ (.int .i64 ((y0 : Int) + 1)))) := Ext.but X2.out HBW.out (but_set _ _ _ _)
              have M3 := hide' (M2.out.butF (ButF.ofBut (fp := [hb]) (by simp) (but_set w2 hb 0 (.int .i64 ((y0 : Int) + 1)))) (fun k hk e => HFB.out (by rw [← List.mem_singleton.1 e]; exact hk)))
              have A3 := hide' (ButF.own ho (ButF.ofBut (fp := [hb]) (by simp) (but_set w2 hb 0 (.int .i64 ((y0 : Int) + 1)))) (fun i h1 h2 => by
                have h3 := (World.ownsRow.lt ho i h1).1
                simp only [List.mem_singleton] at h2
                omega))
              clear ho hm hbb hR HM HW HE cx M2 W2 X2
              go_wp2_with fail
              generalize (w2.setCell ⟨hb, 0, none⟩ (.int .i64 ((y0 : Int) + 1))) = W at *
              clear cx2 c0 c1 c2 f0 f1 f2
              refine (srBytes_any _ s W (HV.out.ext X3.out) H8.out (by have := HL.out; omega)).mono ?_
              rintro e w4 ⟨u4, L', rfl, hR, ho, he⟩
              obtain rfl := (hR.eq R2.out).1
              have O4 := hide' ho.sl
              have A4 := hide' (A3.out.sl.ext he)
              have M4 := hide' (M3.out.ext he)
              have W4 := hide' ((he.block hb (Array.getElem?_eq_some_iff.1 W3.out).1).trans W3.out)
              have X4 := hide' (X3.out.trans he)
              clear hR ho he R2
              go_wp2_with fail
              refine (ints_same _ _ L' _ A4.out O4.out (by have := HLL.out; omega)).mono ?_
              rintro e w5 ⟨rfl, he⟩
              have M5 := hide' (M4.out.ext he)
              have W5 := hide' ((he.block hb (Array.getElem?_eq_some_iff.1 W4.out).1).trans W4.out)
              have X5 := hide' (X4.out.trans he)
              have HB3 : Hid (y0 + 1 ≤ 5 + (k + 1) ∧ y1 ≤ 5 + (k + 1) ∧ y2 ≤ 5 + (k + 1)) := by have := HB.out; exact ⟨by omega, by omega, by omega⟩
              clear he A4 O4 M4 W4 X4 A3 M3 W3 X3
              go_wp2
              go_roundw
              case rel => exact ⟨k + 1, y0 + 1, y1, y2, by omega, by go_num, HB3, M5, W5, X5⟩
              case measure => simp [intOf] <;> omega
            · go_wp2_with fail
              refine (crsSort_ok _ _ s 1 y0 y1 y2 fp wr HM.out (by decide) (HV.out.ext HE.out) H8.out HL.out (by have := HB.out; omega)).mono ?_
              rintro e w2 ⟨u2, L, rfl, hR, ho, hm, hbb⟩
              have M2 : Hid (Cro w2 (.pointer (some ⟨m, 0, none⟩)) y0 (y1 + 1) y2 fp) := hm
              have W2 := hide' ((hbb.block hb (Array.getElem?_eq_some_iff.1 HW.out).1 HFB.out).trans HW.out)
              have hbl := (Array.getElem?_eq_some_iff.1 HW.out).1
              have X2 := hide' (ButF.ext HE.out hbb N1.out)
              have R2 := hide' hR
              have HLL : Hid (L.length ≤ 500) := by show _ ≤ _; have h1 := hR.len; have h2 := HL.out; omega
              have cx2 := Q1.out w2 X2.out
              obtain ⟨c0, c1, c2, f0, f1, f2⟩ := cells3 W2.out
              have hw : IntKind.i64.wrap ((y1 : Int) + 1) = (y1 : Int) + 1 := by rw [IntKind.wrap_i64]; have := HB.out; omega
              have W3 : Hid ((w2.setCell ⟨hb, 1, none⟩ (.int .i64 ((y1 : Int) + 1))).heap[hb]? = some (.cells #[.int .i64 (y0 : Int), .int .i64 ((y1 : Int) + 1), .int .i64 (y2 : Int)] 37 (0, 0))) := set3_1 W2.out
              have X3 : Hid (Ext w (w2.setCell ⟨hb, 1, none⟩ (.int .i64 ((y1 : Int) + 1)))) := Ext.but X2.out HBW.out (but_set _ _ _ _)
              have M3 := hide' (M2.out.butF (ButF.ofBut (fp := [hb]) (by simp) (but_set w2 hb 1 (.int .i64 ((y1 : Int) + 1)))) (fun k hk e => HFB.out (by rw [← List.mem_singleton.1 e]; exact hk)))
              have A3 := hide' (ButF.own ho (ButF.ofBut (fp := [hb]) (by simp) (but_set w2 hb 1 (.int .i64 ((y1 : Int) + 1)))) (fun i h1 h2 => by
                have h3 := (World.ownsRow.lt ho i h1).1
                simp only [List.mem_singleton] at h2
                omega))
              clear ho hm hbb hR HM HW HE cx M2 W2 X2
              go_wp2_with fail
              generalize (w2.setCell ⟨hb, 1, none⟩ (.int .i64 ((y1 : Int) + 1))) = W at *
              clear cx2 c0 c1 c2 f0 f1 f2
              refine (srBytes_any _ s W (HV.out.ext X3.out) H8.out (by have := HL.out; omega)).mono ?_
              rintro e w4 ⟨u4, L', rfl, hR, ho, he⟩
              obtain rfl := (hR.eq R2.out).1
              have O4 := hide' ho.sl
              have A4 := hide' (A3.out.sl.ext he)
              have M4 := hide' (M3.out.ext he)
              have W4 := hide' ((he.block hb (Array.getElem?_eq_some_iff.1 W3.out).1).trans W3.out)
              have X4 := hide' (X3.out.trans he)
              clear hR ho he R2
              go_wp2_with fail
              refine (ints_same _ _ L' _ A4.out O4.out (by have := HLL.out; omega)).mono ?_
              rintro e w5 ⟨rfl, he⟩
              have M5 := hide' (M4.out.ext he)
              have W5 := hide' ((he.block hb (Array.getElem?_eq_some_iff.1 W4.out).1).trans W4.out)
              have X5 := hide' (X4.out.trans he)
              have HB3 : Hid (y0 ≤ 5 + (k + 1) ∧ y1 + 1 ≤ 5 + (k + 1) ∧ y2 ≤ 5 + (k + 1)) := by have := HB.out; exact ⟨by omega, by omega, by omega⟩
              clear he A4 O4 M4 W4 X4 A3 M3 W3 X3
              go_wp2
              go_roundw
              case rel => exact ⟨k + 1, y0, y1 + 1, y2, by omega, by go_num, HB3, M5, W5, X5⟩
              case measure => simp [intOf] <;> omega
            · go_wp2_with fail
              refine (crsSort_ok _ _ s 2 y0 y1 y2 fp wr HM.out (by decide) (HV.out.ext HE.out) H8.out HL.out (by have := HB.out; omega)).mono ?_
              rintro e w2 ⟨u2, L, rfl, hR, ho, hm, hbb⟩
              have M2 : Hid (Cro w2 (.pointer (some ⟨m, 0, none⟩)) y0 y1 (y2 + 1) fp) := hm
              have W2 := hide' ((hbb.block hb (Array.getElem?_eq_some_iff.1 HW.out).1 HFB.out).trans HW.out)
              have hbl := (Array.getElem?_eq_some_iff.1 HW.out).1
              have X2 := hide' (ButF.ext HE.out hbb N1.out)
              have R2 := hide' hR
              have HLL : Hid (L.length ≤ 500) := by show _ ≤ _; have h1 := hR.len; have h2 := HL.out; omega
              have cx2 := Q1.out w2 X2.out
              obtain ⟨c0, c1, c2, f0, f1, f2⟩ := cells3 W2.out
              have hw : IntKind.i64.wrap ((y2 : Int) + 1) = (y2 : Int) + 1 := by rw [IntKind.wrap_i64]; have := HB.out; omega
              have W3 : Hid ((w2.setCell ⟨hb, 2, none⟩ (.int .i64 ((y2 : Int) + 1))).heap[hb]? = some (.cells #[.int .i64 (y0 : Int), .int .i64 (y1 : Int), .int .i64 ((y2 : Int) + 1)] 37 (0, 0))) := set3_2 W2.out
              have X3 : Hid (Ext w (w2.setCell ⟨hb, 2, none⟩ (.int .i64 ((y2 : Int) + 1)))) := Ext.but X2.out HBW.out (but_set _ _ _ _)
              have M3 := hide' (M2.out.butF (ButF.ofBut (fp := [hb]) (by simp) (but_set w2 hb 2 (.int .i64 ((y2 : Int) + 1)))) (fun k hk e => HFB.out (by rw [← List.mem_singleton.1 e]; exact hk)))
              have A3 := hide' (ButF.own ho (ButF.ofBut (fp := [hb]) (by simp) (but_set w2 hb 2 (.int .i64 ((y2 : Int) + 1)))) (fun i h1 h2 => by
                have h3 := (World.ownsRow.lt ho i h1).1
                simp only [List.mem_singleton] at h2
                omega))
              clear ho hm hbb hR HM HW HE cx M2 W2 X2
              go_wp2_with fail
              generalize (w2.setCell ⟨hb, 2, none⟩ (.int .i64 ((y2 : Int) + 1))) = W at *
              clear cx2 c0 c1 c2 f0 f1 f2
              refine (srBytes_any _ s W (HV.out.ext X3.out) H8.out (by have := HL.out; omega)).mono ?_
              rintro e w4 ⟨u4, L', rfl, hR, ho, he⟩
              obtain rfl := (hR.eq R2.out).1
              have O4 := hide' ho.sl
              have A4 := hide' (A3.out.sl.ext he)
              have M4 := hide' (M3.out.ext he)
              have W4 := hide' ((he.block hb (Array.getElem?_eq_some_iff.1 W3.out).1).trans W3.out)
              have X4 := hide' (X3.out.trans he)
              clear hR ho he R2
              go_wp2_with fail
              refine (ints_same _ _ L' _ A4.out O4.out (by have := HLL.out; omega)).mono ?_
              rintro e w5 ⟨rfl, he⟩
              have M5 := hide' (M4.out.ext he)
              have W5 := hide' ((he.block hb (Array.getElem?_eq_some_iff.1 W4.out).1).trans W4.out)
              have X5 := hide' (X4.out.trans he)
              have HB3 : Hid (y0 ≤ 5 + (k + 1) ∧ y1 ≤ 5 + (k + 1) ∧ y2 + 1 ≤ 5 + (k + 1)) := by have := HB.out; exact ⟨by omega, by omega, by omega⟩
              clear he A4 O4 M4 W4 X4 A3 M3 W3 X3
              go_wp2
              go_roundw
              case rel => exact ⟨k + 1, y0, y1, y2 + 1, by omega, by go_num, HB3, M5, W5, X5⟩
              case measure => simp [intOf] <;> omega
        · have hkt' : decide ((k : Int) < K) = false := by simp; omega
          go_wp2_with fail
          refine (crsSort_nil _ 0 wr).mono ?_
          rintro e w2 ⟨u2, rfl, he⟩
          have F2 := hide' he
          clear he
          go_wp2_with fail
          refine (crsRun_nil _ w2).mono ?_
          rintro e w3 ⟨u3, rfl, hu3, he⟩
          subst hu3
          have F3 := hide' (F2.out.trans (he.trans (ext_alloc w3 (.cells #[.slice none 0 0, .slice none 0 0, .bool false] 27 (0, 0)))))
          clear he
          have W3 := hide' ((F3.out.block hb (Array.getElem?_eq_some_iff.1 HW.out).1).trans HW.out)
          have M3 := hide' (HM.out.ext F3.out)
          have X3 := hide' (HE.out.trans F3.out)
          have q3 := fun w => eq3 (y0 : Int) (y1 : Int) (y2 : Int) (y0 : Int) (y1 : Int) (y2 : Int) w
          have q0 := fun w => eq3 0 0 0 0 0 0 w
          simp only [beq_self_eq_true, Bool.and_self] at q3 q0
          clear F2 F3 HM HW HE
          go_wp2_with fail
          generalize (w3.alloc (Obj.cells #[.slice none 0 0, .slice none 0 0, .bool false] 27)) = W8 at *
          obtain ⟨c0, c1, c2, _⟩ := cells3 W3.out
          have h0 : ∀ l : Later W8, l.val.cell? ⟨hb, 0, none⟩ = some (.int .i64 (y0 : Int)) := fun l => l.ext.cellOf c0
          have h1 : ∀ l : Later W8, l.val.cell? ⟨hb, 1, none⟩ = some (.int .i64 (y1 : Int)) := fun l => l.ext.cellOf c1
          have h2 : ∀ l : Later W8, l.val.cell? ⟨hb, 2, none⟩ = some (.int .i64 (y2 : Int)) := fun l => l.ext.cellOf c2
          have CU := hide' (fun w' (he : Ext W8 w') => crsRuns_any _ y0 y1 y2 fp w' (M3.out.ext he))
          have hne := later_some W8
          clear c0 c1 c2
          refine wp_region_k (fun f args v w => crS (.agg #[.int .i64 (y0 : Int), .int .i64 (y1 : Int), .int .i64 (y2 : Int)]) (.agg #[.int .i64 0, .int .i64 0, .int .i64 0]) f args v) (by kernel_rfl) (by kernel_rfl) (by kernel_rfl) ?_
          refine lexK_take 1 (by kernel_rfl) ?_
          simp only [List.take_succ_cons, List.take_zero, List.drop_succ_cons, List.drop_zero, List.take_nil, List.drop_nil]
          repeat (go_big_quiet_step (fail))
          refine wpQuiet_nil ?_
          refine lexK_call1 14 #[.pointer (some ⟨m, 0, none⟩)] (.agg #[.int .i64 (y0 : Int), .int .i64 (y1 : Int), .int .i64 (y2 : Int)]) (fun _ _ => crS_1) rfl (fun w' => ?_) (fun w' he _ => CU.out w' he) ?_
          · go_simp
          simp only [Act.put, List.setIfInBounds_toArray, List.set_cons_succ, List.set_cons_zero]
          refine lexK_take 12 (by kernel_rfl) ?_
          simp only [List.take_succ_cons, List.take_zero, List.drop_succ_cons, List.drop_zero, List.take_nil, List.drop_nil]
          repeat (go_big_quiet_step (fail))
          refine wpQuiet_nil ?_
          refine lexK_call1 14 #[.pointer none] (.agg #[.int .i64 0, .int .i64 0, .int .i64 0]) (fun _ _ => crS_2) rfl (fun w' => ?_) (fun w' he _ => crsRuns_nil w') ?_
          · go_simp
          simp only [Act.put, List.setIfInBounds_toArray, List.set_cons_succ, List.set_cons_zero]
          refine lexK_val (.agg #[.int .i64 0, .int .i64 0, .int .i64 0]) rfl (fun w6 he6 hf6 => by kernel_rfl) ?_
          simp only [Act.put, List.setIfInBounds_toArray, List.set_cons_succ, List.set_cons_zero]
          refine lexK_take 3 (by kernel_rfl) ?_
          simp only [List.take_succ_cons, List.take_zero, List.drop_succ_cons, List.drop_zero, List.take_nil, List.drop_nil]
          repeat (go_big_quiet_step (fail))
          refine wpQuiet_nil ?_
          refine lexK_call1 12 #[] (.bool true) (fun _ _ => crS_3) rfl (fun w' => ?_) (fun w' he _ => known_any w') ?_
          · go_simp
          simp only [Act.put, List.setIfInBounds_toArray, List.set_cons_succ, List.set_cons_zero]
          refine lexK_take 2 (by kernel_rfl) ?_
          simp only [List.take_succ_cons, List.take_zero, List.drop_succ_cons, List.drop_zero, List.take_nil, List.drop_nil]
          repeat (go_big_quiet_step (fail))
          refine wpQuiet_nil ?_
          refine lexK_nil ?_
          intro w9 he9 _
          have X9 := hide' (X3.out.trans he9)
          clear he9 hne h0 h1 h2
          go_wp2
          go_ret
          exact ⟨rfl, X9.out⟩
end Go.Proofs.Ytmnbjikhjdmmfaa
