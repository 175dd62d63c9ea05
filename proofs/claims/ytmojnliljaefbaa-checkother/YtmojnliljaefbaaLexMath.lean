/- Two rows of numbers, compared; how much they have alike; rotations. Plain numbers, no conditions. -/
import Derived.Test.YtmojnliljaefbaaLib
import Derived.Lib.Bytealg
import Derived.Lib.BytesEntry
namespace Go.Proofs.Ytmojnliljaefbaa
set_option linter.unusedVariables false
set_option linter.unusedSimpArgs false

/-- -1, 0, 1. -/
def cmpI : List Int → List Int → Int
  | [], [] => 0
  | [], _ :: _ => -1
  | _ :: _, [] => 1
  | a :: x, b :: y => if a < b then -1 else if b < a then 1 else cmpI x y

/-- How many are alike. -/
def comI : List Int → List Int → Nat
  | a :: x, b :: y => if a = b then comI x y + 1 else 0
  | _, _ => 0

def turnI (s : List Int) (i : Nat) : List Int := s.drop i ++ s.take i

def endL (s : List Int) (i j : Int) : Int := if (0 ≤ i ∧ i ≤ (s.length : Int)) ∧ 0 ≤ j ∧ j ≤ (s.length : Int) then cmpI (s.drop i.toNat) (s.drop j.toNat) else 0
def turnsL (s : List Int) (i j : Int) : Int := if (0 ≤ i ∧ i < (s.length : Int)) ∧ 0 ≤ j ∧ j < (s.length : Int) then cmpI (turnI s i.toNat) (turnI s j.toNat) else 0
def comL (s : List Int) (i j : Int) : Int := if (0 ≤ i ∧ i ≤ (s.length : Int)) ∧ 0 ≤ j ∧ j ≤ (s.length : Int) then (comI (s.drop i.toNat) (s.drop j.toNat) : Int) else 0

theorem endL_out {s : List Int} {i j : Int} (h : ¬ ((0 ≤ i ∧ i ≤ (s.length : Int)) ∧ 0 ≤ j ∧ j ≤ (s.length : Int))) : endL s i j = 0 := if_neg h
theorem endL_in {s : List Int} {i j : Nat} (h : i ≤ s.length) (h' : j ≤ s.length) : endL s i j = cmpI (s.drop i) (s.drop j) := by
  unfold endL; rw [if_pos (by omega)]; simp
theorem turnsL_out {s : List Int} {i j : Int} (h : ¬ ((0 ≤ i ∧ i < (s.length : Int)) ∧ 0 ≤ j ∧ j < (s.length : Int))) : turnsL s i j = 0 := if_neg h
theorem turnsL_in {s : List Int} {i j : Nat} (h : i < s.length) (h' : j < s.length) : turnsL s i j = cmpI (turnI s i) (turnI s j) := by
  unfold turnsL; rw [if_pos (by omega)]; simp
theorem comL_out {s : List Int} {i j : Int} (h : ¬ ((0 ≤ i ∧ i ≤ (s.length : Int)) ∧ 0 ≤ j ∧ j ≤ (s.length : Int))) : comL s i j = 0 := if_neg h
theorem comL_in {s : List Int} {i j : Nat} (h : i ≤ s.length) (h' : j ≤ s.length) : comL s i j = (comI (s.drop i) (s.drop j) : Int) := by
  unfold comL; rw [if_pos (by omega)]; simp

theorem drop_getD {x : List Int} {k : Nat} (h : k < x.length) : x.drop k = x.getD k 0 :: x.drop (k + 1) := by
  rw [List.drop_eq_getElem_cons h]
  simp [List.getD, List.getElem?_eq_getElem h]

theorem cmpI_same {x y : List Int} {k : Nat} (hx : k < x.length) (hy : k < y.length) (h : x.getD k 0 = y.getD k 0) : cmpI (x.drop k) (y.drop k) = cmpI (x.drop (k + 1)) (y.drop (k + 1)) := by
  rw [drop_getD hx, drop_getD hy, h, cmpI, if_neg (by omega), if_neg (by omega)]
theorem cmpI_lt {x y : List Int} {k : Nat} (hx : k < x.length) (hy : k < y.length) (h : x.getD k 0 < y.getD k 0) : cmpI (x.drop k) (y.drop k) = -1 := by
  rw [drop_getD hx, drop_getD hy, cmpI, if_pos h]
theorem cmpI_gt {x y : List Int} {k : Nat} (hx : k < x.length) (hy : k < y.length) (h : y.getD k 0 < x.getD k 0) : cmpI (x.drop k) (y.drop k) = 1 := by
  rw [drop_getD hx, drop_getD hy, cmpI, if_neg (by omega), if_pos h]
theorem cmpI_short {x y : List Int} {k : Nat} (hx : k = x.length) (hy : k < y.length) : cmpI (x.drop k) (y.drop k) = -1 := by
  rw [List.drop_of_length_le (by omega), drop_getD hy]; rfl
theorem cmpI_long {x y : List Int} {k : Nat} (hx : k < x.length) (hy : k = y.length) : cmpI (x.drop k) (y.drop k) = 1 := by
  rw [List.drop_of_length_le (l := y) (by omega), drop_getD hx]; rfl
theorem cmpI_end {x y : List Int} {k : Nat} (hx : k = x.length) (hy : k = y.length) : cmpI (x.drop k) (y.drop k) = 0 := by
  rw [List.drop_of_length_le (l := y) (by omega), List.drop_of_length_le (l := x) (by omega)]; rfl

theorem comI_same {x y : List Int} {k : Nat} (hx : k < x.length) (hy : k < y.length) (h : x.getD k 0 = y.getD k 0) : comI (x.drop k) (y.drop k) = comI (x.drop (k + 1)) (y.drop (k + 1)) + 1 := by
  rw [drop_getD hx, drop_getD hy, h, comI, if_pos rfl]
theorem comI_other {x y : List Int} {k : Nat} (hx : k < x.length) (hy : k < y.length) (h : x.getD k 0 ≠ y.getD k 0) : comI (x.drop k) (y.drop k) = 0 := by
  rw [drop_getD hx, drop_getD hy, comI, if_neg h]
theorem comI_nil_left {y : List Int} : comI [] y = 0 := by cases y <;> rfl
theorem comI_nil_right {x : List Int} : comI x [] = 0 := by cases x <;> rfl
theorem comI_left {x y : List Int} {k : Nat} (hx : x.length ≤ k) : comI (x.drop k) (y.drop k) = 0 := by
  rw [List.drop_of_length_le hx]; exact comI_nil_left
theorem comI_right {x y : List Int} {k : Nat} (hy : y.length ≤ k) : comI (x.drop k) (y.drop k) = 0 := by
  rw [List.drop_of_length_le (l := y) hy]; exact comI_nil_right

theorem cmpI_self (x : List Int) : cmpI x x = 0 := by
  induction x with
  | nil => rfl
  | cons a x ih => rw [cmpI, if_neg (by omega), if_neg (by omega), ih]
theorem cmpI_swap : ∀ (x y : List Int), cmpI y x = - cmpI x y
  | [], [] => rfl
  | [], _ :: _ => rfl
  | _ :: _, [] => rfl
  | a :: x, b :: y => by
    simp only [cmpI]
    by_cases h1 : a < b
    · rw [if_neg (by omega), if_pos h1, if_pos h1]; rfl
    · by_cases h2 : b < a
      · rw [if_pos h2, if_neg h1, if_pos h2]
      · rw [if_neg h2, if_neg h1, if_neg h1, if_neg h2, cmpI_swap x y]
theorem cmpI_zero : ∀ {x y : List Int}, cmpI x y = 0 → x = y
  | [], [], _ => rfl
  | [], _ :: _, h => by simp [cmpI] at h
  | _ :: _, [], h => by simp [cmpI] at h
  | a :: x, b :: y, h => by
    simp only [cmpI] at h
    by_cases h1 : a < b
    · rw [if_pos h1] at h; cases h
    · by_cases h2 : b < a
      · rw [if_neg h1, if_pos h2] at h; cases h
      · rw [if_neg h1, if_neg h2] at h
        rw [cmpI_zero h, show a = b by omega]
theorem cmpI_three (x y : List Int) : cmpI x y = -1 ∨ cmpI x y = 0 ∨ cmpI x y = 1 := by
  induction x generalizing y with
  | nil => cases y <;> simp [cmpI]
  | cons a x ih =>
    cases y with
    | nil => simp [cmpI]
    | cons b y =>
      simp only [cmpI]
      split
      · exact .inl rfl
      · split
        · exact .inr (.inr rfl)
        · exact ih y
theorem cmpI_trans : ∀ (x y z : List Int), cmpI x y ≤ 0 → cmpI y z ≤ 0 → cmpI x z ≤ 0
  | [], _, [], _, _ => by simp [cmpI]
  | [], _, _ :: _, _, _ => by simp [cmpI]
  | _ :: _, [], _, h, _ => by simp [cmpI] at h
  | _ :: _, _ :: _, [], _, h => by simp [cmpI] at h
  | a :: x, b :: y, c :: z, h1, h2 => by
    simp only [cmpI] at h1 h2 ⊢
    by_cases g1 : a < b
    · by_cases g2 : c < b
      · rw [if_neg (by omega), if_pos g2] at h2; omega
      · rw [if_pos (by omega)]; omega
    · by_cases g1' : b < a
      · rw [if_neg g1, if_pos g1'] at h1; omega
      · rw [if_neg g1, if_neg g1'] at h1
        have e : a = b := by omega
        subst e
        by_cases g2 : a < c
        · rw [if_pos g2]; omega
        · by_cases g3 : c < a
          · rw [if_neg g2, if_pos g3] at h2; omega
          · rw [if_neg g2, if_neg g3] at h2 ⊢
            exact cmpI_trans x y z h1 h2
theorem comI_swap : ∀ (x y : List Int), comI x y = comI y x
  | [], _ => by rw [comI_nil_left, comI_nil_right]
  | _ :: _, [] => rfl
  | a :: x, b :: y => by
    simp only [comI]
    by_cases h : a = b
    · rw [if_pos h, if_pos h.symm, comI_swap x y]
    · rw [if_neg h, if_neg (fun e => h e.symm)]
theorem comI_self (x : List Int) : comI x x = x.length := by
  induction x with
  | nil => rfl
  | cons a x ih => rw [comI, if_pos rfl, ih]; rfl
theorem comI_le : ∀ (x y : List Int), comI x y ≤ x.length ∧ comI x y ≤ y.length
  | [], _ => by rw [comI_nil_left]; omega
  | _ :: _, [] => by rw [comI_nil_right]; omega
  | a :: x, b :: y => by
    have := comI_le x y
    simp only [comI, List.length_cons]
    split <;> omega
/-- Behind what is alike the first other one tells. -/
theorem cmpI_comI : ∀ (x y : List Int), cmpI x y =
    if comI x y = x.length then (if comI x y = y.length then 0 else -1) else if comI x y = y.length then 1 else if x.getD (comI x y) 0 < y.getD (comI x y) 0 then -1 else 1
  | [], [] => by simp [cmpI, comI]
  | [], _ :: _ => by simp [cmpI, comI]
  | _ :: _, [] => by simp [cmpI, comI]
  | a :: x, b :: y => by
    by_cases h : a = b
    · subst h
      have hc : comI (a :: x) (a :: y) = comI x y + 1 := by simp [comI]
      have hm : cmpI (a :: x) (a :: y) = cmpI x y := by simp [cmpI]
      rw [hc, hm, cmpI_comI x y]
      simp
    · have hc : comI (a :: x) (b :: y) = 0 := by simp [comI, h]
      rw [hc, cmpI]
      simp only [List.length_cons, List.getD_cons_zero]
      rw [if_neg (show ¬ 0 = x.length + 1 by omega), if_neg (show ¬ 0 = y.length + 1 by omega)]
      split
      · rfl
      · rw [if_pos (by omega)]

theorem turnI_len {s : List Int} {i : Nat} (h : i ≤ s.length) : (turnI s i).length = s.length := by
  simp [turnI]; omega
theorem turnI_at {s : List Int} {i k : Nat} (hi : i < s.length) (hk : k < s.length) : (turnI s i).getD k 0 = s.getD ((i + k) % s.length) 0 := by
  unfold turnI
  by_cases h : i + k < s.length
  · rw [Nat.mod_eq_of_lt h]
    simp only [List.getD_eq_getElem?_getD]
    rw [List.getElem?_append_left (by simp; omega), List.getElem?_drop]
  · have e : (i + k) % s.length = i + k - s.length := by
      rw [Nat.mod_eq_sub_mod (by omega), Nat.mod_eq_of_lt (by omega)]
    rw [e]
    simp only [List.getD_eq_getElem?_getD]
    rw [List.getElem?_append_right (by simp; omega), List.getElem?_take, if_pos (by simp; omega)]
    congr 2
    simp; omega

theorem toUInt8_lt {a b : Int} (ha : 0 ≤ a ∧ a ≤ 255) (hb : 0 ≤ b ∧ b ≤ 255) : a.toNat.toUInt8 < b.toNat.toUInt8 ↔ a < b := by
  rw [UInt8.lt_iff_toNat_lt]
  simp only [Nat.toUInt8, UInt8.toNat_ofNat']
  omega

theorem cmpI_bytes : ∀ (x y : List Int), (∀ z ∈ x, 0 ≤ z ∧ z ≤ 255) → (∀ z ∈ y, 0 ≤ z ∧ z ≤ 255) → Go.Lib.compareBytes (Go.Lib.bytesOf x) (Go.Lib.bytesOf y) = cmpI x y
  | [], [], _, _ => rfl
  | [], _ :: _, _, _ => rfl
  | _ :: _, [], _, _ => rfl
  | a :: x, b :: y, hx, hy => by
    have ih := cmpI_bytes x y (fun z hz => hx z (by simp [hz])) (fun z hz => hy z (by simp [hz]))
    have ha := hx a (by simp)
    have hb := hy b (by simp)
    show (if a.toNat.toUInt8 < b.toNat.toUInt8 then (-1 : Int) else if b.toNat.toUInt8 < a.toNat.toUInt8 then 1 else Go.Lib.compareBytes (Go.Lib.bytesOf x) (Go.Lib.bytesOf y)) = _
    simp only [toUInt8_lt ha hb, toUInt8_lt hb ha, ih]
    rfl

/-- The model's entry bytealg.Compare at two slices of bytes. -/
theorem Sl.bytesOf {P : Program} {w : World} {v : Value} {x : List Int} (h : Sl .u8 w v x) : (Extern.Bytes.bytesOf v).run P w = .ok ⟨(Go.Lib.bytesOf x).toArray⟩ w := by
  obtain ⟨a, c, rfl, _, _, h0, h4⟩ := h
  cases a with
  | none =>
    have hx : x = [] := by
      rcases h4 with h4 | ⟨b, off, h4, _⟩
      · exact h4
      · cases h4
    subst hx
    rfl
  | some a =>
    rcases h4 with rfl | ⟨b, off, h4, h5⟩
    · rfl
    · simp only [Option.some.injEq] at h4
      subst h4
      have := Go.Lib.run_loadBytesX (P := P) w x ⟨b, off, none⟩ .empty (fun j z hj => by
        have hjl : j < x.length := (List.getElem?_eq_some_iff.1 hj).1
        rw [Go.WideShapes.add_plain, h5 j hjl]
        simp [List.getD, hj])
      show (Extern.Bytes.loadBytes ⟨b, off, none⟩ x.length .empty).run P w = _
      rw [this]
      simp [ByteArray.empty, ByteArray.emptyWithCapacity]
      rfl

theorem run_compareBytes {P : Program} {w : World} {u v : Value} {x y : List Int} (h : Sl .u8 w u x) (h' : Sl .u8 w v y) (hx : ∀ z ∈ x, 0 ≤ z ∧ z ≤ 255) (hy : ∀ z ∈ y, 0 ≤ z ∧ z ≤ 255) :
    (Extern.BytealgCompare.compare #[u, v]).run P w = .ok (.int .i64 (cmpI x y)) w := by
  change Sem.run P (do pure (goInt (Extern.BytealgCompare.cmp (← Extern.Bytes.bytesOf u) (← Extern.Bytes.bytesOf v)))) w = _
  simp only [Sem.run_bind, h.bytesOf, h'.bytesOf, Sem.run_pure, Result.andThen]
  rw [Go.Lib.cmp_eq]
  simp only [cmpI_bytes x y hx hy]
  rfl
end Go.Proofs.Ytmojnliljaefbaa
