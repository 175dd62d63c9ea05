/- Borders, periods and roots of a row of numbers. Plain numbers, no conditions. -/
import Derived.Test.YtjccpkekhjhafaaRepMath
namespace Go.Proofs.Ytjccpkekhjhafaa
set_option linter.unusedVariables false
set_option linter.unusedSimpArgs false

/-- Among the first n of s each is the one d behind it. -/
def Per (s : List Int) (n d : Nat) : Prop := ∀ i, i + d < n → s.getD i 0 = s.getD (i + d) 0
/-- The first k of s are also the last of its first n. -/
def Bord (s : List Int) (n k : Nat) : Prop := k < n ∧ Per s n (n - k)
/-- The longest such. -/
def Bor (s : List Int) (n b : Nat) : Prop := Bord s n b ∧ ∀ k, Bord s n k → k ≤ b

def bdown (s : List Int) (n : Nat) : Nat → Nat
  | 0 => 0
  | k + 1 => if s.take (k + 1) = (s.take n).drop (n - (k + 1)) then k + 1 else bdown s n k
def borI (s : List Int) (n : Nat) : Nat := bdown s n (n - 1)

theorem cut_getD (s : List Int) (n m k j : Nat) (hj : j < k) (hm : m + k = n) : ((s.take n).drop m).getD j 0 = s.getD (m + j) 0 := by
  simp only [List.getD_eq_getElem?_getD, List.getElem?_drop, List.getElem?_take]
  rw [if_pos (by omega)]
theorem take_getD (s : List Int) (k j : Nat) (hj : j < k) : (s.take k).getD j 0 = s.getD j 0 := by
  simp only [List.getD_eq_getElem?_getD, List.getElem?_take]
  rw [if_pos hj]
theorem bord_iff {s : List Int} {n k : Nat} (hk : k ≤ n) (hn : n ≤ s.length) : s.take k = (s.take n).drop (n - k) ↔ Per s n (n - k) := by
  constructor
  · intro h i hi
    have h1 : (s.take k).getD i 0 = ((s.take n).drop (n - k)).getD i 0 := congrArg (fun l => l.getD i 0) h
    rw [take_getD _ _ _ (by omega), cut_getD s n (n - k) k i (by omega) (by omega)] at h1
    rw [h1, Nat.add_comm]
  · intro h
    refine getD_ext (by simp; omega) fun i hi => ?_
    have hi' : i < k := by simp at hi; omega
    rw [take_getD _ _ _ hi', cut_getD s n (n - k) k i hi' (by omega), h i (by omega), Nat.add_comm]

theorem bdown_spec (s : List Int) (n : Nat) (hn : n ≤ s.length) : ∀ m, m < n → Bord s n (bdown s n m) ∧ ∀ k, k ≤ m → Bord s n k → k ≤ bdown s n m := by
  intro m
  induction m with
  | zero => intro hm; exact ⟨⟨hm, fun i hi => by simp only [bdown] at hi; omega⟩, fun k hk _ => hk⟩
  | succ m ih =>
    intro hm
    unfold bdown
    by_cases h : s.take (m + 1) = (s.take n).drop (n - (m + 1))
    · rw [if_pos h]
      exact ⟨⟨hm, (bord_iff (by omega) hn).1 h⟩, fun k hk _ => hk⟩
    · rw [if_neg h]
      obtain ⟨h1, h2⟩ := ih (by omega)
      refine ⟨h1, fun k hk hb => ?_⟩
      by_cases hkm : k = m + 1
      · subst hkm
        exact absurd ((bord_iff (by omega) hn).2 hb.2) h
      · exact h2 k (by omega) hb

theorem borI_spec {s : List Int} {n : Nat} (h0 : 0 < n) (hn : n ≤ s.length) : Bor s n (borI s n) := by
  obtain ⟨h1, h2⟩ := bdown_spec s n hn (n - 1) (by omega)
  exact ⟨h1, fun k hk => h2 k (by have := hk.1; omega) hk⟩
theorem borI_eq {s : List Int} {n b : Nat} (hn : n ≤ s.length) (h : Bor s n b) : borI s n = b := by
  have h1 := borI_spec (s := s) (n := n) (by have := h.1.1; omega) hn
  have := h1.2 b h.1
  have := h.2 _ h1.1
  omega
theorem borI_lt {s : List Int} {n : Nat} (h0 : 0 < n) (hn : n ≤ s.length) : borI s n < n := (borI_spec h0 hn).1.1

/-- What the search for the next border keeps. -/
def Srch (s : List Int) (i n : Nat) : Prop := Bord s i n ∧ ∀ k, n < k → Bord s i k → s.getD k 0 ≠ s.getD i 0

theorem Srch.start {s : List Int} {i : Nat} (h0 : 0 < i) (hi : i ≤ s.length) : Srch s i (borI s i) := by
  have h := borI_spec h0 hi
  exact ⟨h.1, fun k hk hb => by have := h.2 k hb; omega⟩
theorem Bord.trans {s : List Int} {i n m : Nat} (h : Bord s i n) (k : Bord s n m) : Bord s i m := by
  obtain ⟨h1, h2⟩ := h
  obtain ⟨k1, k2⟩ := k
  refine ⟨by omega, fun j hj => ?_⟩
  rw [k2 j (by omega), h2 (j + (n - m)) (by omega)]
  congr 1
  omega
theorem Bord.inner {s : List Int} {i n m : Nat} (h : Bord s i n) (k : Bord s i m) (hm : m < n) : Bord s n m := by
  obtain ⟨h1, h2⟩ := h
  obtain ⟨k1, k2⟩ := k
  refine ⟨hm, fun j hj => ?_⟩
  rw [k2 j (by omega), h2 (j + (n - m)) (by omega)]
  congr 1
  omega
theorem Srch.down {s : List Int} {i n : Nat} (hi : i ≤ s.length) (h : Srch s i n) (h0 : 0 < n) (hne : s.getD n 0 ≠ s.getD i 0) : Srch s i (borI s n) := by
  have hn : n < i := h.1.1
  have hb := borI_spec (s := s) h0 (by omega)
  refine ⟨h.1.trans hb.1, fun k hk hk2 => ?_⟩
  by_cases h1 : k = n
  · subst h1; exact hne
  · by_cases h2 : n < k
    · exact h.2 k h2 hk2
    · have := hb.2 k (h.1.inner hk2 (by omega))
      omega
theorem Bord.longer {s : List Int} {i n : Nat} (h : Bord s i n) (he : s.getD n 0 = s.getD i 0) : Bord s (i + 1) (n + 1) := by
  obtain ⟨h1, h2⟩ := h
  refine ⟨by omega, fun j hj => ?_⟩
  by_cases hjn : j = n
  · subst hjn
    rw [he]
    congr 1
    omega
  · rw [h2 j (by omega)]
    congr 1
    omega
theorem Bord.shorter {s : List Int} {i n : Nat} (h : Bord s (i + 1) (n + 1)) : Bord s i n ∧ s.getD n 0 = s.getD i 0 := by
  obtain ⟨h1, h2⟩ := h
  refine ⟨⟨by omega, fun j hj => ?_⟩, ?_⟩
  · rw [h2 j (by omega)]
    congr 1
    omega
  · rw [h2 n (by omega)]
    congr 1
    omega
theorem Srch.found {s : List Int} {i n : Nat} (hi : i < s.length) (h : Srch s i n) (he : s.getD n 0 = s.getD i 0) : borI s (i + 1) = n + 1 := by
  refine borI_eq (by omega) ⟨h.1.longer he, fun k hk => ?_⟩
  cases k with
  | zero => omega
  | succ k =>
    obtain ⟨h1, h2⟩ := hk.shorter
    by_cases hkn : n < k
    · exact absurd h2 (h.2 k hkn h1)
    · omega
theorem Srch.none {s : List Int} {i : Nat} (hi : i < s.length) (h : Srch s i 0) (he : s.getD 0 0 ≠ s.getD i 0) : borI s (i + 1) = 0 := by
  refine borI_eq (by omega) ⟨⟨by omega, fun j hj => by omega⟩, fun k hk => ?_⟩
  cases k with
  | zero => omega
  | succ k =>
    obtain ⟨h1, h2⟩ := hk.shorter
    by_cases hkn : k = 0
    · subst hkn; exact absurd h2 he
    · exact absurd h2 (h.2 k (by omega) h1)

/-- All borders. -/
def borsL (s : List Int) : List Int := (List.range s.length).map fun i => (borI s (i + 1) : Int)
theorem borsL_len (s : List Int) : (borsL s).length = s.length := by simp [borsL]
theorem borsL_at {s : List Int} {i : Nat} (hi : i < s.length) : (borsL s).getD i 0 = (borI s (i + 1) : Int) := by
  simp [borsL, List.getD, List.getElem?_eq_getElem, hi]

/-- The least period. -/
def leastI (s : List Int) : Nat := s.length - borI s s.length
theorem leastI_spec {s : List Int} (h : 0 < s.length) : 1 ≤ leastI s ∧ leastI s ≤ s.length ∧ Per s s.length (leastI s) ∧ ∀ d, 1 ≤ d → Per s s.length d → leastI s ≤ d := by
  obtain ⟨h1, h2⟩ := borI_spec (s := s) h (Nat.le_refl _)
  have := h1.1
  unfold leastI
  refine ⟨by omega, by omega, h1.2, fun d hd hp => ?_⟩
  by_cases hdl : d ≤ s.length
  · have := h2 (s.length - d) ⟨by omega, by rwa [show s.length - (s.length - d) = d by omega]⟩
    omega
  · omega
theorem leastI_eq {s : List Int} {p : Nat} (h : 0 < s.length) (h1 : 1 ≤ p) (h2 : Per s s.length p) (h3 : ∀ d, 1 ≤ d → d < p → ¬ Per s s.length d) : leastI s = p := by
  obtain ⟨a1, a2, a3, a4⟩ := leastI_spec h
  have := a4 p h1 h2
  by_cases hlt : leastI s < p
  · exact absurd a3 (h3 _ a1 hlt)
  · omega

theorem Per.sub {s : List Int} {n p q : Nat} (hp : Per s n p) (hq : Per s n q) (h : p + q ≤ n) (hle : p ≤ q) : Per s n (q - p) := by
  intro i hi
  by_cases hiq : i + q < n
  · rw [hq i hiq]
    have := hp (i + (q - p)) (by omega)
    rw [this]
    congr 1
    omega
  · have h1 := hp (i - p) (by omega)
    have h2 := hq (i - p) (by omega)
    rw [show i - p + p = i by omega] at h1
    rw [show i - p + q = i + (q - p) by omega] at h2
    rw [← h1, h2]
theorem Per.gcd {s : List Int} {n : Nat} : ∀ (m p q : Nat), p + q ≤ m → p + q ≤ n → Per s n p → Per s n q → Per s n (Nat.gcd p q) := by
  intro m
  induction m with
  | zero =>
    intro p q h _ hp _
    have e1 : p = 0 := by omega
    have e2 : q = 0 := by omega
    subst e1 e2
    exact hp
  | succ m ih =>
    intro p q h hn hp hq
    by_cases h1 : p = 0
    · subst h1; rw [Nat.gcd_zero_left]; exact hq
    by_cases h2 : q = 0
    · subst h2; rw [Nat.gcd_zero_right]; exact hp
    by_cases hle : p ≤ q
    · have := ih p (q - p) (by omega) (by omega) hp (hp.sub hq hn hle)
      rwa [Nat.gcd_sub_self_right hle] at this
    · have := ih (p - q) q (by omega) (by omega) (hq.sub hp (by omega) (by omega)) hq
      rwa [Nat.gcd_sub_self_left (by omega)] at this
theorem Per.mod {s : List Int} {n d : Nat} (h : Per s n d) (hd : 0 < d) (i : Nat) (hi : i < n) : s.getD i 0 = s.getD (i % d) 0 := by
  induction i using Nat.strongRecOn with
  | ind i ih =>
    by_cases hlt : i < d
    · rw [Nat.mod_eq_of_lt hlt]
    · have h1 := h (i - d) (by omega)
      rw [show i - d + d = i by omega] at h1
      rw [← h1, ih (i - d) (by omega) (by omega)]
      congr 1
      exact (Nat.mod_eq_sub_mod (by omega)).symm
theorem Per.ofMod {s : List Int} {n d : Nat} (h : ∀ i, i < n → s.getD i 0 = s.getD (i % d) 0) : Per s n d := by
  intro i hi
  rw [h i (by omega), h (i + d) hi, Nat.add_mod_right]

/-- How long the root is. -/
def rootN (s : List Int) : Nat := if s.length % leastI s = 0 then leastI s else s.length
theorem rootN_spec {s : List Int} (h : 0 < s.length) : 1 ≤ rootN s ∧ rootN s ≤ s.length ∧ rootN s ∣ s.length ∧ Per s s.length (rootN s) ∧ ∀ d, 1 ≤ d → d ∣ s.length → Per s s.length d → rootN s ≤ d := by
  obtain ⟨a1, a2, a3, a4⟩ := leastI_spec h
  have base : 1 ≤ rootN s ∧ rootN s ≤ s.length ∧ rootN s ∣ s.length ∧ Per s s.length (rootN s) := by
    unfold rootN
    by_cases hm : s.length % leastI s = 0
    · rw [if_pos hm]
      exact ⟨a1, a2, Nat.dvd_of_mod_eq_zero hm, a3⟩
    · rw [if_neg hm]
      exact ⟨h, Nat.le_refl _, Nat.dvd_refl _, fun i hi => by omega⟩
  refine ⟨base.1, base.2.1, base.2.2.1, base.2.2.2, fun d hd hdv hp => ?_⟩
  have hpd := a4 d hd hp
  by_cases hdl : d = s.length
  · rw [hdl]; exact base.2.1
  · obtain ⟨c, hc⟩ := hdv
    have h2 : 2 * d ≤ s.length := by
      have hc0 : c ≠ 0 := fun e => by rw [e] at hc; omega
      have hc1 : c ≠ 1 := fun e => by rw [e] at hc; omega
      have : d * 2 ≤ d * c := Nat.mul_le_mul_left d (by omega)
      omega
    have hg := Per.gcd _ _ _ (Nat.le_refl _) (show leastI s + d ≤ s.length by omega) a3 hp
    have hgp : 0 < Nat.gcd (leastI s) d := Nat.gcd_pos_of_pos_left _ (by omega)
    have hge := a4 _ hgp hg
    have hgl : Nat.gcd (leastI s) d ≤ leastI s := Nat.le_of_dvd (by omega) (Nat.gcd_dvd_left _ _)
    have hgg : Nat.gcd (leastI s) d = leastI s := by omega
    have hdd : leastI s ∣ d := by rw [← hgg]; exact Nat.gcd_dvd_right _ _
    have hsl : leastI s ∣ s.length := by rw [hc]; exact Nat.dvd_mul_right_of_dvd hdd c
    have : rootN s = leastI s := by unfold rootN; rw [if_pos (Nat.mod_eq_zero_of_dvd hsl)]
    omega

/-- A row so many times has its root. -/
theorem rootN_rep {s : List Int} {n : Nat} (h : 0 < s.length) (hn : 0 < n) : rootN (repI s n) = rootN s := by
  obtain ⟨a1, a2, a3, a4, a5⟩ := rootN_spec h
  have hL := repI_len s n
  have hN : 0 < n * s.length := Nat.mul_pos hn h
  have hle : s.length ≤ n * s.length := Nat.le_mul_of_pos_left _ hn
  obtain ⟨b1, b2, b3, b4, b5⟩ := rootN_spec (s := repI s n) (by omega)
  have hp : Per (repI s n) (repI s n).length (rootN s) := by
    refine Per.ofMod fun i hi => ?_
    have hm1 : i % s.length < s.length := Nat.mod_lt _ h
    have hm2 : i % rootN s < rootN s := Nat.mod_lt _ a1
    rw [repI_at _ _ _ (by omega), repI_at _ _ _ (by omega), a4.mod a1 _ hm1, Nat.mod_mod_of_dvd _ a3, Nat.mod_eq_of_lt (show i % rootN s < s.length by omega)]
  have hdv : rootN s ∣ (repI s n).length := by rw [hL]; exact Nat.dvd_mul_left_of_dvd a3 n
  have hq := b5 _ a1 hdv hp
  by_cases h1 : n = 1
  · subst h1
    have : repI s 1 = s := by simp [repI]
    rw [this]
  · by_cases hql : rootN (repI s n) = (repI s n).length
    · omega
    · have e2 : 2 * s.length ≤ n * s.length := Nat.mul_le_mul_right _ (by omega)
      have hqq : 2 * rootN (repI s n) ≤ (repI s n).length := by
        obtain ⟨c, hc⟩ := b3
        have hc0 : c ≠ 0 := fun e => by rw [e] at hc; omega
        have hc1 : c ≠ 1 := fun e => by rw [e] at hc; omega
        have : rootN (repI s n) * 2 ≤ rootN (repI s n) * c := Nat.mul_le_mul_left _ (by omega)
        omega
      have hg := Per.gcd _ _ _ (Nat.le_refl _) (show rootN s + rootN (repI s n) ≤ (repI s n).length by omega) hp b4
      have hgp : 0 < Nat.gcd (rootN s) (rootN (repI s n)) := Nat.gcd_pos_of_pos_left _ (by omega)
      have hgs : Per s s.length (Nat.gcd (rootN s) (rootN (repI s n))) := by
        intro i hi
        have := hg i (by omega)
        rw [repI_at _ _ _ (by omega), repI_at _ _ _ (by omega), Nat.mod_eq_of_lt (by omega), Nat.mod_eq_of_lt hi] at this
        exact this
      have hge := a5 _ hgp (Nat.dvd_trans (Nat.gcd_dvd_left _ _) a3) hgs
      have hgl : Nat.gcd (rootN s) (rootN (repI s n)) ≤ rootN (repI s n) := Nat.le_of_dvd (by omega) (Nat.gcd_dvd_right _ _)
      omega
theorem root_rep {s : List Int} {n : Nat} (h : 0 < s.length) (hn : 0 < n) : (repI s n).take (rootN (repI s n)) = s.take (rootN s) := by
  rw [rootN_rep h hn]
  obtain ⟨a1, a2, _⟩ := rootN_spec h
  cases n with
  | zero => omega
  | succ n => rw [repI_cons, List.take_append_of_le_length a2]

/-- A root has none but itself. -/
theorem rootN_root {s : List Int} (h : 0 < s.length) : rootN (s.take (rootN s)) = rootN s := by
  obtain ⟨a1, a2, a3, a4, a5⟩ := rootN_spec h
  have hl : (s.take (rootN s)).length = rootN s := by rw [List.length_take]; omega
  obtain ⟨b1, b2, b3, b4, _⟩ := rootN_spec (s := s.take (rootN s)) (by omega)
  rw [hl] at b2 b3 b4
  have hp : Per s s.length (rootN (s.take (rootN s))) := by
    refine Per.ofMod fun i hi => ?_
    have hm1 : i % rootN s < rootN s := Nat.mod_lt _ a1
    have h1 := b4.mod b1 (i % rootN s) hm1
    have hm2 : i % rootN s % rootN (s.take (rootN s)) < rootN (s.take (rootN s)) := Nat.mod_lt _ b1
    rw [take_getD _ _ _ hm1, take_getD _ _ _ (by omega), Nat.mod_mod_of_dvd _ b3] at h1
    rw [a4.mod a1 i hi, h1]
  have := a5 _ b1 (Nat.dvd_trans b3 a3) hp
  omega
theorem rootN_nil : rootN [] = 0 := by unfold rootN leastI; simp
end Go.Proofs.Ytjccpkekhjhafaa
