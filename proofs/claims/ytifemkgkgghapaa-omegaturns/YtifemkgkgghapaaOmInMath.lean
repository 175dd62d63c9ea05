/- What omega.inOrder keeps from round to round. Plain numbers, no conditions. -/
import Derived.Test.YtifemkgkgghapaaRkMath
namespace Go.Proofs.Ytifemkgkgghapaa
set_option linter.unusedVariables false
set_option linter.unusedSimpArgs false

def thL (rs as : List Nat) : List Nat := as.map fun p => rs.getD p 0
def ordL (M : Nat) (rs as : List Nat) : List Nat := csort (max 256 M) (csort (max 256 M) (List.range M) fun p => (thL rs as).getD p 0) fun p => rs.getD p 0
abbrev clsL (M : Nat) (rs as : List Nat) (i : Nat) : Nat := cls (ordL M rs as) (fun p => rs.getD p 0) (fun p => (thL rs as).getD p 0) i
abbrev numL (M : Nat) (rs as : List Nat) : Nat := clsT (ordL M rs as) (fun p => rs.getD p 0) (fun p => (thL rs as).getD p 0) M

structure InO (M : Nat) (b : Nat → Int) (nx : Nat → Nat) (num : Nat) (rs as : List Nat) : Prop where
  lr : rs.length = M
  la : as.length = M
  cl : ∀ p, p < M → nx p < M
  ex : ∃ L, 0 < L ∧ (∀ p, p < M → as.getD p 0 = itN nx L p) ∧ Rk M b nx L fun p => rs.getD p 0
  bd : ∀ p, p < M → rs.getD p 0 < max 256 M
  dn : num = 0 ∨ ((∀ p, p < M → rs.getD p 0 < num) ∧ ∀ r, r < num → ∃ p, p < M ∧ rs.getD p 0 = r)

section
variable {M num : Nat} {b : Nat → Int} {nx : Nat → Nat} {rs as : List Nat}

theorem mapN_at {l : List Nat} {f : Nat → Nat} {p : Nat} (h : p < l.length) : (l.map f).getD p 0 = f (l.getD p 0) := by
  simp [List.getD, List.getElem?_eq_getElem h]
theorem InO.asLt (h : InO M b nx num rs as) {p : Nat} (hp : p < M) : as.getD p 0 < M := by
  obtain ⟨L, _, h1, _⟩ := h.ex
  rw [h1 p hp]
  exact itN_lt h.cl L p hp
theorem InO.asIn (h : InO M b nx num rs as) : ∀ p ∈ as, p < M := fun p hp => by
  obtain ⟨i, hi, rfl⟩ := mem_getN hp
  exact h.asLt (by rw [h.la] at hi; exact hi)
theorem InO.thLen (h : InO M b nx num rs as) : (thL rs as).length = M := by unfold thL; rw [List.length_map, h.la]
theorem InO.thAt (h : InO M b nx num rs as) {p : Nat} (hp : p < M) : (thL rs as).getD p 0 = rs.getD (as.getD p 0) 0 := by
  unfold thL; rw [mapN_at (by rw [h.la]; exact hp)]
theorem InO.thBd (h : InO M b nx num rs as) : ∀ p, p < M → (thL rs as).getD p 0 < max 256 M := fun p hp => by
  rw [h.thAt hp]; exact h.bd _ (h.asLt hp)
theorem InO.perm1 (h : InO M b nx num rs as) : (csort (max 256 M) (List.range M) fun p => (thL rs as).getD p 0).Perm (List.range M) :=
  csort_perm fun p hp => h.thBd p (List.mem_range.1 hp)
theorem InO.perm (h : InO M b nx num rs as) : (ordL M rs as).Perm (List.range M) :=
  (csort_perm fun p hp => h.bd p (List.mem_range.1 (h.perm1.mem_iff.1 hp))).trans h.perm1
theorem InO.sorted (h : InO M b nx num rs as) : (ordL M rs as).Pairwise fun p q => rs.getD p 0 < rs.getD q 0 ∨ (rs.getD p 0 = rs.getD q 0 ∧ ((thL rs as).getD p 0 < (thL rs as).getD q 0 ∨ ((thL rs as).getD p 0 = (thL rs as).getD q 0 ∧ p < q))) :=
  csort_sorted _ _ (csort_sorted _ _ List.pairwise_lt_range)
theorem InO.sorted2 (h : InO M b nx num rs as) : (ordL M rs as).Pairwise fun p q => ¬ Lt2 (fun p => rs.getD p 0) (fun p => (thL rs as).getD p 0) q p := by
  refine h.sorted.imp ?_
  intro p q hpq
  simp only [Lt2]
  omega
theorem InO.lt2 (h : InO M b nx num rs as) {L : Nat} (h1 : ∀ p, p < M → as.getD p 0 = itN nx L p) {p q : Nat} (hp : p < M) (hq : q < M) :
    Lt2 (fun p => rs.getD p 0) (fun p => (thL rs as).getD p 0) p q ↔ Lt2 (fun p => rs.getD p 0) (fun p => (fun p => rs.getD p 0) (itN nx L p)) p q := by
  simp only [Lt2]
  rw [h.thAt hp, h.thAt hq, h1 p hp, h1 q hq]

/-- No more were parted: it is in order. -/
theorem InO.stop (h : InO M b nx num rs as) {bs : List Nat} (hb : ∀ i, i < M → bs.getD ((ordL M rs as).getD i 0) 0 = clsL M rs as i) (he : numL M rs as = num) : (ordL M rs as).Pairwise (RR b nx) := by
  obtain ⟨L, hL, h1, hR⟩ := h.ex
  rcases h.dn with h0 | ⟨hlt, hon⟩
  · have hM : M = 0 := by
      cases M with
      | zero => rfl
      | succ M => exfalso; rw [h0] at he; simp [numL, clsT] at he
    have hl : (ordL M rs as).length = 0 := by rw [h.perm.length_eq, List.length_range, hM]
    rw [List.length_eq_zero_iff.1 hl]
    exact List.Pairwise.nil
  · have hi := rank_iff (rk := fun p => bs.getD p 0) h.perm h.sorted2 hb
    obtain ⟨d1, d2⟩ := rank_dense (rk := fun p => bs.getD p 0) h.perm hb
    have hsame := dense_same (M := M) (n := num) (a := fun p => rs.getD p 0) (b := fun p => bs.getD p 0) hon hlt (fun p hp => by rw [← he]; exact d1 p hp)
      (fun p q hp hq hpq => (hi p q hp hq).2 (.inl hpq))
    have hs : ∀ p q, p < M → q < M → rs.getD p 0 = rs.getD q 0 → rs.getD (itN nx L p) 0 = rs.getD (itN nx L q) 0 := fun p q hp hq e => by
      have e2 : bs.getD p 0 = bs.getD q 0 := by rw [hsame p hp, hsame q hq]; exact e
      have n1 : ¬ Lt2 (fun p => rs.getD p 0) (fun p => (thL rs as).getD p 0) p q := fun hh => by have := (hi p q hp hq).2 hh; omega
      have n2 : ¬ Lt2 (fun p => rs.getD p 0) (fun p => (thL rs as).getD p 0) q p := fun hh => by have := (hi q p hq hp).2 hh; omega
      simp only [Lt2] at n1 n2
      rw [h.thAt hp, h.thAt hq, h1 p hp, h1 q hq] at n1 n2
      omega
    refine List.Pairwise.imp_of_mem ?_ h.sorted
    intro p q hp hq hpq
    have hp' := List.mem_range.1 (h.perm.mem_iff.1 hp)
    have hq' := List.mem_range.1 (h.perm.mem_iff.1 hq)
    rw [h.thAt hp', h.thAt hq', h1 p hp', h1 q hq'] at hpq
    exact hR.order hL h.cl hs hp' hq' hpq

theorem numL_le (M : Nat) (rs as : List Nat) : numL M rs as ≤ M := by
  cases M with
  | zero => exact Nat.le_refl _
  | succ M => have := cls_le (ordL (M + 1) rs as) (fun p => rs.getD p 0) (fun p => (thL rs as).getD p 0) M; show cls _ _ _ _ + 1 ≤ _; omega

/-- Some were: on with twice as many. -/
theorem InO.next (h : InO M b nx num rs as) {bs : List Nat} (hl : bs.length = M) (hb : ∀ i, i < M → bs.getD ((ordL M rs as).getD i 0) 0 = clsL M rs as i) (he : numL M rs as ≠ num) : InO M b nx (numL M rs as) bs (thL as as) ∧ num < numL M rs as := by
  obtain ⟨L, hL, h1, hR⟩ := h.ex
  have hi := rank_iff (rk := fun p => bs.getD p 0) h.perm h.sorted2 hb
  obtain ⟨d1, d2⟩ := rank_dense (rk := fun p => bs.getD p 0) h.perm hb
  have hn := numL_le M rs as
  refine ⟨⟨hl, ?_, h.cl, ⟨L + L, by omega, fun p hp => ?_, fun p q hp hq => ?_⟩, fun p hp => ?_, .inr ⟨d1, d2⟩⟩, ?_⟩
  · unfold thL; rw [List.length_map, h.la]
  · unfold thL
    rw [mapN_at (by rw [h.la]; exact hp), h1 _ (h.asLt hp), h1 p hp, itN_add]
  · rw [hi p q hp hq, h.lt2 h1 hp hq]
    exact hR.twice h.cl hp hq
  · have := d1 p hp
    have h2 : clsT (ordL M rs as) (fun p => rs.getD p 0) (fun p => (thL rs as).getD p 0) M ≤ M := hn
    omega
  · rcases h.dn with h0 | ⟨hlt, hon⟩
    · omega
    · have := dense_more (M := M) (n := num) (m := numL M rs as) (a := fun p => rs.getD p 0) (b := fun p => bs.getD p 0) hon d1 (fun p q hp hq hpq => (hi p q hp hq).2 (.inl hpq))
      omega

theorem InO.start {M : Nat} {b : Nat → Int} {nx : Nat → Nat} {rs as : List Nat} (lr : rs.length = M) (la : as.length = M) (hnx : ∀ p, p < M → nx p < M) (hr : ∀ p, p < M → b p = (rs.getD p 0 : Nat)) (hb : ∀ p, p < M → rs.getD p 0 < 256) (ha : ∀ p, p < M → as.getD p 0 = nx p) : InO M b nx 0 rs as :=
  ⟨lr, la, hnx, ⟨1, by omega, fun p hp => by rw [ha p hp]; rfl, Rk.start hr⟩, fun p hp => by have := hb p hp; omega, .inl rfl⟩
end
end Go.Proofs.Ytifemkgkgghapaa
