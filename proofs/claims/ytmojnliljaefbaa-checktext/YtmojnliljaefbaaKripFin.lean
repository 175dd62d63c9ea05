/- Appends one within the other in a region that draws its order: 'append(append(append([]T{}, a...), x), b...)'. Whatever is written into a new row is what it is at last. Over any program; no conditions. -/
import Derived.Test.YtmojnliljaefbaaKripR
import Derived.Test.YtmojnliljaefbaaKripApp
import Derived.Test.YtmojnliljaefbaaBut
import Derived.Laws.OwnMore
import Derived.Laws.AppendOwnNone
namespace Go.Proofs.Ytmojnliljaefbaa
set_option linter.unusedVariables false
set_option linter.unusedSimpArgs false
open Go.RowKit

/-- All that there was is as it was, but that cells of new rows (of e, of more than 'lo' cells) may have become what F has at their places. -/
structure ExtF (B : Nat) (e : TypeId) (F : List Value) (lo : Nat) (w w' : World) : Prop where
  os : w'.os = w.os
  tape : w'.tape = w.tape
  output : w'.output = w.output
  size : w.heap.size ≤ w'.heap.size
  block : ∀ k, k < w.heap.size → w'.heap[k]? = w.heap[k]? ∨ (B ≤ k ∧ ∃ cs cs' : Array Value, w.heap[k]? = some (.cells cs e (0, 0)) ∧ w'.heap[k]? = some (.cells cs' e (0, 0)) ∧ cs'.size = cs.size ∧ lo < cs.size ∧ ∀ i : Nat, cs'[i]? = cs[i]? ∨ cs'[i]? = F[i]?)

section
variable {B : Nat} {e : TypeId} {F : List Value} {lo : Nat} {a b c w w' : World}
theorem ExtF.refl (w : World) : ExtF B e F lo w w := ⟨rfl, rfl, rfl, Nat.le_refl _, fun _ _ => .inl rfl⟩
theorem ExtF.trans (h : ExtF B e F lo a b) (k : ExtF B e F lo b c) : ExtF B e F lo a c := by
  refine ⟨k.os.trans h.os, k.tape.trans h.tape, k.output.trans h.output, Nat.le_trans h.size k.size, fun i hi => ?_⟩
  rcases k.block i (Nat.lt_of_lt_of_le hi h.size) with e1 | ⟨hb, cs, cs', e1, e2, e3, e4, e5⟩
  · rcases h.block i hi with f1 | ⟨hb, ds, ds', f1, f2, f3⟩
    · exact .inl (e1.trans f1)
    · exact .inr ⟨hb, ds, ds', f1, e1.trans f2, f3⟩
  · rcases h.block i hi with f1 | ⟨hb', ds, ds', f1, f2, f3, f4, f5⟩
    · exact .inr ⟨hb, cs, cs', f1 ▸ e1, e2, e3, e4, e5⟩
    · rw [f2] at e1
      simp only [Option.some.injEq, Obj.cells.injEq, and_true] at e1
      subst e1
      refine .inr ⟨hb, ds, cs', f1, e2, by omega, f4, fun j => ?_⟩
      rcases e5 j with g | g
      · rcases f5 j with g' | g'
        · exact .inl (g.trans g')
        · exact .inr (g.trans g')
      · exact .inr g
def frel (B : Nat) (e : TypeId) (F : List Value) (lo : Nat) : KRel := ⟨ExtF B e F lo, ExtF.refl, ExtF.trans, fun w => ⟨rfl, rfl, rfl, Nat.le_refl _, fun _ _ => .inl rfl⟩⟩
theorem ExtF.ofExt (h : Ext w w') : ExtF B e F lo w w' := ⟨h.os, h.tape, h.output, h.size, fun k hk => .inl (h.block k hk)⟩
/-- From a world with B blocks on: all that was there is as it was. -/
theorem ExtF.below (h : ExtF B e F lo w w') (hB : B ≤ w.heap.size) : Below B w w' :=
  ⟨h.os, h.tape, h.output, h.size, fun k hk => by
    rcases h.block k (by omega) with e1 | ⟨hb, _⟩
    · exact e1
    · omega⟩
theorem ExtF.ext (h : ExtF w.heap.size e F lo w w') : Ext w w' := h.below (Nat.le_refl _)

/-- A new row whose first n elements are F's. -/
def OwnF (B : Nat) (e : TypeId) (F : List Value) (sz : Nat) (w : World) (v : Value) (n : Nat) : Prop :=
  ∃ g cap cur, v = .slice (some ⟨g, 0, none⟩) n cap ∧ B ≤ g ∧ w.heap[g]? = some (.cells cur e (0, 0)) ∧ n ≤ cap ∧ cap ≤ maxLen ∧ cur.size = cap * sz ∧ ∀ i : Nat, i < n * sz → cur[i]? = F[i]?
theorem OwnF.up {sz n : Nat} {v : Value} : KR.UpW (frel B e F lo) (fun w => OwnF B e F sz w v n) := by
  rintro w w' he ⟨g, cap, cur, h1, h2, h3, h4, h5, h6, h7⟩
  have hg : g < w.heap.size := (Array.getElem?_eq_some_iff.1 h3).1
  rcases he.block g hg with f1 | ⟨_, cs, cs', f1, f2, f3, f4, f5⟩
  · exact ⟨g, cap, cur, h1, h2, f1.trans h3, h4, h5, h6, h7⟩
  · rw [h3] at f1
    simp only [Option.some.injEq, Obj.cells.injEq, and_true] at f1
    subst f1
    refine ⟨g, cap, cs', h1, h2, f2, h4, h5, by omega, fun i hi => ?_⟩
    rcases f5 i with g | g
    · exact g.trans (h7 i hi)
    · exact g
theorem OwnF.owns {sz n : Nat} {v : Value} (h : OwnF B e F sz w v n) (hF : n * sz ≤ F.length) : w.ownsRow B e sz v n (F.take (n * sz)) := by
  obtain ⟨g, cap, cur, h1, h2, h3, h4, h5, h6, h7⟩ := h
  refine ⟨by rw [List.length_take]; omega, .inr ⟨g, cap, cur, h1, h2, h3, h4, h5, h6, ?_⟩⟩
  refine List.ext_getElem? fun i => ?_
  simp only [List.getElem?_take]
  by_cases hi : i < n * sz
  · rw [if_pos hi, if_pos hi, ← h7 i hi]; simp
  · rw [if_neg hi, if_neg hi]

/-- A literal row that no more is written to: it has no more than 'lo' cells. -/
def LitF (B : Nat) (e : TypeId) (w : World) (v : Value) (n : Nat) (cs : Array Value) : Prop := ∃ g, v = .slice (some ⟨g, 0, none⟩) n n ∧ B ≤ g ∧ w.heap[g]? = some (.cells cs e (0, 0))
theorem LitF.up {v : Value} {n : Nat} {cs : Array Value} (hlo : cs.size ≤ lo) : KR.UpW (frel B e F lo) (fun w => LitF B e w v n cs) := by
  rintro w w' he ⟨g, h1, h2, h3⟩
  have hg : g < w.heap.size := (Array.getElem?_eq_some_iff.1 h3).1
  rcases he.block g hg with f1 | ⟨_, cs1, cs', f1, f2, f3, f4, f5⟩
  · exact ⟨g, h1, h2, f1.trans h3⟩
  · rw [h3] at f1
    simp only [Option.some.injEq, Obj.cells.injEq, and_true] at f1
    subst f1
    omega
theorem LitF.own {v : Value} {sz : Nat} (h : LitF B e w v 0 #[]) : OwnF B e F sz w v 0 := by
  obtain ⟨g, h1, h2, h3⟩ := h
  exact ⟨g, 0, #[], h1, h2, h3, Nat.le_refl _, by simp, by simp, fun i hi => by omega⟩
theorem LitF.news {v : Value} {n : Nat} {cs : Array Value} (h : LitF B e w v n cs) : ∃ ad, v = .slice (some ad) n n ∧ ∀ j u, cs.toList[j]? = some u → w.cell? (ad.add j) = some u := by
  obtain ⟨g, h1, h2, h3⟩ := h
  refine ⟨_, h1, fun j u hj => ?_⟩
  rw [Go.WideShapes.add_plain]
  have : cs[j]? = some u := by simpa using hj
  simp [World.cell?, h3, this]
end

/-- 'append(v, x...)' that makes more of F. -/
theorem append_F {P : Program} {w : World} {B : Nat} {e : TypeId} {F : List Value} {lo sz bytes : Nat} (t ty : TypeId) (z : Value) (ht : P.underlying t = some (.slice e))
    (hinfo : (P.info? e).map (fun i => (i.zero, i.size, i.bytes)) = some (some z, sz, bytes)) (hzs : z.cells.size = sz) (hsz : 0 < sz) (v x : Value) (n m : Nat) (a : Option Addr) (c : Nat) (news : List Value)
    (hv : OwnF B e F sz w v n) (hx : x = .slice a m c) (ha : a = none → c = 0 ∧ m = 0) (hl : news.length = m * sz) (hn : ∀ ad, a = some ad → ∀ j u, news[j]? = some u → w.cell? (ad.add j) = some u) (h1 : ∀ u ∈ news, u.oneCell' = true)
    (hF : ∀ j, j < m * sz → news[j]? = F[n * sz + j]?) (hlo : m = 0 ∨ lo < (n + m) * sz ∨ ∀ a c, v = .slice a n c → c < n + m) (hlen : (n + m) * bytes ≤ 140737488355328 ∧ n + m ≤ maxLen) (hFl : n * sz ≤ F.length) (hB : B ≤ w.heap.size) :
    ∃ u w', (Builtin.append_ #[t, t] ty #[v, x]).run P w = .ok u w' ∧ ExtF B e F lo w w' ∧ OwnF B e F sz w' u (n + m) ∧ ∀ a c, v = .slice a n c → n + m ≤ c → ∃ a', u = .slice a' (n + m) c := by
  obtain ⟨i0, hi, hz0, hz1, hz2⟩ : ∃ i, P.info? e = some i ∧ i.zero = some z ∧ i.size = sz ∧ i.bytes = bytes := by
    cases hi : P.info? e with
    | none => simp [hi] at hinfo
    | some i =>
      simp only [hi, Option.map_some, Option.some.injEq, Prod.mk.injEq] at hinfo
      exact ⟨i, rfl, hinfo.1, hinfo.2.1, hinfo.2.2⟩
  subst hx
  have hown := hv.owns hFl
  cases a with
  | none =>
    obtain ⟨rfl, rfl⟩ := ha rfl
    exact ⟨v, w, run_append_owned_none (P := P) (w := w) B t ty e i0 sz ht hi _ _ _ hown, ExtF.refl _, hv, fun a c hv _ => ⟨a, hv⟩⟩
  | some ad =>
    have hnews := hn ad rfl
    obtain ⟨g, cap, cur, rfl, hBg, hg, hnc, hcm, hcs, hcur⟩ := hv
    have hsmall : n + m ≤ 9223372036854775807 := by have := hlen.2; simp only [maxLen] at this; omega
    have hmul : (n + m) * sz = n * sz + m * sz := Nat.add_mul _ _ _
    by_cases hroom : n + m ≤ cap
    · have hcap : (n + m) * sz ≤ cap * sz := Nat.mul_le_mul_right _ hroom
      have hr := run_append_room (P := P) w t ty e i0 ht hi g n cap cur hg ad m c news (by rw [hz1]; exact hl) hnews h1 hroom (by rw [hz1]; omega)
      rw [hz1] at hr
      have hset := setRow_heap w g cur (cur.toList.take (n * sz) ++ news ++ cur.toList.drop (n * sz + news.length)).toArray e (0, 0) hg
      have hcell : ∀ i : Nat, (cur.toList.take (n * sz) ++ news ++ cur.toList.drop (n * sz + news.length)).toArray[i]? = if i < n * sz then cur[i]? else if i < n * sz + m * sz then F[i]? else cur[i]? := fun i => by
        have htl : (cur.toList.take (n * sz)).length = n * sz := by rw [List.length_take, Array.length_toList]; omega
        simp only [List.getElem?_toArray]
        by_cases g1 : i < n * sz
        · rw [if_pos g1, List.append_assoc, List.getElem?_append_left (by omega), List.getElem?_take, if_pos g1]; simp
        · rw [if_neg g1]
          by_cases g2 : i < n * sz + m * sz
          · rw [if_pos g2, List.getElem?_append_left (by rw [List.length_append]; omega), List.getElem?_append_right (by omega), htl, hF _ (by omega)]
            congr 1; omega
          · rw [if_neg g2, List.getElem?_append_right (by rw [List.length_append]; omega), List.length_append, htl, List.getElem?_drop]
            rw [show n * sz + news.length + (i - (n * sz + news.length)) = i by omega]; simp
      refine ⟨_, _, hr, ?_, ?_, fun a' c' hv _ => ?_⟩
      · refine ⟨rfl, rfl, rfl, by simp [World.setRow], fun j hj => ?_⟩
        by_cases hjg : j = g
        · subst hjg
          by_cases hm : m = 0
          · left
            rw [hset, hg]
            congr 1
            congr 1
            apply Array.ext_getElem?
            intro i
            rw [hcell i]
            subst hm
            split
            · rfl
            · rw [if_neg (by omega)]
          · right
            refine ⟨hBg, cur, _, hg, hset, ?_, ?_, fun i => ?_⟩
            · simp [hl]; omega
            · rcases hlo with h | h | h
              · exact absurd h hm
              · omega
              · have := h _ _ rfl; omega
            · rw [hcell i]
              split
              · exact .inl rfl
              · split
                · exact .inr rfl
                · exact .inl rfl
        · exact .inl (setRow_other w g j _ hjg)
      · refine ⟨g, cap, _, rfl, hBg, hset, hroom, hcm, by simp [hl]; omega, fun i hi2 => ?_⟩
        rw [hcell i]
        split
        · exact hcur i (by assumption)
        · rw [if_pos (by omega)]
      · simp only [Value.slice.injEq, true_and] at hv
        exact ⟨_, by rw [hv.2]⟩
    · have holds : ∀ j u, (F.take (n * sz))[j]? = some u → w.cell? ((⟨g, 0, none⟩ : Addr).add j) = some u := World.ownsRow.cells hown (g := g) rfl
      have hr := run_append_grow (P := P) w t ty e i0 z ht hi hz0 ⟨g, 0, none⟩ n cap (F.take (n * sz)) (by rw [hz1, List.length_take]; omega) holds ad m c news (by rw [hz1]; exact hl) hnews (by omega) (by omega) (by rw [hz2]; exact growslice_fits (by omega) hlen.1)
      have hge := grownCap_ge w (n + m) cap e
      refine ⟨_, _, hr, ExtF.ofExt ⟨rfl, rfl, rfl, by simp, fun j hj => heap_alloc_old w.drew _ hj⟩, ?_, fun a' c' hv h => ?_⟩
      rotate_left
      · simp only [Value.slice.injEq, true_and] at hv
        exact absurd h (by omega)
      refine ⟨w.heap.size, _, _, rfl, hB, heap_alloc_new w.drew _, hge, grownCap_le_maxLen w _ cap e hlen.2, ?_, fun i hi2 => ?_⟩
      · have h3 : (Builtin.zeroCells z.cells (grownCap w (n + m) cap e - (n + m))).size = (grownCap w (n + m) cap e - (n + m)) * sz := by rw [size_zeroCells, hzs]
        simp only [Array.size_append, List.size_toArray, h3, List.length_take, hl]
        rw [Nat.min_eq_left hFl]
        obtain ⟨q, hq⟩ : ∃ q, grownCap w (n + m) cap e = n + m + q := ⟨grownCap w (n + m) cap e - (n + m), by omega⟩
        rw [hq, show n + m + q - (n + m) = q by omega, Nat.add_mul, hmul]
      · have htl : (F.take (n * sz)).length = n * sz := by rw [List.length_take]; omega
        rw [Array.getElem?_append_left (by simp only [Array.size_append, List.size_toArray, htl, hl]; omega)]
        by_cases g1 : i < n * sz
        · rw [Array.getElem?_append_left (by simp only [List.size_toArray, htl]; exact g1)]
          simp only [List.getElem?_toArray, List.getElem?_take, if_pos g1]
        · rw [Array.getElem?_append_right (by simp only [List.size_toArray, htl]; omega)]
          simp only [List.getElem?_toArray, List.size_toArray, htl]
          rw [hF _ (by omega)]
          congr 1; omega
end Go.Proofs.Ytmojnliljaefbaa
