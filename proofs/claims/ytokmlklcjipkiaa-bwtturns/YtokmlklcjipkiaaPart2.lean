/- Texts laid together: KripR, KripApp, KripFin, FinInt, RefOrder, RefBytes, Lit, BwtRef, BwtBackR, RkInv, RkIs, BwOfOp, BwCnt, Tab6, BwTab, BwRows, KinMath, IndMath. -/
import Derived.Test.YtokmlklcjipkiaaPart1
import Derived.Laws.OwnMore
import Derived.Laws.AppendOwnNone
import Derived.OwnWalk
/- As the text Krip, over whatever relation of worlds the operations keep: one walk in the order of the text serves every order. Over any program; no conditions. -/
namespace Go.Proofs.Ytokmlklcjipkiaa
set_option linter.unusedVariables false
set_option linter.unusedSimpArgs false
open Go.RowKit

/-- A relation of worlds that what is known is stable under. -/
structure KRel where
  r : World → World → Prop
  refl : ∀ w, r w w
  trans : ∀ {a b c : World}, r a b → r b c → r a c
  drawn : ∀ w : World, r w { w with drawn := w.drawn + 1 }

namespace KR
def UpW (E : KRel) (G : World → Prop) : Prop := ∀ w w', E.r w w' → G w → G w'

section
variable {E : KRel} {P : Program} {ops : Array Oper} {md : Region.Mode} {S : FuncId → Array Value → Value → World → Prop} {w0 : World} {Q : Act → Facts → Prop}

def kUpon (E : KRel) (P : Program) (S : FuncId → Array Value → Value → World → Prop) (w : World) (R : Value → World → Prop) : Result Next → Prop
  | .ok (.value u) w' => E.r w w' ∧ R u w'
  | .ok .skip w' => E.r w w' ∧ R undef w'
  | .ok (.enter f args) w' => E.r w w' ∧ Calls P f args w' (fun e w'' => ∃ v, e = .returned v ∧ E.r w' w'' ∧ S f args v w'') ∧ (∀ v w'', S f args v w'' → R v w'')
  | _ => False

/-- From w0 on, whatever else has come: the operation yields a value of which R holds. -/
def KY (E : KRel) (P : Program) (ops : Array Oper) (S : FuncId → Array Value → Value → World → Prop) (w0 : World) (o : Oper) (a : Act) (F : Facts) (R : Value → World → Prop) : Prop :=
  (∀ v, UpW E (R v)) ∧
  ((Region.wanted o (yielded ops a.tmps) = true ∧ ∀ w, E.r w0 w → (∀ t ∈ o.looksAt ops, F t w) → kUpon E P S w R ((execOp a.eval o).run P w)) ∨
   (Region.wanted o (yielded ops a.tmps) = false ∧ R = fun v _ => v = undef))

def kStep (E : KRel) (P : Program) (ops : Array Oper) (S : FuncId → Array Value → Value → World → Prop) (w0 : World) (o : Oper) (a : Act) (F : Facts) (K : Act → Facts → Prop) : Prop :=
  ∃ R, KY E P ops S w0 o a F R ∧ ∀ v, (∃ w, E.r w0 w ∧ (∀ t, F t w) ∧ R v w) → K (a.put o.dst v) (F.add o.dst (R v))

def lexK (E : KRel) (P : Program) (ops : Array Oper) (S : FuncId → Array Value → Value → World → Prop) (w0 : World) (Q : Act → Facts → Prop) : List Oper → Act → Facts → Prop
  | [], a, F => Q a F
  | o :: rest, a, F => kStep E P ops S w0 o a F (lexK E P ops S w0 Q rest)

def kOp (E : KRel) (P : Program) (ops : Array Oper) (S : FuncId → Array Value → Value → World → Prop) (w0 : World) (i : Nat) (K : Act → Facts → Prop) (a : Act) (F : Facts) : Prop :=
  match ops[i]? with
  | none => K a F
  | some o => kStep E P ops S w0 o a F K

def anyK (E : KRel) (P : Program) (md : Region.Mode) (ops : Array Oper) (S : FuncId → Array Value → Value → World → Prop) (w0 : World) (Q : Act → Facts → Prop) : Nat → Array Bool → Act → Facts → Prop
  | 0, listed, a, F => Region.ready md ops listed = [] ∧ Q a F
  | fuel + 1, listed, a, F =>
    (Region.ready md ops listed = [] → Q a F) ∧
    ∀ i ∈ Region.ready md ops listed, kOp E P ops S w0 i (anyK E P md ops S w0 Q fuel (listed.setIfInBounds i true)) a F

theorem KY.anti {o : Oper} {a : Act} {F F' : Facts} (h : ∀ t w, F' t w → F t w) {R : Value → World → Prop} (hy : KY E P ops S w0 o a F R) : KY E P ops S w0 o a F' R := by
  refine ⟨hy.1, ?_⟩
  rcases hy.2 with ⟨hw, hk⟩ | hn
  · exact .inl ⟨hw, fun w he hf => hk w he fun t ht => h t w (hf t ht)⟩
  · exact .inr hn

theorem kStep_anti {o : Oper} {a : Act} {F F' : Facts} {K K' : Act → Facts → Prop} (hK : ∀ a F F', (∀ t w, F' t w → F t w) → K a F → K' a F') (h : ∀ t w, F' t w → F t w)
    (hh : kStep E P ops S w0 o a F K) : kStep E P ops S w0 o a F' K' := by
  obtain ⟨R, hy, hn⟩ := hh
  exact ⟨R, hy.anti h, fun v ⟨w, he, hf, hr⟩ => hK _ _ _ (Facts.add_anti h (fun _ x => x) _) (hn v ⟨w, he, fun t => h t w (hf t), hr⟩)⟩

theorem kOp_anti {i : Nat} {a : Act} {F F' : Facts} {K K' : Act → Facts → Prop} (hK : ∀ a F F', (∀ t w, F' t w → F t w) → K a F → K' a F') (h : ∀ t w, F' t w → F t w)
    (hh : kOp E P ops S w0 i K a F) : kOp E P ops S w0 i K' a F' := by
  unfold kOp at *
  cases ho : ops[i]? with
  | none => simp only [ho] at hh ⊢; exact hK _ _ _ h hh
  | some o => simp only [ho] at hh ⊢; exact kStep_anti hK h hh

theorem anyK_anti (hQ : ∀ a F F', (∀ t w, F' t w → F t w) → Q a F → Q a F') : ∀ (fuel : Nat) (listed : Array Bool) (a : Act) (F F' : Facts), (∀ t w, F' t w → F t w) →
    anyK E P md ops S w0 Q fuel listed a F → anyK E P md ops S w0 Q fuel listed a F'
  | 0, _, _, _, _, h, hh => ⟨hh.1, hQ _ _ _ h hh.2⟩
  | fuel + 1, _, _, _, _, h, hh => ⟨fun e => hQ _ _ _ h (hh.1 e), fun i hi => kOp_anti (fun a F F' h => anyK_anti hQ fuel _ a F F' h) h (hh.2 i hi)⟩

theorem wpAny_of_anyK {Q' : Exit → Act → World → Prop} (hQ : ∀ a F w, E.r w0 w → (∀ t, F t w) → Q a F → Q' .normal a w) : ∀ (fuel : Nat) (listed : Array Bool) (a : Act) (F : Facts) (w : World),
    E.r w0 w → (∀ t, UpW E (F t)) → (∀ t, F t w) → anyK E P md ops S w0 Q fuel listed a F → wpAny P md ops Q' fuel listed a w
  | 0, _, _, _, _, he, _, hf, h => ⟨h.1, hQ _ _ _ he hf h.2⟩
  | fuel + 1, listed, a, F, w, he, hup, hf, h => by
    refine ⟨fun e => hQ _ _ _ he hf (h.1 e), fun i hi => ?_⟩
    have h1 := h.2 i hi
    unfold kOp at h1
    unfold wpOp
    cases ho : ops[i]? with
    | none => simp only [ho] at h1 ⊢; exact wpAny_of_anyK hQ fuel _ _ _ _ he hup hf h1
    | some o =>
      simp only [ho] at h1 ⊢
      obtain ⟨R, ⟨hR, hy⟩, hn⟩ := h1
      have go : ∀ v w', E.r w w' → R v w' → wpAny P md ops Q' fuel (listed.setIfInBounds i true) (a.put o.dst v) w' := fun v w' hx hr =>
        wpAny_of_anyK hQ fuel _ _ _ _ (E.trans he hx) (fun t w1 w2 h12 hh => ⟨hup t w1 w2 h12 hh.1, fun e => hR v w1 w2 h12 (hh.2 e)⟩) (fun t => ⟨hup t w w' hx (hf t), fun _ => hr⟩)
          (hn v ⟨w', E.trans he hx, fun t => hup t w w' hx (hf t), hr⟩)
      rcases hy with ⟨hw, hk⟩ | ⟨hw, rfl⟩
      · rw [if_pos hw]
        refine .inl ?_
        have h2 := hk w he fun t _ => hf t
        unfold Oper.wp
        generalize (execOp a.eval o).run P w = r at *
        cases r with
        | ok n w' =>
          cases n <;> simp only [kUpon] at h2 <;> simp only [Oper.upon]
          case value u => exact go _ _ h2.1 h2.2
          case skip => exact go _ _ h2.1 h2.2
          case enter f args =>
            obtain ⟨h3, h4, h5⟩ := h2
            exact h4.mono fun e w'' ⟨v, hv, h6, h7⟩ => by subst hv; exact go _ _ (E.trans h3 h6) (h5 _ _ h7)
        | halt x w' => simp only [kUpon] at h2
      · rw [if_neg (by rw [hw]; exact Bool.false_ne_true)]
        exact go _ _ (E.refl _) rfl

theorem kUpon_all {ι : Type} (i0 : ι) {w : World} {R : ι → Value → World → Prop} {r : Result Next} (h : ∀ i, kUpon E P S w (R i) r) : kUpon E P S w (fun v w' => ∀ i, R i v w') r := by
  cases r with
  | halt x w' => exact (h i0).elim
  | ok n w' =>
    cases n with
    | value u => exact ⟨(h i0).1, fun i => (h i).2⟩
    | skip => exact ⟨(h i0).1, fun i => (h i).2⟩
    | enter f args => exact ⟨(h i0).1, (h i0).2.1, fun v w'' hs i => (h i).2.2 v w'' hs⟩
    | _ => exact (h i0).elim

theorem KY.of_same {o : Oper} {a a' : Act} {F F' : Facts} {R : Value → World → Prop} (hy : KY E P ops S w0 o a F R) (hF : ∀ w, ∀ t ∈ o.looksAt ops, F' t w → F t w) (he : execOp a'.eval o = execOp a.eval o)
    (hw : Region.wanted o (yielded ops a'.tmps) = Region.wanted o (yielded ops a.tmps)) : KY E P ops S w0 o a' F' R := by
  refine ⟨hy.1, ?_⟩
  rw [he, hw]
  rcases hy.2 with ⟨h1, h2⟩ | h1
  · exact .inl ⟨h1, fun w hx hf => h2 w hx fun t ht => hF w t ht (hf t ht)⟩
  · exact .inr h1

/-- In a world where all facts hold the operation yields some value. -/
theorem KY.some {o : Oper} {a : Act} {F : Facts} {R : Value → World → Prop} (hy : KY E P ops S w0 o a F R) (hup : ∀ t, UpW E (F t)) {w : World} (he : E.r w0 w) (hf : ∀ t, F t w) : ∃ v w', E.r w0 w' ∧ (∀ t, F t w') ∧ R v w' := by
  rcases hy.2 with ⟨_, h2⟩ | ⟨_, rfl⟩
  · have h3 := h2 w he fun t _ => hf t
    generalize (execOp a.eval o).run P w = r at *
    cases r with
    | halt x w' => exact h3.elim
    | ok n w' =>
      cases n with
      | value u => exact ⟨u, w', E.trans he h3.1, fun t => hup t _ _ h3.1 (hf t), h3.2⟩
      | skip => exact ⟨undef, w', E.trans he h3.1, fun t => hup t _ _ h3.1 (hf t), h3.2⟩
      | enter f args =>
        obtain ⟨h4, h5, h6⟩ := h3
        obtain ⟨e, w'', _, ⟨v, _, h7, h8⟩, _⟩ := h5 []
        exact ⟨v, w'', E.trans he (E.trans h4 h7), fun t => hup t _ _ (E.trans h4 h7) (hf t), h6 _ _ h8⟩
      | _ => exact h3.elim
  · exact ⟨undef, w, he, hf, rfl⟩

theorem anyK_first (hQ : ∀ a F F', (∀ t w, F' t w → F t w) → Q a F → Q a F') {i : Nat} {oi : Oper} (hi : ops[i]? = some oi) (hsel : ∀ (j : Nat) (o : Oper) cs b, ops[j]? = some o → o.op ≠ .select cs b)
    (hdst : ∀ (j : Nat) (o : Oper), ops[j]? = some o → ∃ d, o.dst = Option.some d) :
    ∀ (fuel : Nat) (listed : Array Bool) (a : Act) (F : Facts) (R : Value → World → Prop),
      (∀ j oj, ops[j]? = some oj → j ≠ i → listed.getD j true = false → (∀ e ∈ oj.after, Region.binds md e = true → e.on ≠ i) → oi.apart ops oj = true) →
      i ∈ Region.ready md ops listed → KY E P ops S w0 oi a F R → (∀ t, UpW E (F t)) → (∃ w, E.r w0 w ∧ ∀ t, F t w) →
      (∀ v, (∃ w, E.r w0 w ∧ (∀ t, F t w) ∧ R v w) → anyK E P md ops S w0 Q fuel (listed.setIfInBounds i true) (a.put oi.dst v) (F.add oi.dst (R v))) →
      anyK E P md ops S w0 Q (fuel + 1) listed a F := by
  intro fuel
  induction fuel with
  | zero =>
    intro listed a F R _ hr hy hup ⟨w, hw, hf⟩ H
    refine ⟨fun h => (by rw [h] at hr; cases hr), fun j hj => ?_⟩
    by_cases hji : j = i
    · subst hji; unfold kOp; simp only [hi]; exact ⟨R, hy, H⟩
    · obtain ⟨v, w', h1, h2, h3⟩ := hy.some hup hw hf
      have := ready_mono hj hji
      rw [(H v ⟨w', h1, h2, h3⟩).1] at this
      cases this
  | succ fuel ih =>
    intro listed a F R hfree hr hy hup ⟨w, hw, hf⟩ H
    refine ⟨fun h => (by rw [h] at hr; cases hr), fun j hj => ?_⟩
    by_cases hji : j = i
    · subst hji; unfold kOp; simp only [hi]; exact ⟨R, hy, H⟩
    · obtain ⟨hjun, oj, hoj, hall⟩ := mem_ready.1 hj
      have hnot : ∀ e ∈ oj.after, Region.binds md e = true → e.on ≠ i := fun e he hb heq => by
        have h1 := hall e he hb
        have h0 := (mem_ready.1 hr).1
        rw [heq] at h1
        rcases Nat.lt_or_ge i listed.size with h' | h'
        · simp [h'] at h0 h1; rw [h0] at h1; cases h1
        · simp [Array.getElem?_eq_none h'] at h1
      have hap := hfree j oj hoj hji hjun hnot
      obtain ⟨p1, p2, p3⟩ := Oper.apart_spec hap
      have hsi : ∀ cs b, oi.op ≠ .select cs b := fun cs b => hsel i oi cs b hi
      have hsj : ∀ cs b, oj.op ≠ .select cs b := fun cs b => hsel j oj cs b hoj
      -- what each value of 'oi' says of 'oj'
      have H1 : ∀ v : { v // ∃ w, E.r w0 w ∧ (∀ t, F t w) ∧ R v w }, kStep E P ops S w0 oj (a.put oi.dst v.1) (F.add oi.dst (R v.1)) (anyK E P md ops S w0 Q fuel ((listed.setIfInBounds i true).setIfInBounds j true)) := fun v => by
        have h1 := (H v.1 v.2).2 j (ready_mono hj hji)
        unfold kOp at h1
        simpa only [hoj] using h1
      obtain ⟨v0, w', e1, e2, e3⟩ := hy.some hup hw hf
      let i0 : { v // ∃ w, E.r w0 w ∧ (∀ t, F t w) ∧ R v w } := ⟨v0, w', e1, e2, e3⟩
      let Rj : { v // ∃ w, E.r w0 w ∧ (∀ t, F t w) ∧ R v w } → Value → World → Prop := fun v => Classical.choose (H1 v)
      have HRj : ∀ v, KY E P ops S w0 oj (a.put oi.dst v.1) (F.add oi.dst (R v.1)) (Rj v) ∧ ∀ u, (∃ w, E.r w0 w ∧ (∀ t, (F.add oi.dst (R v.1)) t w) ∧ Rj v u w) →
          anyK E P md ops S w0 Q fuel ((listed.setIfInBounds i true).setIfInBounds j true) ((a.put oi.dst v.1).put oj.dst u) ((F.add oi.dst (R v.1)).add oj.dst (Rj v u)) := fun v => Classical.choose_spec (H1 v)
      have hyj : ∀ v, KY E P ops S w0 oj a F (Rj v) := fun v => (HRj v).1.of_same (fun w t ht hft => ⟨hft, fun e => absurd ht (p1 t e)⟩) (execOp_put oj hsj a oi.dst v.1 p1).symm (wanted_put oj a oi.dst v.1 p1).symm
      unfold kOp
      simp only [hoj]
      refine ⟨fun u w => ∀ v, Rj v u w, ⟨fun u w1 w2 h12 hh v => (hyj v).1 u w1 w2 h12 (hh v), ?_⟩, fun u hu => ?_⟩
      · by_cases hwant : Region.wanted oj (yielded ops a.tmps) = true
        · refine .inl ⟨hwant, fun w1 hx hf1 => kUpon_all i0 fun v => ?_⟩
          rcases (hyj v).2 with ⟨_, h2⟩ | ⟨h2, _⟩
          · exact h2 w1 hx hf1
          · rw [hwant] at h2; cases h2
        · have hwf : Region.wanted oj (yielded ops a.tmps) = false := by simpa using hwant
          refine .inr ⟨hwf, ?_⟩
          funext u w1
          have : ∀ v, Rj v = fun v _ => v = undef := fun v => by
            rcases (hyj v).2 with ⟨h2, _⟩ | ⟨_, h2⟩
            · rw [hwf] at h2; cases h2
            · exact h2
          simp only [this, eq_iff_iff]
          exact ⟨fun h => h i0, fun h _ => h⟩
      · obtain ⟨w1, f1, f2, f3⟩ := hu
        have hfree' : ∀ k ok, ops[k]? = some ok → k ≠ i → (listed.setIfInBounds j true).getD k true = false →
            (∀ e ∈ ok.after, Region.binds md e = true → e.on ≠ i) → oi.apart ops ok = true := fun k ok hk hki hun hno => by
          refine hfree k ok hk hki ?_ hno
          by_cases hjk : j = k
          · subst hjk; exact hjun
          · rw [getD_set_ne true hjk] at hun; exact hun
        refine ih (listed.setIfInBounds j true) (a.put oj.dst u) (F.add oj.dst fun w => ∀ v, Rj v u w) R hfree' (ready_mono hr (Ne.symm hji)) ?_ ?_ ⟨w1, f1, fun t => ⟨f2 t, fun _ => f3⟩⟩ ?_
        · exact hy.of_same (fun w t ht hft => hft.1) (execOp_put oi hsi a oj.dst u p3) (wanted_put oi a oj.dst u p3)
        · exact fun t w2 w3 h23 hh => ⟨hup t w2 w3 h23 hh.1, fun e v => (hyj v).1 u w2 w3 h23 (hh.2 e v)⟩
        · intro v ⟨w2, g1, g2, g3⟩
          have hv : ∃ w, E.r w0 w ∧ (∀ t, F t w) ∧ R v w := ⟨w2, g1, fun t => (g2 t).1, g3⟩
          obtain ⟨d, hd⟩ := hdst j oj hoj
          have h3 := (HRj ⟨v, hv⟩).2 u ⟨w2, g1, fun t => ⟨(g2 t).1, fun _ => g3⟩, (g2 d).2 hd ⟨v, hv⟩⟩
          rw [Array.setIfInBounds_comm _ _ (Ne.symm hji), Act.put_comm a v u p2] at h3
          refine anyK_anti hQ _ _ _ _ _ ?_ h3
          intro t w3 hh
          exact ⟨⟨hh.1.1, hh.2⟩, fun e => hh.1.2 e ⟨v, hv⟩⟩

theorem anyK_lex (hQ : ∀ a F F', (∀ t w, F' t w → F t w) → Q a F → Q a F') (hs : Region.noSelect ops = true) (hdst : ∀ (j : Nat) (o : Oper), ops[j]? = some o → ∃ d, o.dst = Option.some d) :
    ∀ (l : List Oper) (k : Nat) (listed : Array Bool) (a : Act) (F : Facts), (∀ j, l[j]? = ops[k + j]?) → Region.lexFrom md ops l.length k listed = true → (∀ t, UpW E (F t)) → (∃ w, E.r w0 w ∧ ∀ t, F t w) →
      lexK E P ops S w0 Q l a F → anyK E P md ops S w0 Q l.length listed a F
  | [], _, _, _, _, _, hB, _, _, h => ⟨by simpa [Region.lexFrom] using hB, h⟩
  | o :: l, k, listed, a, F, hl, hB, hup, hcon, h => by
    have h0 : ops[k]? = Option.some o := by simpa using (hl 0).symm
    simp only [List.length_cons, Region.lexFrom, Bool.and_eq_true] at hB
    obtain ⟨⟨hr, hf⟩, hB'⟩ := hB
    obtain ⟨R, hy, hn⟩ := h
    refine anyK_first hQ h0 (Region.noSelect_spec hs) hdst l.length listed a F R (Region.free_spec h0 hf) (by simpa using hr) hy hup hcon fun v ⟨w, g1, g2, g3⟩ => ?_
    refine anyK_lex hQ hs hdst l (k + 1) _ _ _ (fun j => by have := hl (j + 1); simpa [Nat.add_assoc, Nat.add_comm 1 j] using this) hB' ?_ ⟨w, g1, fun t => ⟨g2 t, fun _ => g3⟩⟩ (hn v ⟨w, g1, g2, g3⟩)
    exact fun t w2 w3 h23 hh => ⟨hup t w2 w3 h23 hh.1, fun e => hy.1 v w2 w3 h23 (hh.2 e)⟩

/-- What stands behind a region. -/
def endK (E : KRel) (Q' : Exit → Act → World → Prop) (w : World) (a' : Act) (F : Facts) : Prop := ∀ w', E.r w w' → (∀ t, F t w') → Q' .normal a' w'

/-- ONE WALK IN THE ORDER OF THE TEXT: what stands behind is asked in every later world in which the facts hold. -/
theorem wp_region_k (S : FuncId → Array Value → Value → World → Prop) {id : Nat} {Q' : Exit → Act → World → Prop} {a : Act} {w : World} {l : List Oper} (hm : P.follows .mixedOrders = true)
    (hB : Region.lexB .any l.toArray = true) (hd : l.all (fun o => o.dst.isSome) = true)
    (h : lexK E P l.toArray S w (endK E Q' w) l a (fun _ _ => True)) : (Code.region id l.toArray true).wp P Q' a w := by
  simp only [Region.lexB, Bool.and_eq_true] at hB
  refine wp_region_any hm (wpAny_of_anyK (w0 := w) (Q := fun a' F => ∀ w', E.r w w' → (∀ t, F t w') → Q' .normal a' w') (S := S) (fun a F w' he hf hq => hq w' he hf) _ _ _ (fun _ _ => True) _ (E.drawn w) (fun _ _ _ _ _ => trivial) (fun _ => trivial) ?_)
  have hdst : ∀ (j : Nat) (o : Oper), l.toArray[j]? = Option.some o → ∃ d, o.dst = Option.some d := fun j o ho => by
    have := List.all_eq_true.1 hd o (by simpa using Array.mem_of_getElem? ho)
    exact Option.isSome_iff_exists.1 this
  have := anyK_lex (P := P) (S := S) (w0 := w) (md := .any) (Q := fun a' F => ∀ w', E.r w w' → (∀ t, F t w') → Q' .normal a' w') (fun a F F' hx hq w' he hf => hq w' he fun t => hx t w' (hf t)) hB.1 hdst l 0 (Array.replicate l.toArray.size false) a (fun _ _ => True)
    (by simp) (by simpa using hB.2) (fun _ _ _ _ _ => trivial) ⟨w, E.refl _, fun _ => trivial⟩ h
  simpa using this

theorem lexK_anti (hQ : ∀ a F F', (∀ t w, F' t w → F t w) → Q a F → Q a F') : ∀ (l : List Oper) (a : Act) (F F' : Facts), (∀ t w, F' t w → F t w) → lexK E P ops S w0 Q l a F → lexK E P ops S w0 Q l a F'
  | [], _, _, _, h, hh => hQ _ _ _ h hh
  | _ :: l, _, _, _, h, hh => kStep_anti (fun a F F' h => lexK_anti hQ l a F F' h) h hh

theorem endK_anti {Q' : Exit → Act → World → Prop} (a : Act) (F F' : Facts) (h : ∀ t w, F' t w → F t w) (hh : endK E Q' w0 a F) : endK E Q' w0 a F' :=
  fun w' he hf => hh w' he fun t => h t w' (hf t)

/-- A world later than w0. -/
structure Later (E : KRel) (w0 : World) where
  val : World
  ext : E.r w0 val

/-- One of the operations that only read or reckon. -/
def plainOp (o : Oper) : Bool :=
  match o.op with
  | .move _ | .assign _ | .pick .. | .load .. | .binOp .. | .unOp .. | .convert .. | .slice .. | .fieldAddr .. | .field .. | .indexAddr .. | .index .. | .extract .. | .lookup .. | .nilCheck .. => true
  | .call c => (match c.callee with | .builtin .len => true | .builtin .cap => true | .builtin .min => true | .builtin .max => true | _ => false)
  | _ => false

variable {Q' : Exit → Act → World → Prop}

/-- One operation whose value is known. -/
theorem lexK_val {o : Oper} {rest : List Oper} {a : Act} {F : Facts} (u : Value) (hw : Region.wanted o (yielded ops a.tmps) = true)
    (hrun : ∀ w, E.r w0 w → (∀ t ∈ o.looksAt ops, F t w) → (execOp a.eval o).run P w = .ok (.value u) w)
    (hn : lexK E P ops S w0 (endK E Q' w0) rest (a.put o.dst u) F) : lexK E P ops S w0 (endK E Q' w0) (o :: rest) a F := by
  refine ⟨fun v _ => v = u, ⟨fun _ _ _ _ h => h, .inl ⟨hw, fun w he hf => by rw [hrun w he hf]; exact ⟨E.refl _, rfl⟩⟩⟩, ?_⟩
  rintro v ⟨_, _, _, rfl⟩
  exact lexK_anti endK_anti _ _ _ _ (fun _ _ h => h.1) hn

theorem lexK_skip {o : Oper} {rest : List Oper} {a : Act} {F : Facts} (hw : Region.wanted o (yielded ops a.tmps) = false)
    (hn : lexK E P ops S w0 (endK E Q' w0) rest (a.put o.dst undef) F) : lexK E P ops S w0 (endK E Q' w0) (o :: rest) a F := by
  refine ⟨fun v _ => v = undef, ⟨fun _ _ _ _ h => h, .inr ⟨hw, rfl⟩⟩, ?_⟩
  rintro v ⟨_, _, _, rfl⟩
  exact lexK_anti endK_anti _ _ _ _ (fun _ _ h => h.1) hn

/-- One operation that leaves something of which R holds. -/
theorem lexK_some {o : Oper} {rest : List Oper} {a : Act} {F : Facts} (R : Value → World → Prop) (hR : ∀ v, UpW E (R v)) (hw : Region.wanted o (yielded ops a.tmps) = true)
    (hrun : ∀ w, E.r w0 w → (∀ t ∈ o.looksAt ops, F t w) → ∃ u w', (execOp a.eval o).run P w = .ok (.value u) w' ∧ E.r w w' ∧ R u w')
    (hn : ∀ v w, E.r w0 w → (∀ t, F t w) → R v w → lexK E P ops S w0 (endK E Q' w0) rest (a.put o.dst v) (F.add o.dst (R v))) : lexK E P ops S w0 (endK E Q' w0) (o :: rest) a F := by
  refine ⟨R, ⟨hR, .inl ⟨hw, fun w he hf => ?_⟩⟩, fun v ⟨w, h1, h2, h3⟩ => hn v w h1 h2 h3⟩
  obtain ⟨u, w', h1, h2, h3⟩ := hrun w he hf
  rw [h1]
  exact ⟨h2, h3⟩

/-- A call of a Go function. -/
theorem lexK_call {o : Oper} {rest : List Oper} {a : Act} {F : Facts} (f : FuncId) (args : Array Value) (hS : ∀ v, UpW E (S f args v)) (hw : Region.wanted o (yielded ops a.tmps) = true)
    (hrun : ∀ w, (execOp a.eval o).run P w = .ok (.enter f args) w)
    (hc : ∀ w, E.r w0 w → (∀ t ∈ o.looksAt ops, F t w) → Calls P f args w fun e w'' => ∃ v, e = .returned v ∧ E.r w w'' ∧ S f args v w'')
    (hn : ∀ v w, E.r w0 w → (∀ t, F t w) → S f args v w → lexK E P ops S w0 (endK E Q' w0) rest (a.put o.dst v) (F.add o.dst (S f args v))) : lexK E P ops S w0 (endK E Q' w0) (o :: rest) a F := by
  refine ⟨S f args, ⟨hS, .inl ⟨hw, fun w he hf => ?_⟩⟩, fun v ⟨w, h1, h2, h3⟩ => hn v w h1 h2 h3⟩
  rw [hrun w]
  exact ⟨E.refl _, hc w he hf, fun _ _ h => h⟩

/-- A call of a Go function that hands back one known value. -/
theorem lexK_call1 {o : Oper} {rest : List Oper} {a : Act} {F : Facts} (f : FuncId) (args : Array Value) (u : Value) (hS : ∀ v w, S f args v w ↔ v = u) (hw : Region.wanted o (yielded ops a.tmps) = true)
    (hrun : ∀ w, (execOp a.eval o).run P w = .ok (.enter f args) w)
    (hc : ∀ w, E.r w0 w → (∀ t ∈ o.looksAt ops, F t w) → Calls P f args w fun e w'' => e = .returned u ∧ E.r w w'')
    (hn : lexK E P ops S w0 (endK E Q' w0) rest (a.put o.dst u) F) : lexK E P ops S w0 (endK E Q' w0) (o :: rest) a F := by
  refine lexK_call f args (fun v w w' _ h => (hS v w').2 ((hS v w).1 h)) hw hrun (fun w he hf => (hc w he hf).mono fun e w'' ⟨h1, h2⟩ => ⟨u, h1, h2, (hS u w'').2 rfl⟩) ?_
  intro v w _ _ h
  rw [(hS v w).1 h]
  exact lexK_anti endK_anti _ _ _ _ (fun _ _ h => h.1) hn

theorem bind_value_ne {s : Sem Value} {w w' : World} {f : FuncId} {args : Array Value} : (do pure (Next.value (← s)) : Sem Next).run P w ≠ .ok (.enter f args) w' := by
  simp only [Sem.run_bind]
  cases s.run P w with
  | ok a w1 => simp [Result.andThen]
  | halt x w1 => simp [Result.andThen]

theorem andThen_ne {α β : Type} {r : Result α} {g : α → World → Result β} {b : β} {w' : World} (h : ∀ a w1, g a w1 ≠ .ok b w') : r.andThen g ≠ .ok b w' := by
  cases r with
  | ok a w1 => exact h a w1
  | halt x w1 => simp [Result.andThen]

theorem run_value_of_plain {o : Oper} {ρ : Operand → Value} {w w' : World} {f : FuncId} {args : Array Value} (h : plainOp o = true) : (execOp ρ o).run P w ≠ .ok (.enter f args) w' := by
  unfold plainOp at h
  unfold execOp
  cases ho : o.op <;> simp only [ho] at h <;> simp only [] <;> first | exact bind_value_ne | (simp; done) | skip
  case call c =>
    cases hc : c.callee <;> simp only [hc] at h
    case builtin b =>
      simp only [resolve, hc, invoke]
      cases b <;> simp at h <;> simp only [builtin] <;> exact bind_value_ne
    all_goals simp at h
  case pick c a b =>
    simp only [Sem.run_bind]
    cases (asBool (ρ c)).run P w with
    | ok a w1 => simp [Result.andThen]
    | halt x w1 => simp [Result.andThen]
  case nilCheck x =>
    have hp : (runtimePanic (α := Next) .nilDeref).run P w ≠ .ok (.enter f args) w' := by simp [runtimePanic, goPanic]
    split
    · exact hp
    · exact hp
    · exact hp
    · split
      · exact hp
      · simp only [Sem.run_bind]
        refine andThen_ne fun a1 w1 => andThen_ne fun a2 w2 => ?_
        split
        · simp [unsupported]
        · simp
      · simp
    · simp
  all_goals simp at h

/-- So many operations that only read: the kit's quiet walk, over all later worlds. -/
theorem lexK_quiet {F : Facts} : ∀ (l rest : List Oper) (a : Act), l.all plainOp = true →
    wpQuiet P ops (fun w' => ∃ l : Later E w0, w' = l.val) (fun a' => lexK E P ops S w0 (endK E Q' w0) rest a' F) l a → lexK E P ops S w0 (endK E Q' w0) (l ++ rest) a F
  | [], _, _, _, h => h
  | o :: l, rest, a, hp, h => by
    simp only [List.all_cons, Bool.and_eq_true] at hp
    unfold wpQuiet at h
    split at h
    · rename_i hw
      obtain ⟨u, h1, h2⟩ := h
      refine ⟨fun v _ => v = u, ⟨fun _ _ _ _ h => h, .inl ⟨hw, fun w he hf => ?_⟩⟩, fun v ⟨_, _, _, hv⟩ => by subst hv; exact lexK_anti endK_anti _ _ _ _ (fun _ _ h => h.1) (lexK_quiet l rest _ hp.2 h2)⟩
      have h3 := h1 w ⟨⟨w, he⟩, rfl⟩
      unfold Oper.quietAt at h3
      have hne := fun f args w' => run_value_of_plain (P := P) (o := o) (ρ := a.eval) (w := w) (w' := w') (f := f) (args := args) hp.1
      generalize (execOp a.eval o).run P w = r at *
      cases r with
      | halt x w' => simp only [Oper.quietUpon] at h3
      | ok n w' =>
        cases n <;> simp only [Oper.quietUpon] at h3
        case value v => obtain ⟨rfl, rfl⟩ := h3; exact ⟨E.refl _, rfl⟩
        case skip => obtain ⟨rfl, rfl⟩ := h3; exact ⟨E.refl _, rfl⟩
        case enter f args => exact absurd rfl (hne f args w')
    · rename_i hw
      exact lexK_skip (by simpa using hw) (lexK_quiet l rest _ hp.2 h)

theorem lexK_take (n : Nat) {F : Facts} {l : List Oper} {a : Act} (hp : (l.take n).all plainOp = true)
    (h : wpQuiet P ops (fun w' => ∃ l : Later E w0, w' = l.val) (fun a' => lexK E P ops S w0 (endK E Q' w0) (l.drop n) a' F) (l.take n) a) : lexK E P ops S w0 (endK E Q' w0) l a F := by
  have := lexK_quiet (l.take n) (l.drop n) a hp h
  rwa [List.take_append_drop] at this

theorem lexK_nil {F : Facts} {a : Act} (h : ∀ w', E.r w0 w' → (∀ t, F t w') → Q' .normal a w') : lexK E P ops S w0 (endK E Q' w0) [] a F := h

end

theorem later_some (E : KRel) (w : World) : Nonempty (Later E w) := ⟨⟨w, E.refl _⟩⟩
end KR
end Go.Proofs.Ytokmlklcjipkiaa

/- An append within a region that draws its order: one block may turn into one known row, once; all else that there was is as it was. Over any program; no conditions. -/
namespace Go.Proofs.Ytokmlklcjipkiaa
set_option linter.unusedVariables false
set_option linter.unusedSimpArgs false
open Go.RowKit

/-- All that there was is as it was, but that the block of 'go' may have become what 'go' says. -/
structure ExtG (go : Option (Nat × Obj)) (w w' : World) : Prop where
  os : w'.os = w.os
  tape : w'.tape = w.tape
  output : w'.output = w.output
  size : w.heap.size ≤ w'.heap.size
  block : ∀ k, k < w.heap.size → w'.heap[k]? = w.heap[k]? ∨ ∃ o, go = some (k, o) ∧ w'.heap[k]? = some o

section
variable {go : Option (Nat × Obj)} {a b c w w' : World}
theorem ExtG.refl (w : World) : ExtG go w w := ⟨rfl, rfl, rfl, Nat.le_refl _, fun _ _ => .inl rfl⟩
theorem ExtG.trans (h : ExtG go a b) (k : ExtG go b c) : ExtG go a c := by
  refine ⟨k.os.trans h.os, k.tape.trans h.tape, k.output.trans h.output, Nat.le_trans h.size k.size, fun i hi => ?_⟩
  rcases k.block i (Nat.lt_of_lt_of_le hi h.size) with e | e
  · rcases h.block i hi with e' | ⟨o, h1, h2⟩
    · exact .inl (e.trans e')
    · exact .inr ⟨o, h1, e.trans h2⟩
  · exact .inr e
def grel (go : Option (Nat × Obj)) : KRel := ⟨ExtG go, ExtG.refl, ExtG.trans, fun w => ⟨rfl, rfl, rfl, Nat.le_refl _, fun _ _ => .inl rfl⟩⟩
theorem ExtG.ofExt (h : Ext w w') : ExtG go w w' := ⟨h.os, h.tape, h.output, h.size, fun k hk => .inl (h.block k hk)⟩
theorem ExtG.below {B : Nat} (h : ExtG go w w') (hgo : ∀ k o, go = some (k, o) → B ≤ k) (hB : B ≤ w.heap.size) : Below B w w' :=
  ⟨h.os, h.tape, h.output, h.size, fun k hk => by
    rcases h.block k (by omega) with e | ⟨o, h1, _⟩
    · exact e
    · have := hgo k o h1; omega⟩
theorem ExtG.ext (h : ExtG none w w') : Ext w w' := ⟨h.os, h.tape, h.output, h.size, fun k hk => by
    rcases h.block k hk with e | ⟨o, h1, _⟩
    · exact e
    · cases h1⟩
end

theorem Sl.newRow {k : IntKind} {e : TypeId} (w : World) (zs : List Int) (r : Array Value) (n c : Nat) (hn : n = zs.length) (hc : n ≤ c) (hm : c ≤ maxLen) :
    Sl k (w.drew.alloc (.cells ((zs.map (Value.int k)).toArray ++ r) e)) (.slice (some ⟨w.heap.size, 0, none⟩) n c) zs := by
  subst hn
  refine ⟨_, c, rfl, hc, hm, (fun h => by cases h), .inr ⟨w.heap.size, 0, rfl, fun i hi => ?_⟩⟩
  have h : (w.drew.alloc (.cells ((zs.map (Value.int k)).toArray ++ r) e)).heap[w.heap.size]? = some (.cells ((zs.map (Value.int k)).toArray ++ r) e) := heap_alloc_new w.drew _
  simp only [World.cell?, h]
  rw [Nat.zero_add, Array.getElem?_append_left (by simpa using hi)]
  simp [hi]

theorem Sl.newsOf {k : IntKind} {w : World} {ad : Addr} {n c : Nat} {ys : List Int} (h : Sl k w (.slice (some ad) n c) ys) : ys.length = n ∧ ∀ j u, (ys.map (Value.int k))[j]? = some u → w.cell? (ad.add j) = some u := by
  obtain ⟨a', c', h1, h2, h3, h4, h5⟩ := h
  simp only [Value.slice.injEq] at h1
  obtain ⟨rfl, rfl, rfl⟩ := h1
  refine ⟨rfl, fun j u hj => ?_⟩
  rcases h5 with rfl | ⟨b, off, hb, h6⟩
  · simp at hj
  · simp only [Option.some.injEq] at hb
    subst hb
    have hjl : j < ys.length := by
      rcases Nat.lt_or_ge j ys.length with g | g
      · exact g
      · simp [List.getElem?_eq_none (show (ys.map (Value.int k)).length ≤ j by simpa using g)] at hj
    rw [Go.WideShapes.add_plain, h6 j hjl]
    simp [List.getElem?_eq_getElem hjl] at hj
    subst hj
    simp [List.getD, List.getElem?_eq_getElem hjl]

/-- 'append(v, x...)', v the call's own, in whatever order with what else the region does. -/
theorem append_G {P : Program} {k : IntKind} (w0 : World) (B : Nat) (t e : TypeId) (bytes : Nat) (ht : P.underlying t = some (.slice e))
    (hinfo : (P.info? e).map (fun i => (i.zero, i.size, i.bytes)) = some (some (.int k 0), 1, bytes)) (v x : Value) (acc ys : List Int)
    (hown : Own k e B w0 v acc) (hx : Sl k w0 x ys) (hap : ys = [] ∨ ∀ g ad n c, v.ownBlock = some g → x = .slice (some ad) n c → ad.block ≠ g)
    (hlen : (acc.length + ys.length) * bytes ≤ 140737488355328 ∧ acc.length + ys.length ≤ maxLen) (hB : B ≤ w0.heap.size) :
    ∃ go, (∀ k o, go = some (k, o) → B ≤ k) ∧ ∀ ty w, ExtG go w0 w → ∃ u w', (Builtin.append_ #[t, t] ty #[v, x]).run P w = .ok u w' ∧ ExtG go w w' ∧ ∀ w'', ExtG go w' w'' → Sl k w'' u (acc ++ ys) := by
  obtain ⟨i0, hi, hz0, hz1, hz2⟩ := info_parts hinfo
  have hsmall : acc.length + ys.length ≤ 9223372036854775807 := by have := hlen.2; simp only [maxLen] at this; omega
  obtain ⟨ad, c, hxs, hx1, hx2, hx3, hx4⟩ := id hx
  cases ad with
  | none =>
    have hc := hx3 rfl
    subst hc
    have hy : ys = [] := List.length_eq_zero_iff.1 (by omega)
    subst hy
    subst hxs
    refine ⟨none, fun k o h => (by cases h), fun ty w hw => ⟨v, w, ?_, ExtG.refl _, fun w'' hw'' => ?_⟩⟩
    · exact run_append_owned_none (P := P) (w := w) B t ty e i0 1 ht hi v _ _ (hown.ext hw.ext)
    · rw [List.append_nil]; exact ((hown.ext hw.ext).ext hw''.ext).sl
  | some ad =>
    subst hxs
    have keep : ∀ w : World, Ext w0 w → ∀ j u, (ys.map (Value.int k))[j]? = some u → w.cell? (ad.add j) = some u := fun w hw => (hx.ext hw).newsOf.2
    have news : ∀ w : World, (∀ j u, (ys.map (Value.int k))[j]? = some u → w.cell? (ad.add j) = some u) → True := fun _ _ => trivial
    have hmap : (acc ++ ys).map (Value.int k) = acc.map (Value.int k) ++ ys.map (Value.int k) := List.map_append
    -- a new row
    have new : ∀ (w : World) (cap : Nat), acc.length + ys.length ≤ cap → cap ≤ maxLen → ∀ r : Array Value, ∀ w'', Ext (w.drew.alloc (.cells ((acc.map (Value.int k)).toArray ++ (ys.map (Value.int k)).toArray ++ r) e)) w'' →
        Sl k w'' (.slice (some ⟨w.heap.size, 0, none⟩) (acc.length + ys.length) cap) (acc ++ ys) := fun w cap h1 h2 r w'' hw'' => by
      have := Sl.newRow (k := k) (e := e) w (acc ++ ys) r (acc.length + ys.length) cap (by simp) h1 h2
      rw [hmap, show ((acc.map (Value.int k) ++ ys.map (Value.int k)).toArray : Array Value) = (acc.map (Value.int k)).toArray ++ (ys.map (Value.int k)).toArray by simp] at this
      exact this.ext hw''
    rcases hown.2 with ⟨rfl, h0⟩ | ⟨g, cap, cur, rfl, hbg, hg, hnc, hcm, hcs, htake⟩
    · have ha : acc = [] := List.length_eq_zero_iff.1 h0
      subst ha
      by_cases hm : ys.length = 0
      · have hy : ys = [] := List.length_eq_zero_iff.1 hm
        subst hy
        refine ⟨none, fun k o h => (by cases h), fun ty w hw => ⟨.slice none 0 0, w, ?_, ExtG.refl _, fun w'' hw'' => ?_⟩⟩
        · simp [Builtin.append_, run_underlying ht, sizeOf, typeInfo, hi, Builtin.lenOf, Builtin.firstCells, loadCells, loadCellsFrom]
        · exact (Own.nil k e B w'').sl
      · refine ⟨none, fun k o h => (by cases h), fun ty w hw => ?_⟩
        have hr := run_append_nil (P := P) w t ty e i0 (.int k 0) ht hi hz0 ad ys.length c (ys.map (Value.int k)) (by simp [hz1]) (keep w hw.ext) (by omega) (by simp at hsmall; omega) (by rw [hz2]; have := hlen.1; simp at this; omega)
        refine ⟨_, _, hr, ExtG.ofExt ⟨rfl, rfl, rfl, by simp, fun j hj => heap_alloc_old w.drew _ hj⟩, fun w'' hw'' => ?_⟩
        have hge := grownCap_ge w ys.length 0 e
        have hcm : grownCap w ys.length 0 e ≤ maxLen := grownCap_le_maxLen w ys.length 0 e (by have := hlen.2; simpa using this)
        have := new w (grownCap w ys.length 0 e) (by simpa using hge) hcm (Builtin.zeroCells (Value.int k 0).cells (grownCap w ys.length 0 e - ys.length)) w'' (by simpa using hw''.ext)
        simpa using this
    · by_cases hroom : acc.length + ys.length ≤ cap
      · -- there is room: the row becomes one known row
        have hne : ys = [] ∨ ad.block ≠ g := by
          rcases hap with h | h
          · exact .inl h
          · exact .inr (h g ad _ _ rfl rfl)
        have hrow : ∀ cur' : Array Value, (cur'.toList.take acc.length ++ ys.map (Value.int k) ++ cur'.toList.drop (acc.length + ys.length)) = (cur'.toList.take acc.length ++ (ys.map (Value.int k) ++ cur'.toList.drop (acc.length + ys.length))) := fun _ => List.append_assoc _ _ _
        have hcs' : cur.size = cap := by simpa using hcs
        have htk : cur.toList.take acc.length = acc.map (Value.int k) := by simpa using htake
        let row : List Value := acc.map (Value.int k) ++ ys.map (Value.int k) ++ cur.toList.drop (acc.length + ys.length)
        have hrl : row.length = cap := by simp [row]; omega
        refine ⟨some (g, .cells row.toArray e (0, 0)), fun j o h => ?_, fun ty w hw => ?_⟩
        · simp only [Option.some.injEq, Prod.mk.injEq] at h; omega
        have hgl : g < w0.heap.size := (Array.getElem?_eq_some_iff.1 hg).1
        obtain ⟨cur', hg', hs', ht', hd'⟩ : ∃ cur' : Array Value, w.heap[g]? = some (.cells cur' e (0, 0)) ∧ cur'.size = cap ∧ cur'.toList.take acc.length = acc.map (Value.int k) ∧ cur'.toList.drop (acc.length + ys.length) = cur.toList.drop (acc.length + ys.length) := by
          rcases hw.block g hgl with h | ⟨o, h1, h2⟩
          · exact ⟨cur, h.trans hg, hcs', htk, rfl⟩
          · simp only [Option.some.injEq, Prod.mk.injEq, true_and] at h1
            rw [← h1] at h2
            refine ⟨_, h2, by simpa using hrl, ?_, ?_⟩
            · show row.take acc.length = _
              have e1 : acc.length = (acc.map (Value.int k)).length := by simp
              simp only [row, List.append_assoc]
              rw [e1]; exact List.take_left
            · show row.drop (acc.length + ys.length) = _
              have e1 : acc.length + ys.length = (acc.map (Value.int k) ++ ys.map (Value.int k)).length := by simp
              simp only [row]
              rw [e1]; exact List.drop_left
        have hnews : ∀ j u, (ys.map (Value.int k))[j]? = some u → w.cell? (ad.add j) = some u := fun j u hj => by
          have h0 := hx.newsOf.2 j u hj
          rcases hne with h | h
          · subst h; simp at hj
          · have hb : (ad.add j).block = ad.block := by unfold Addr.add; split <;> rfl
            have hlt := World.block_lt_of_cell? _ _ h0
            rcases hw.block (ad.add j).block hlt with h1 | ⟨o, h1, _⟩
            · exact (World.cell?_of_block h1).trans h0
            · simp only [Option.some.injEq, Prod.mk.injEq] at h1
              exact absurd (h1.1.trans hb).symm h
        have hr := run_append_room (P := P) w t ty e i0 ht hi g acc.length cap cur' hg' ad ys.length c (ys.map (Value.int k)) (by simp [hz1]) hnews (ints_one ys) hroom (by simp [hz1]; omega)
        rw [hz1, Nat.mul_one, ht', List.length_map, hd'] at hr
        have hset := setRow_heap w g cur' row.toArray e (0, 0) hg'
        refine ⟨_, _, hr, ⟨rfl, rfl, rfl, by simp [World.setRow], fun j hj => ?_⟩, fun w'' hw'' => ?_⟩
        · by_cases hjg : j = g
          · subst hjg; exact .inr ⟨_, rfl, hset⟩
          · exact .inl (setRow_other w g j _ hjg)
        · have hgl' : g < (w.setRow g row.toArray).heap.size := (Array.getElem?_eq_some_iff.1 hset).1
          have hfin : w''.heap[g]? = some (.cells row.toArray e (0, 0)) := by
            rcases hw''.block g hgl' with h | ⟨o, h1, h2⟩
            · exact h.trans hset
            · simp only [Option.some.injEq, Prod.mk.injEq, true_and] at h1
              rw [h1]; exact h2
          have hl : (acc ++ ys).length = acc.length + ys.length := List.length_append
          refine ⟨_, cap, by rw [hl], by omega, hcm, (fun h => by cases h), .inr ⟨g, 0, rfl, fun i hi => ?_⟩⟩
          simp only [World.cell?, hfin, Nat.zero_add]
          have e1 : row = (acc ++ ys).map (Value.int k) ++ cur.toList.drop (acc.length + ys.length) := by simp [row]
          rw [e1]
          simp only [List.getElem?_toArray]
          rw [List.getElem?_append_left (by rw [List.length_map]; exact hi), List.getElem?_map, List.getElem?_eq_getElem hi, List.getD_eq_getElem?_getD, List.getElem?_eq_getElem hi]
          rfl
      · refine ⟨none, fun k o h => (by cases h), fun ty w hw => ?_⟩
        have hown' := hown.ext hw.ext
        have holds : ∀ j u, (acc.map (Value.int k))[j]? = some u → w.cell? ((⟨g, 0, none⟩ : Addr).add j) = some u := World.ownsRow.cells hown' (g := g) rfl
        have hr := run_append_grow (P := P) w t ty e i0 (.int k 0) ht hi hz0 ⟨g, 0, none⟩ acc.length cap (acc.map (Value.int k)) (by simp [hz1]) holds ad ys.length c (ys.map (Value.int k)) (by simp [hz1]) (keep w hw.ext) (by omega) (by omega) (by rw [hz2]; exact growslice_fits (by omega) hlen.1)
        refine ⟨_, _, hr, ExtG.ofExt ⟨rfl, rfl, rfl, by simp, fun j hj => heap_alloc_old w.drew _ hj⟩, fun w'' hw'' => ?_⟩
        exact new w _ (grownCap_ge w _ cap e) (grownCap_le_maxLen w _ cap e hlen.2) _ w'' hw''.ext

theorem run_append_op {P : Program} {w w' : World} {ρ : Operand → Value} {o : Oper} {s x : Operand} {t : TypeId} {v u r : Value} (ho : o.op = .call { callee := .builtin .append, args := #[s, x], argTypes := #[t, t] }) (hs : ρ s = v) (hx : ρ x = u)
    (h : (Builtin.append_ #[t, t] o.type #[v, u]).run P w = .ok r w') : (execOp ρ o).run P w = .ok (.value r) w' := by
  unfold execOp
  simp only [ho, resolve, invoke, builtin, Sem.run_bind, Sem.run_pure, Result.andThen_ok, List.map_toArray, List.map_cons, List.map_nil, hs, hx, h]

theorem Own.but {k : IntKind} {e : TypeId} {B b : Nat} {w w' : World} {s : Value} {zs : List Int} (h : Own k e B w s zs) (hB : But b w w') (hb : b < B) : Own k e B w' s zs := by
  refine World.ownsRow.kept h hB ?_
  cases hv : s.ownBlock with
  | none => exact .inl rfl
  | some g =>
    refine .inr fun e => ?_
    have := (World.ownsRow.lt h g hv).1
    simp only [Option.some.injEq] at e
    omega

theorem Own.apart {k k' : IntKind} {e e' : TypeId} {B : Nat} {w w' : World} {v x : Value} {zs ys : List Int} (hv : Own k e B w v zs) (hx : Own k' e' w.heap.size w' x ys) : ∀ g ad n c, v.ownBlock = some g → x = .slice (some ad) n c → ad.block ≠ g := by
  intro g ad n c hg hxe
  have h1 := (World.ownsRow.lt hv g hg).2
  have h2 := (World.ownsRow.lt hx ad.block (by
    rcases hx.2 with ⟨h, _⟩ | ⟨g', cap, cur, h, _⟩
    · rw [h] at hxe; cases hxe
    · rw [hxe] at h; cases h; rw [hxe]; rfl)).1
  omega
end Go.Proofs.Ytokmlklcjipkiaa

/- Appends one within the other in a region that draws its order: 'append(append(append([]T{}, a...), x), b...)'. Whatever is written into a new row is what it is at last. Over any program; no conditions. -/
namespace Go.Proofs.Ytokmlklcjipkiaa
set_option linter.unusedVariables false
set_option linter.unusedSimpArgs false
open Go.RowKit

/-- All that there was is as it was, but that cells of new rows (of e, of more than 'lo' cells) may have become what F has at their places. -/
structure ExtF (B : Nat) (e : TypeId) (F : List Value) (lo : Nat) (w w' : World) : Prop where
  os : w'.os = w.os
  tape : w'.tape = w.tape
  output : w'.output = w.output
  size : w.heap.size ≤ w'.heap.size
  block : ∀ k, k < w.heap.size → w'.heap[k]? = w.heap[k]? ∨ (B ≤ k ∧ ∃ cs cs' : Array Value, w.heap[k]? = some (.cells cs e (0, 0)) ∧ w'.heap[k]? = some (.cells cs' e (0, 0)) ∧ cs'.size = cs.size ∧ lo < cs.size ∧ ∀ i : Nat, cs'[i]? = cs[i]? ∨ cs'[i]? = F[i]?)

section
variable {B : Nat} {e : TypeId} {F : List Value} {lo : Nat} {a b c w w' : World}
theorem ExtF.refl (w : World) : ExtF B e F lo w w := ⟨rfl, rfl, rfl, Nat.le_refl _, fun _ _ => .inl rfl⟩
theorem ExtF.trans (h : ExtF B e F lo a b) (k : ExtF B e F lo b c) : ExtF B e F lo a c := by
  refine ⟨k.os.trans h.os, k.tape.trans h.tape, k.output.trans h.output, Nat.le_trans h.size k.size, fun i hi => ?_⟩
  rcases k.block i (Nat.lt_of_lt_of_le hi h.size) with e1 | ⟨hb, cs, cs', e1, e2, e3, e4, e5⟩
  · rcases h.block i hi with f1 | ⟨hb, ds, ds', f1, f2, f3⟩
    · exact .inl (e1.trans f1)
    · exact .inr ⟨hb, ds, ds', f1, e1.trans f2, f3⟩
  · rcases h.block i hi with f1 | ⟨hb', ds, ds', f1, f2, f3, f4, f5⟩
    · exact .inr ⟨hb, cs, cs', f1 ▸ e1, e2, e3, e4, e5⟩
    · rw [f2] at e1
      simp only [Option.some.injEq, Obj.cells.injEq, and_true] at e1
      subst e1
      refine .inr ⟨hb, ds, cs', f1, e2, by omega, f4, fun j => ?_⟩
      rcases e5 j with g | g
      · rcases f5 j with g' | g'
        · exact .inl (g.trans g')
        · exact .inr (g.trans g')
      · exact .inr g
def frel (B : Nat) (e : TypeId) (F : List Value) (lo : Nat) : KRel := ⟨ExtF B e F lo, ExtF.refl, ExtF.trans, fun w => ⟨rfl, rfl, rfl, Nat.le_refl _, fun _ _ => .inl rfl⟩⟩
theorem ExtF.ofExt (h : Ext w w') : ExtF B e F lo w w' := ⟨h.os, h.tape, h.output, h.size, fun k hk => .inl (h.block k hk)⟩
/-- From a world with B blocks on: all that was there is as it was. -/
theorem ExtF.below (h : ExtF B e F lo w w') (hB : B ≤ w.heap.size) : Below B w w' :=
  ⟨h.os, h.tape, h.output, h.size, fun k hk => by
    rcases h.block k (by omega) with e1 | ⟨hb, _⟩
    · exact e1
    · omega⟩
theorem ExtF.ext (h : ExtF w.heap.size e F lo w w') : Ext w w' := h.below (Nat.le_refl _)

/-- A new row whose first n elements are F's. -/
def OwnF (B : Nat) (e : TypeId) (F : List Value) (sz : Nat) (w : World) (v : Value) (n : Nat) : Prop :=
  ∃ g cap cur, v = .slice (some ⟨g, 0, none⟩) n cap ∧ B ≤ g ∧ w.heap[g]? = some (.cells cur e (0, 0)) ∧ n ≤ cap ∧ cap ≤ maxLen ∧ cur.size = cap * sz ∧ ∀ i : Nat, i < n * sz → cur[i]? = F[i]?
theorem OwnF.up {sz n : Nat} {v : Value} : KR.UpW (frel B e F lo) (fun w => OwnF B e F sz w v n) := by
  rintro w w' he ⟨g, cap, cur, h1, h2, h3, h4, h5, h6, h7⟩
  have hg : g < w.heap.size := (Array.getElem?_eq_some_iff.1 h3).1
  rcases he.block g hg with f1 | ⟨_, cs, cs', f1, f2, f3, f4, f5⟩
  · exact ⟨g, cap, cur, h1, h2, f1.trans h3, h4, h5, h6, h7⟩
  · rw [h3] at f1
    simp only [Option.some.injEq, Obj.cells.injEq, and_true] at f1
    subst f1
    refine ⟨g, cap, cs', h1, h2, f2, h4, h5, by omega, fun i hi => ?_⟩
    rcases f5 i with g | g
    · exact g.trans (h7 i hi)
    · exact g
theorem OwnF.owns {sz n : Nat} {v : Value} (h : OwnF B e F sz w v n) (hF : n * sz ≤ F.length) : w.ownsRow B e sz v n (F.take (n * sz)) := by
  obtain ⟨g, cap, cur, h1, h2, h3, h4, h5, h6, h7⟩ := h
  refine ⟨by rw [List.length_take]; omega, .inr ⟨g, cap, cur, h1, h2, h3, h4, h5, h6, ?_⟩⟩
  refine List.ext_getElem? fun i => ?_
  simp only [List.getElem?_take]
  by_cases hi : i < n * sz
  · rw [if_pos hi, if_pos hi, ← h7 i hi]; simp
  · rw [if_neg hi, if_neg hi]

/-- A literal row that no more is written to: it has no more than 'lo' cells. -/
def LitF (B : Nat) (e : TypeId) (w : World) (v : Value) (n : Nat) (cs : Array Value) : Prop := ∃ g, v = .slice (some ⟨g, 0, none⟩) n n ∧ B ≤ g ∧ w.heap[g]? = some (.cells cs e (0, 0))
theorem LitF.up {v : Value} {n : Nat} {cs : Array Value} (hlo : cs.size ≤ lo) : KR.UpW (frel B e F lo) (fun w => LitF B e w v n cs) := by
  rintro w w' he ⟨g, h1, h2, h3⟩
  have hg : g < w.heap.size := (Array.getElem?_eq_some_iff.1 h3).1
  rcases he.block g hg with f1 | ⟨_, cs1, cs', f1, f2, f3, f4, f5⟩
  · exact ⟨g, h1, h2, f1.trans h3⟩
  · rw [h3] at f1
    simp only [Option.some.injEq, Obj.cells.injEq, and_true] at f1
    subst f1
    omega
theorem LitF.own {v : Value} {sz : Nat} (h : LitF B e w v 0 #[]) : OwnF B e F sz w v 0 := by
  obtain ⟨g, h1, h2, h3⟩ := h
  exact ⟨g, 0, #[], h1, h2, h3, Nat.le_refl _, by simp, by simp, fun i hi => by omega⟩
theorem LitF.news {v : Value} {n : Nat} {cs : Array Value} (h : LitF B e w v n cs) : ∃ ad, v = .slice (some ad) n n ∧ ∀ j u, cs.toList[j]? = some u → w.cell? (ad.add j) = some u := by
  obtain ⟨g, h1, h2, h3⟩ := h
  refine ⟨_, h1, fun j u hj => ?_⟩
  rw [Go.WideShapes.add_plain]
  have : cs[j]? = some u := by simpa using hj
  simp [World.cell?, h3, this]
end

/-- 'append(v, x...)' that makes more of F. -/
theorem append_F {P : Program} {w : World} {B : Nat} {e : TypeId} {F : List Value} {lo sz bytes : Nat} (t ty : TypeId) (z : Value) (ht : P.underlying t = some (.slice e))
    (hinfo : (P.info? e).map (fun i => (i.zero, i.size, i.bytes)) = some (some z, sz, bytes)) (hzs : z.cells.size = sz) (hsz : 0 < sz) (v x : Value) (n m : Nat) (a : Option Addr) (c : Nat) (news : List Value)
    (hv : OwnF B e F sz w v n) (hx : x = .slice a m c) (ha : a = none → c = 0 ∧ m = 0) (hl : news.length = m * sz) (hn : ∀ ad, a = some ad → ∀ j u, news[j]? = some u → w.cell? (ad.add j) = some u) (h1 : ∀ u ∈ news, u.oneCell' = true)
    (hF : ∀ j, j < m * sz → news[j]? = F[n * sz + j]?) (hlo : m = 0 ∨ lo < (n + m) * sz ∨ ∀ a c, v = .slice a n c → c < n + m) (hlen : (n + m) * bytes ≤ 140737488355328 ∧ n + m ≤ maxLen) (hFl : n * sz ≤ F.length) (hB : B ≤ w.heap.size) :
    ∃ u w', (Builtin.append_ #[t, t] ty #[v, x]).run P w = .ok u w' ∧ ExtF B e F lo w w' ∧ OwnF B e F sz w' u (n + m) ∧ ∀ a c, v = .slice a n c → n + m ≤ c → ∃ a', u = .slice a' (n + m) c := by
  obtain ⟨i0, hi, hz0, hz1, hz2⟩ : ∃ i, P.info? e = some i ∧ i.zero = some z ∧ i.size = sz ∧ i.bytes = bytes := by
    cases hi : P.info? e with
    | none => simp [hi] at hinfo
    | some i =>
      simp only [hi, Option.map_some, Option.some.injEq, Prod.mk.injEq] at hinfo
      exact ⟨i, rfl, hinfo.1, hinfo.2.1, hinfo.2.2⟩
  subst hx
  have hown := hv.owns hFl
  cases a with
  | none =>
    obtain ⟨rfl, rfl⟩ := ha rfl
    exact ⟨v, w, run_append_owned_none (P := P) (w := w) B t ty e i0 sz ht hi _ _ _ hown, ExtF.refl _, hv, fun a c hv _ => ⟨a, hv⟩⟩
  | some ad =>
    have hnews := hn ad rfl
    obtain ⟨g, cap, cur, rfl, hBg, hg, hnc, hcm, hcs, hcur⟩ := hv
    have hsmall : n + m ≤ 9223372036854775807 := by have := hlen.2; simp only [maxLen] at this; omega
    have hmul : (n + m) * sz = n * sz + m * sz := Nat.add_mul _ _ _
    by_cases hroom : n + m ≤ cap
    · have hcap : (n + m) * sz ≤ cap * sz := Nat.mul_le_mul_right _ hroom
      have hr := run_append_room (P := P) w t ty e i0 ht hi g n cap cur hg ad m c news (by rw [hz1]; exact hl) hnews h1 hroom (by rw [hz1]; omega)
      rw [hz1] at hr
      have hset := setRow_heap w g cur (cur.toList.take (n * sz) ++ news ++ cur.toList.drop (n * sz + news.length)).toArray e (0, 0) hg
      have hcell : ∀ i : Nat, (cur.toList.take (n * sz) ++ news ++ cur.toList.drop (n * sz + news.length)).toArray[i]? = if i < n * sz then cur[i]? else if i < n * sz + m * sz then F[i]? else cur[i]? := fun i => by
        have htl : (cur.toList.take (n * sz)).length = n * sz := by rw [List.length_take, Array.length_toList]; omega
        simp only [List.getElem?_toArray]
        by_cases g1 : i < n * sz
        · rw [if_pos g1, List.append_assoc, List.getElem?_append_left (by omega), List.getElem?_take, if_pos g1]; simp
        · rw [if_neg g1]
          by_cases g2 : i < n * sz + m * sz
          · rw [if_pos g2, List.getElem?_append_left (by rw [List.length_append]; omega), List.getElem?_append_right (by omega), htl, hF _ (by omega)]
            congr 1; omega
          · rw [if_neg g2, List.getElem?_append_right (by rw [List.length_append]; omega), List.length_append, htl, List.getElem?_drop]
            rw [show n * sz + news.length + (i - (n * sz + news.length)) = i by omega]; simp
      refine ⟨_, _, hr, ?_, ?_, fun a' c' hv _ => ?_⟩
      · refine ⟨rfl, rfl, rfl, by simp [World.setRow], fun j hj => ?_⟩
        by_cases hjg : j = g
        · subst hjg
          by_cases hm : m = 0
          · left
            rw [hset, hg]
            congr 1
            congr 1
            apply Array.ext_getElem?
            intro i
            rw [hcell i]
            subst hm
            split
            · rfl
            · rw [if_neg (by omega)]
          · right
            refine ⟨hBg, cur, _, hg, hset, ?_, ?_, fun i => ?_⟩
            · simp [hl]; omega
            · rcases hlo with h | h | h
              · exact absurd h hm
              · omega
              · have := h _ _ rfl; omega
            · rw [hcell i]
              split
              · exact .inl rfl
              · split
                · exact .inr rfl
                · exact .inl rfl
        · exact .inl (setRow_other w g j _ hjg)
      · refine ⟨g, cap, _, rfl, hBg, hset, hroom, hcm, by simp [hl]; omega, fun i hi2 => ?_⟩
        rw [hcell i]
        split
        · exact hcur i (by assumption)
        · rw [if_pos (by omega)]
      · simp only [Value.slice.injEq, true_and] at hv
        exact ⟨_, by rw [hv.2]⟩
    · have holds : ∀ j u, (F.take (n * sz))[j]? = some u → w.cell? ((⟨g, 0, none⟩ : Addr).add j) = some u := World.ownsRow.cells hown (g := g) rfl
      have hr := run_append_grow (P := P) w t ty e i0 z ht hi hz0 ⟨g, 0, none⟩ n cap (F.take (n * sz)) (by rw [hz1, List.length_take]; omega) holds ad m c news (by rw [hz1]; exact hl) hnews (by omega) (by omega) (by rw [hz2]; exact growslice_fits (by omega) hlen.1)
      have hge := grownCap_ge w (n + m) cap e
      refine ⟨_, _, hr, ExtF.ofExt ⟨rfl, rfl, rfl, by simp, fun j hj => heap_alloc_old w.drew _ hj⟩, ?_, fun a' c' hv h => ?_⟩
      rotate_left
      · simp only [Value.slice.injEq, true_and] at hv
        exact absurd h (by omega)
      refine ⟨w.heap.size, _, _, rfl, hB, heap_alloc_new w.drew _, hge, grownCap_le_maxLen w _ cap e hlen.2, ?_, fun i hi2 => ?_⟩
      · have h3 : (Builtin.zeroCells z.cells (grownCap w (n + m) cap e - (n + m))).size = (grownCap w (n + m) cap e - (n + m)) * sz := by rw [size_zeroCells, hzs]
        simp only [Array.size_append, List.size_toArray, h3, List.length_take, hl]
        rw [Nat.min_eq_left hFl]
        obtain ⟨q, hq⟩ : ∃ q, grownCap w (n + m) cap e = n + m + q := ⟨grownCap w (n + m) cap e - (n + m), by omega⟩
        rw [hq, show n + m + q - (n + m) = q by omega, Nat.add_mul, hmul]
      · have htl : (F.take (n * sz)).length = n * sz := by rw [List.length_take]; omega
        rw [Array.getElem?_append_left (by simp only [Array.size_append, List.size_toArray, htl, hl]; omega)]
        by_cases g1 : i < n * sz
        · rw [Array.getElem?_append_left (by simp only [List.size_toArray, htl]; exact g1)]
          simp only [List.getElem?_toArray, List.getElem?_take, if_pos g1]
        · rw [Array.getElem?_append_right (by simp only [List.size_toArray, htl]; omega)]
          simp only [List.getElem?_toArray, List.size_toArray, htl]
          rw [hF _ (by omega)]
          congr 1; omega
end Go.Proofs.Ytokmlklcjipkiaa

/- A number put into its place in a row of ints: what the three appends of 'append(append(append([]int{}, a...), x), b...)' read and make. -/
namespace Go.Proofs.Ytokmlklcjipkiaa
set_option linter.unusedVariables false
set_option linter.unusedSimpArgs false
open Go.RowKit

def cellsI (zs : List Int) : List Value := zs.map (Value.int .i64)
theorem cellsI_len (zs : List Int) : (cellsI zs).length = zs.length := List.length_map _
theorem cellsI_one (zs : List Int) : ∀ u ∈ cellsI zs, u.oneCell' = true := ints_one zs
theorem cellsI_at (zs : List Int) (q : Nat) : (cellsI zs)[q]? = zs[q]?.map (Value.int .i64) := by simp [cellsI]


theorem Sl.newsI {w : World} {a : Option Addr} {n c : Nat} {zs : List Int} (h : Sl .i64 w (.slice a n c) zs) : zs.length = n ∧ (a = none → c = 0 ∧ n = 0) ∧ ∀ ad, a = some ad → ∀ q u, (cellsI zs)[q]? = some u → w.cell? (ad.add q) = some u := by
  obtain ⟨a', c', h1, h2, h3, h4, h5⟩ := h
  simp only [Value.slice.injEq] at h1
  obtain ⟨rfl, rfl, rfl⟩ := h1
  refine ⟨rfl, fun h => ⟨h4 h, by have := h4 h; omega⟩, fun ad hd q u hq => ?_⟩
  have hql : q < zs.length := by
    rcases Nat.lt_or_ge q zs.length with g | g
    · exact g
    · rw [cellsI_at, List.getElem?_eq_none g] at hq; cases hq
  rcases h5 with h5 | ⟨g, off, h5, h6⟩
  · rw [h5] at hql; simp at hql
  · rw [h5] at hd
    simp only [Option.some.injEq] at hd
    subst hd
    rw [Go.WideShapes.add_plain, h6 q hql]
    rw [cellsI_at, List.getElem?_eq_getElem hql] at hq
    simp only [Option.map_some, Option.some.injEq] at hq
    rw [← hq]
    simp [List.getD, List.getElem?_eq_getElem hql]

theorem fin_1 (A D : List Int) (x : Int) (j q : Nat) (hA : A.length = j) (hq : q < j * 1) : (cellsI A)[q]? = (cellsI (A ++ [x] ++ D))[0 * 1 + q]? := by
  rw [cellsI_at, cellsI_at, show 0 * 1 + q = q by omega, List.append_assoc, List.getElem?_append_left (by omega)]
theorem fin_2 (A D : List Int) (x : Int) (j q : Nat) (hA : A.length = j) (hq : q < 1 * 1) : (cellsI [x])[q]? = (cellsI (A ++ [x] ++ D))[j * 1 + q]? := by
  have : q = 0 := by omega
  subst this
  rw [cellsI_at, cellsI_at, List.append_assoc, List.getElem?_append_right (by omega), show j * 1 + 0 - A.length = 0 by omega]
  rfl
theorem fin_3 (A D : List Int) (x : Int) (j q : Nat) (hA : A.length = j) : (cellsI D)[q]? = (cellsI (A ++ [x] ++ D))[(j + 1) * 1 + q]? := by
  have hl : (A ++ [x]).length = j + 1 := by rw [List.length_append, hA]; rfl
  rw [cellsI_at, cellsI_at, List.getElem?_append_right (by omega), hl, show (j + 1) * 1 + q - (j + 1) = q by omega]

theorem natL_ins (out : List Nat) (j p : Nat) : (natL out).take j ++ [(p : Int)] ++ (natL out).drop j = natL (out.take j ++ [p] ++ out.drop j) := by
  simp [natL, List.map_take, List.map_drop]

/-- What stands there at last is the call's own row. -/
theorem OwnF.own {B : Nat} {w : World} {v : Value} {Z : List Int} {n : Nat} (h : OwnF B 3 (cellsI Z) 1 w v n) (hn : Z.length = n) : Own .i64 3 B w v Z := by
  have h1 := h.owns (by rw [cellsI_len]; omega)
  rw [List.take_of_length_le (by rw [cellsI_len]; omega)] at h1
  unfold Own
  rw [hn]
  exact h1
end Go.Proofs.Ytokmlklcjipkiaa

/- Contract of the document's own Order: whorlref13.Order. -/
namespace Go.Proofs.Ytokmlklcjipkiaa
set_option linter.unusedVariables false
set_option linter.unusedSimpArgs false
open Go.RowKit

set_option maxHeartbeats 2000000 in
theorem rorder_any (v : Value) (s : List Int) (w : World) (hv : Sl .i64 w v s) (hlen : s.length ≤ 100000) :
    Calls Try.prog 23 #[v] w fun e w' => ∃ u R, e = .returned u ∧ InOrd s R ∧ Own .i64 3 w.heap.size w' u (natL R) ∧ Ext w w' := by
  have HV := hide' hv
  obtain ⟨a, c, rfl, _⟩ := hv
  obtain ⟨_, _, hcm, _⟩ := HV.out.int
  obtain ⟨n, HN⟩ : ∃ n, Hid (s.length = n) := ⟨_, rfl⟩
  have HDL : Hid (∀ i, (s.drop i).length ≤ 1000000) := fun i => by rw [List.length_drop]; omega
  rw [HN.out] at hlen HV ⊢
  clear hcm
  go_enter Try.func23, Try.ntmps23
  go_wp2
  go_loopw [3, 4] (fun ov vi wr => ∃ (i : Nat) (out : List Nat), i ≤ n ∧ vi = .int .i64 i ∧ Hid (out.Pairwise (ltE s)) ∧ Hid (out.Perm (List.range i)) ∧
    Hid (Own .i64 3 w.heap.size wr ov (natL out)) ∧ Hid (Ext w wr)) (fun _ vi _ => n - (intOf vi).toNat)
  case atStart => exact ⟨0, [], Nat.zero_le _, rfl, List.Pairwise.nil, List.Perm.refl _, Own.nil _ _ _ _, Ext.refl _⟩
  case round =>
    obtain ⟨i, out, hi, rfl, HSO, HPO, HO, HE⟩ := hrel
    by_cases hlt : i < n
    · have hlt' : (i : Int) < n := by omega
      have HLI : Hid (out.length = i) := by
        show _ = _
        rw [HPO.out.length_eq, List.length_range]
      have HIO : Hid (∀ q, q < i → out.getD q 0 < n) := fun q hq => by
        have := List.mem_range.1 (HPO.out.mem_iff.1 (getN_mem (l := out) (i := q) (by rw [HLI.out]; exact hq)))
        omega
      obtain ⟨L, HL⟩ : ∃ L, Hid (out.length = L) := ⟨_, rfl⟩
      have hLi : L = i := HL.out.symm.trans HLI.out
      have hL : L ≤ 100000 := by omega
      rw [← hLi] at HIO
      have HLi := hide' hLi
      clear hLi
      obtain ⟨oa, oc, hov, hoc1, hoc2, _⟩ := HO.out.sl
      unfold maxLen at hoc2
      rw [natL_len, HL.out] at hov hoc1
      subst hov
      have HOL : Hid ((natL out).length = L) := by show _ = _; rw [natL_len]; exact HL.out
      have INP : Hid (∀ j, j ≤ L → (∀ q, j ≤ q → q < L → ltE s i (out.getD q 0)) → (j = 0 ∨ ¬ ltE s i (out.getD (j - 1) 0)) → ∃ Z : List Nat, (natL out).take j ++ [(i : Int)] ++ (natL out).drop j = natL Z ∧ Z.Pairwise (ltE s) ∧ Z.Perm (List.range (i + 1))) := fun j h1 h2 h3 => by
        rw [← HL.out] at h1 h2
        obtain ⟨k1, k2⟩ := ins_ord HSO.out HPO.out (by rw [HN.out]; exact hlt) h1 h2 h3
        exact ⟨_, natL_ins _ _ _, k1, k2⟩
      obtain ⟨da, ra, sa, _⟩ := HV.out.runDrop (P := Try.prog) 32 3 Try.underlying32 sizeI64 i (by rw [HN.out]; omega)
      have SA := hide' sa
      have RA := hide' ra
      clear sa ra
      go_wp2
      go_loopw [5] (fun vj wr => ∃ (j : Nat), j ≤ L ∧ vj = .int .i64 j ∧ Hid (∀ q, j ≤ q → q < L → ltE s i (out.getD q 0)) ∧ Hid (Own .i64 3 w.heap.size wr (.slice oa L oc) (natL out)) ∧ Hid (Ext w wr)) (fun vj _ => (intOf vj).toNat)
      case atStart => exact ⟨L, Nat.le_refl _, rfl, (fun q h1 h2 => by omega), HO, HE⟩
      case round =>
        clear HO HE
        obtain ⟨j, hj, rfl, IN, HO, HE⟩ := hrel
        by_cases hj0 : j = 0
        · obtain ⟨ZZ, hz1, hz2, hz3⟩ := INP.out j hj IN.out (.inl hj0)
          have ZQ := hide' hz1
          have ZS := hide' hz2
          have ZP := hide' hz3
          clear hz1 hz2 hz3
          have d0 : decide ((0 : Int) < (j : Int)) = false := by simp; omega
          have d1 : decide (0 < j) = false := by simp; omega
          clear hj0
          go_wp2_with fail
          go_quiet (fail)
          have HOW := hide' (HO.out.ext (Ext.drewN wr nq))
          have HEW := hide' (HE.out.trans (Ext.drewN wr nq))
          generalize wr.drewN nq = W at *
          clear d0 d1 HO HE
          have SW := hide' HOW.out.sl
          obtain ⟨r1, s1⟩ := SW.out.runTake (P := Try.prog) 32 3 Try.underlying32 sizeI64 j (by rw [HOL.out]; exact hj)
          obtain ⟨da, r2, s2, _⟩ := SW.out.runDrop (P := Try.prog) 32 3 Try.underlying32 sizeI64 j (by rw [HOL.out]; exact hj)
          have N1 := hide' s1.newsI
          have N2 := hide' s2.newsI
          clear s1 s2 SW
          have AL : Hid (((natL out).take j).length = j) := by show _ = _; rw [List.length_take, HOL.out]; omega
          have DL : Hid (((natL out).drop j).length = L - j) := by show _ = _; rw [List.length_drop, HOL.out]
          obtain ⟨A, HAA⟩ : ∃ A, Hid ((natL out).take j = A) := ⟨_, rfl⟩
          obtain ⟨D, HDD⟩ : ∃ D, Hid ((natL out).drop j = D) := ⟨_, rfl⟩
          rw [HAA.out] at N1 AL ZQ
          rw [HDD.out] at N2 DL ZQ
          obtain ⟨Z, HZ⟩ : ∃ Z, Hid (A ++ [(i : Int)] ++ D = Z) := ⟨_, rfl⟩
          rw [HZ.out] at ZQ
          obtain ⟨FF, HFF⟩ : ∃ FF, Hid (cellsI Z = FF) := ⟨_, rfl⟩
          have F1 : Hid (∀ q, q < j * 1 → (cellsI A)[q]? = FF[0 * 1 + q]?) := fun q hq => by rw [← HFF.out, ← HZ.out]; exact fin_1 A D _ j q AL.out hq
          have F2 : Hid (∀ q, q < 1 * 1 → (cellsI [(i : Int)])[q]? = FF[j * 1 + q]?) := fun q hq => by rw [← HFF.out, ← HZ.out]; exact fin_2 A D _ j q AL.out hq
          have F3 : Hid (∀ q, (cellsI D)[q]? = FF[(j + 1) * 1 + q]?) := fun q => by rw [← HFF.out, ← HZ.out]; exact fin_3 A D _ j q AL.out
          have ZL : Hid (Z.length = j + 1 + (L - j)) := by show _ = _; rw [← HZ.out, List.length_append, List.length_append, AL.out, DL.out]; rfl
          have FL : Hid (FF.length = (j + 1 + (L - j)) * 1) := by show _ = _; rw [← HFF.out, cellsI_len, ZL.out, Nat.mul_one]
          go_wp2_with fail
          have hne := KR.later_some (frel W.heap.size 3 FF 1) W

          refine KR.wp_region_k (E := frel W.heap.size 3 FF 1) (fun _ _ _ _ => True) (by kernel_rfl) (by kernel_rfl) (by kernel_rfl) ?_
          refine KR.lexK_some (fun u w' => LitF W.heap.size 3 w' u 0 #[]) (fun u => LitF.up (by simp)) rfl (fun w1' he1 _ => ?_) ?_
          · exact ⟨.slice (some ⟨w1'.heap.size, 0, none⟩) 0 0, w1'.alloc (.cells #[] 3), by kernel_rfl, ExtF.ofExt (ext_alloc _ _), _, rfl, he1.size, heap_alloc_top _ _⟩
          intro uA wA _ _ _
          simp only [Act.put, List.setIfInBounds_toArray, List.set_cons_succ, List.set_cons_zero]
          refine KR.lexK_take 3 (by kernel_rfl) ?_
          simp only [List.take_succ_cons, List.take_zero, List.drop_succ_cons, List.drop_zero]
          repeat (go_big_quiet_step (fail))
          refine wpQuiet_nil ?_
          refine KR.lexK_some (fun u w' => OwnF W.heap.size 3 FF 1 w' u j ∧ (j = 0 → ∃ a', u = .slice a' 0 0)) (fun u w1' w2' h12 h => ⟨OwnF.up _ _ h12 h.1, h.2⟩) rfl (fun w2' he2 hf2 => ?_) ?_
          · have hb := (hf2 32 (by decide)).2 rfl
            have e2 : Ext W w2' := he2.ext
            obtain ⟨g56, hg56, _⟩ := id hb
            obtain ⟨u2, w3', q1, q2, q3, q4⟩ := append_F (P := Try.prog) (lo := 1) 32 32 _ Try.underlying32 infoI64 rfl (by decide) _ _ 0 j _ _ (cellsI A) hb.own rfl N1.out.2.1 (by rw [cellsI_len, AL.out, Nat.mul_one]) (fun ad hd q u hq => e2.cellOf (N1.out.2.2 ad hd q u hq)) (cellsI_one A) F1.out
              (by
                by_cases h0 : j = 0
                · exact .inl h0
                · refine .inr (.inr fun a' c' hv => ?_)
                  rw [hg56] at hv
                  simp only [Value.slice.injEq] at hv
                  omega) (by unfold maxLen; omega) (by omega) he2.size
            rw [Nat.zero_add] at q3
            refine ⟨u2, w3', run_append_op rfl rfl rfl q1, q2, q3, fun h0 => ?_⟩
            have := q4 _ _ hg56 (by omega)
            rw [h0] at this
            exact this
          intro uB wB _ _ _
          simp only [Act.put, List.setIfInBounds_toArray, List.set_cons_succ, List.set_cons_zero]
          refine KR.lexK_take 1 (by kernel_rfl) ?_
          simp only [List.take_succ_cons, List.take_zero, List.drop_succ_cons, List.drop_zero]
          repeat (go_big_quiet_step (fail))
          refine wpQuiet_nil ?_
          refine KR.lexK_some (fun u w' => LitF W.heap.size 3 w' u 1 #[.int .i64 (i : Int)]) (fun u => LitF.up (by simp)) rfl (fun w1' he1 _ => ?_) ?_
          · exact ⟨.slice (some ⟨w1'.heap.size, 0, none⟩) 1 1, w1'.alloc (.cells #[.int .i64 (i : Int)] 3), by kernel_rfl, ExtF.ofExt (ext_alloc _ _), _, rfl, he1.size, heap_alloc_top _ _⟩
          intro uC wC _ _ _
          simp only [Act.put, List.setIfInBounds_toArray, List.set_cons_succ, List.set_cons_zero]
          refine KR.lexK_some (fun u w' => OwnF W.heap.size 3 FF 1 w' u (j + 1)) (fun u => OwnF.up) rfl (fun w2' he2 hf2 => ?_) ?_
          · have hb := (hf2 36 (by decide)).1.2 rfl
            have hl := (hf2 38 (by decide)).2 rfl
            obtain ⟨ad, had, hnew⟩ := hl.news
            obtain ⟨u2, w3', q1, q2, q3, q4⟩ := append_F (P := Try.prog) (lo := 1) 32 32 _ Try.underlying32 infoI64 rfl (by decide) _ _ j 1 (some ad) 1 (cellsI [(i : Int)]) hb.1 had (fun h => by cases h) rfl (fun ad' hd q u hq => by
                simp only [Option.some.injEq] at hd
                subst hd
                exact hnew q u hq) (cellsI_one _) F2.out
              (by
                by_cases h0 : j = 0
                · refine .inr (.inr fun a' c' hv => ?_)
                  obtain ⟨a'', h1⟩ := hb.2 h0
                  rw [h1] at hv
                  simp only [Value.slice.injEq] at hv
                  omega
                · exact .inr (.inl (by omega))) (by unfold maxLen; omega) (by rw [FL.out]; omega) he2.size
            exact ⟨u2, w3', run_append_op rfl rfl rfl q1, q2, q3⟩
          intro uD wD _ _ _
          simp only [Act.put, List.setIfInBounds_toArray, List.set_cons_succ, List.set_cons_zero]
          refine KR.lexK_take 3 (by kernel_rfl) ?_
          simp only [List.take_succ_cons, List.take_zero, List.drop_succ_cons, List.drop_zero]
          repeat (go_big_quiet_step (fail))
          refine wpQuiet_nil ?_
          refine KR.lexK_some (fun u w' => OwnF W.heap.size 3 FF 1 w' u (j + 1 + (L - j))) (fun u => OwnF.up) rfl (fun w2' he2 hf2 => ?_) ?_
          · have hb := (hf2 39 (by decide)).2 rfl
            have e2 : Ext W w2' := he2.ext
            obtain ⟨u2, w3', q1, q2, q3, q4⟩ := append_F (P := Try.prog) (lo := 1) 32 32 _ Try.underlying32 infoI64 rfl (by decide) _ _ (j + 1) (L - j) _ _ (cellsI D) hb rfl N2.out.2.1 (by rw [cellsI_len, DL.out, Nat.mul_one]) (fun ad hd q u hq => e2.cellOf (N2.out.2.2 ad hd q u hq)) (cellsI_one D) (fun q _ => F3.out q)
              (by
                by_cases h0 : L - j = 0
                · exact .inl h0
                · exact .inr (.inl (by omega))) (by unfold maxLen; omega) (by rw [FL.out]; omega) he2.size
            exact ⟨u2, w3', run_append_op rfl rfl rfl q1, q2, q3⟩
          intro uE wE _ _ _
          simp only [Act.put, List.setIfInBounds_toArray, List.set_cons_succ, List.set_cons_zero]
          refine KR.lexK_take 1 (by kernel_rfl) ?_
          simp only [List.take_succ_cons, List.take_zero, List.drop_succ_cons, List.drop_zero]
          repeat (go_big_quiet_step (fail))
          refine wpQuiet_nil ?_
          refine KR.lexK_nil ?_
          intro w5 he5 hf5
          have OF := (hf5 43).2 rfl
          have EF : Ext W w5 := he5.ext
          have OP : Hid (Own .i64 3 w.heap.size w5 uE Z) := by
            rw [← HFF.out] at OF
            exact (OF.own ZL.out).low HEW.out.size
          have XE : Hid (Ext w w5) := HEW.out.trans EF
          clear hne r1 r2 he5 hf5 OF EF
          go_wp2
          go_roundw
          case rel => exact ⟨i + 1, ZZ, by omega, by go_num, ZS, ZP, (show Own _ _ _ _ _ _ by rw [← ZQ.out]; exact OP.out), XE⟩
          case measure => simp [intOf]; omega
        · obtain ⟨J, HJ⟩ : ∃ J, Hid (j = J + 1) := ⟨j - 1, by show _ = _; omega⟩
          have hJL : J < L := by have := HJ.out; omega
          have hJL' : (J : Int) < L := by omega
          have hJj : (j : Int) - 1 = (J : Int) := by have := HJ.out; omega
          have HSJ : Hid (j - 1 = J) := by show _ = _; have := HJ.out; omega
          have wJ : IntKind.i64.wrap (J : Int) = (J : Int) := by rw [IntKind.wrap_i64]; omega
          have d0 : decide ((0 : Int) < (j : Int)) = true := by simp; omega
          have d1 : (0 : Int) < (j : Int) := by omega
          have d2 : 0 < j := by omega
          obtain ⟨_, _, _, hco⟩ := HO.out.sl.nat
          obtain ⟨og, ooff, hoa, ocell⟩ := hco (by omega)
          have c3 := ocell J hJL
          clear hco ocell
          have ho := HIO.out J hJL
          obtain ⟨o, HOO⟩ : ∃ o, Hid (out.getD J 0 = o) := ⟨_, rfl⟩
          rw [HOO.out] at c3 ho
          subst hoa
          obtain ⟨db, rb, sb, _⟩ := HV.out.runDrop (P := Try.prog) 32 3 Try.underlying32 sizeI64 o (by rw [HN.out]; omega)
          have SB := hide' sb
          clear sb
          have ra := RA.out
          obtain ⟨C, HC⟩ : ∃ C, Hid (cmpI (s.drop i) (s.drop o) = C) := ⟨_, rfl⟩
          have HW : Hid (∀ m, Calls Try.prog 30 #[.slice da (n - i) (c - i), .slice db (n - o) (c - o)] (wr.drewN m) fun e w' => e = .returned (.int .i64 C) ∧ ∃ k, w' = (wr.drewN m).drewN k) := fun m => by
            have := kinWords_any _ _ (s.drop i) (s.drop o) (wr.drewN m) ((SA.out.ext HE.out).drewN m) ((SB.out.ext HE.out).drewN m) (HDL.out i) (HDL.out o)
            rw [HC.out] at this
            exact this
          have HLT : Hid (ltE s i o ↔ C < 0) := by show _ ↔ _; unfold ltE; rw [HC.out]
          by_cases hyx : C < 0
          · have IN2 : Hid (∀ q, J ≤ q → q < L → ltE s i (out.getD q 0)) := fun q h1 h2 => by
              by_cases hq : q = J
              · subst hq; rw [HOO.out]; exact HLT.out.2 hyx
              · exact IN.out q (by have := HJ.out; omega) h2
            clear hj0
            go_wp2_with fail
            go_quiet ((go_at_call 30; exact Calls.quiet_of (HW.out _)))
            go_wp2
            go_roundw
            case rel => exact ⟨J, by omega, by first | rfl | go_num, IN2, HO.out.ext (Ext.drewN _ _), HE.out.trans (Ext.drewN _ _)⟩
            case measure => simp [intOf]; have := HJ.out; omega
          · obtain ⟨ZZ, hz1, hz2, hz3⟩ := INP.out j hj IN.out (.inr (by rw [HSJ.out, HOO.out]; exact fun h => hyx (HLT.out.1 h)))
            have ZQ := hide' hz1
            have ZS := hide' hz2
            have ZP := hide' hz3
            clear hz1 hz2 hz3
            have dyx : decide (C < 0) = false := by simp; omega
            clear hyx hj0
            go_wp2_with fail
            go_quiet ((go_at_call 30; exact Calls.quiet_of (HW.out _)))
            have HOW := hide' (HO.out.ext (Ext.drewN wr nq))
            have HEW := hide' (HE.out.trans (Ext.drewN wr nq))
            generalize wr.drewN nq = W at *
            clear d0 d1 d2 HO HE c3 dyx hJj ra rb HW
            have SW := hide' HOW.out.sl
            obtain ⟨r1, s1⟩ := SW.out.runTake (P := Try.prog) 32 3 Try.underlying32 sizeI64 j (by rw [HOL.out]; exact hj)
            obtain ⟨da, r2, s2, _⟩ := SW.out.runDrop (P := Try.prog) 32 3 Try.underlying32 sizeI64 j (by rw [HOL.out]; exact hj)
            have N1 := hide' s1.newsI
            have N2 := hide' s2.newsI
            clear s1 s2 SW
            have AL : Hid (((natL out).take j).length = j) := by show _ = _; rw [List.length_take, HOL.out]; omega
            have DL : Hid (((natL out).drop j).length = L - j) := by show _ = _; rw [List.length_drop, HOL.out]
            obtain ⟨A, HAA⟩ : ∃ A, Hid ((natL out).take j = A) := ⟨_, rfl⟩
            obtain ⟨D, HDD⟩ : ∃ D, Hid ((natL out).drop j = D) := ⟨_, rfl⟩
            rw [HAA.out] at N1 AL ZQ
            rw [HDD.out] at N2 DL ZQ
            obtain ⟨Z, HZ⟩ : ∃ Z, Hid (A ++ [(i : Int)] ++ D = Z) := ⟨_, rfl⟩
            rw [HZ.out] at ZQ
            obtain ⟨FF, HFF⟩ : ∃ FF, Hid (cellsI Z = FF) := ⟨_, rfl⟩
            have F1 : Hid (∀ q, q < j * 1 → (cellsI A)[q]? = FF[0 * 1 + q]?) := fun q hq => by rw [← HFF.out, ← HZ.out]; exact fin_1 A D _ j q AL.out hq
            have F2 : Hid (∀ q, q < 1 * 1 → (cellsI [(i : Int)])[q]? = FF[j * 1 + q]?) := fun q hq => by rw [← HFF.out, ← HZ.out]; exact fin_2 A D _ j q AL.out hq
            have F3 : Hid (∀ q, (cellsI D)[q]? = FF[(j + 1) * 1 + q]?) := fun q => by rw [← HFF.out, ← HZ.out]; exact fin_3 A D _ j q AL.out
            have ZL : Hid (Z.length = j + 1 + (L - j)) := by show _ = _; rw [← HZ.out, List.length_append, List.length_append, AL.out, DL.out]; rfl
            have FL : Hid (FF.length = (j + 1 + (L - j)) * 1) := by show _ = _; rw [← HFF.out, cellsI_len, ZL.out, Nat.mul_one]
            go_wp2_with fail
            have hne := KR.later_some (frel W.heap.size 3 FF 1) W

            refine KR.wp_region_k (E := frel W.heap.size 3 FF 1) (fun _ _ _ _ => True) (by kernel_rfl) (by kernel_rfl) (by kernel_rfl) ?_
            refine KR.lexK_some (fun u w' => LitF W.heap.size 3 w' u 0 #[]) (fun u => LitF.up (by simp)) rfl (fun w1' he1 _ => ?_) ?_
            · exact ⟨.slice (some ⟨w1'.heap.size, 0, none⟩) 0 0, w1'.alloc (.cells #[] 3), by kernel_rfl, ExtF.ofExt (ext_alloc _ _), _, rfl, he1.size, heap_alloc_top _ _⟩
            intro uA wA _ _ _
            simp only [Act.put, List.setIfInBounds_toArray, List.set_cons_succ, List.set_cons_zero]
            refine KR.lexK_take 3 (by kernel_rfl) ?_
            simp only [List.take_succ_cons, List.take_zero, List.drop_succ_cons, List.drop_zero]
            repeat (go_big_quiet_step (fail))
            refine wpQuiet_nil ?_
            refine KR.lexK_some (fun u w' => OwnF W.heap.size 3 FF 1 w' u j ∧ (j = 0 → ∃ a', u = .slice a' 0 0)) (fun u w1' w2' h12 h => ⟨OwnF.up _ _ h12 h.1, h.2⟩) rfl (fun w2' he2 hf2 => ?_) ?_
            · have hb := (hf2 32 (by decide)).2 rfl
              have e2 : Ext W w2' := he2.ext
              obtain ⟨g56, hg56, _⟩ := id hb
              obtain ⟨u2, w3', q1, q2, q3, q4⟩ := append_F (P := Try.prog) (lo := 1) 32 32 _ Try.underlying32 infoI64 rfl (by decide) _ _ 0 j _ _ (cellsI A) hb.own rfl N1.out.2.1 (by rw [cellsI_len, AL.out, Nat.mul_one]) (fun ad hd q u hq => e2.cellOf (N1.out.2.2 ad hd q u hq)) (cellsI_one A) F1.out
                (by
                  by_cases h0 : j = 0
                  · exact .inl h0
                  · refine .inr (.inr fun a' c' hv => ?_)
                    rw [hg56] at hv
                    simp only [Value.slice.injEq] at hv
                    omega) (by unfold maxLen; omega) (by omega) he2.size
              rw [Nat.zero_add] at q3
              refine ⟨u2, w3', run_append_op rfl rfl rfl q1, q2, q3, fun h0 => ?_⟩
              have := q4 _ _ hg56 (by omega)
              rw [h0] at this
              exact this
            intro uB wB _ _ _
            simp only [Act.put, List.setIfInBounds_toArray, List.set_cons_succ, List.set_cons_zero]
            refine KR.lexK_take 1 (by kernel_rfl) ?_
            simp only [List.take_succ_cons, List.take_zero, List.drop_succ_cons, List.drop_zero]
            repeat (go_big_quiet_step (fail))
            refine wpQuiet_nil ?_
            refine KR.lexK_some (fun u w' => LitF W.heap.size 3 w' u 1 #[.int .i64 (i : Int)]) (fun u => LitF.up (by simp)) rfl (fun w1' he1 _ => ?_) ?_
            · exact ⟨.slice (some ⟨w1'.heap.size, 0, none⟩) 1 1, w1'.alloc (.cells #[.int .i64 (i : Int)] 3), by kernel_rfl, ExtF.ofExt (ext_alloc _ _), _, rfl, he1.size, heap_alloc_top _ _⟩
            intro uC wC _ _ _
            simp only [Act.put, List.setIfInBounds_toArray, List.set_cons_succ, List.set_cons_zero]
            refine KR.lexK_some (fun u w' => OwnF W.heap.size 3 FF 1 w' u (j + 1)) (fun u => OwnF.up) rfl (fun w2' he2 hf2 => ?_) ?_
            · have hb := (hf2 36 (by decide)).1.2 rfl
              have hl := (hf2 38 (by decide)).2 rfl
              obtain ⟨ad, had, hnew⟩ := hl.news
              obtain ⟨u2, w3', q1, q2, q3, q4⟩ := append_F (P := Try.prog) (lo := 1) 32 32 _ Try.underlying32 infoI64 rfl (by decide) _ _ j 1 (some ad) 1 (cellsI [(i : Int)]) hb.1 had (fun h => by cases h) rfl (fun ad' hd q u hq => by
                  simp only [Option.some.injEq] at hd
                  subst hd
                  exact hnew q u hq) (cellsI_one _) F2.out
                (by
                  by_cases h0 : j = 0
                  · refine .inr (.inr fun a' c' hv => ?_)
                    obtain ⟨a'', h1⟩ := hb.2 h0
                    rw [h1] at hv
                    simp only [Value.slice.injEq] at hv
                    omega
                  · exact .inr (.inl (by omega))) (by unfold maxLen; omega) (by rw [FL.out]; omega) he2.size
              exact ⟨u2, w3', run_append_op rfl rfl rfl q1, q2, q3⟩
            intro uD wD _ _ _
            simp only [Act.put, List.setIfInBounds_toArray, List.set_cons_succ, List.set_cons_zero]
            refine KR.lexK_take 3 (by kernel_rfl) ?_
            simp only [List.take_succ_cons, List.take_zero, List.drop_succ_cons, List.drop_zero]
            repeat (go_big_quiet_step (fail))
            refine wpQuiet_nil ?_
            refine KR.lexK_some (fun u w' => OwnF W.heap.size 3 FF 1 w' u (j + 1 + (L - j))) (fun u => OwnF.up) rfl (fun w2' he2 hf2 => ?_) ?_
            · have hb := (hf2 39 (by decide)).2 rfl
              have e2 : Ext W w2' := he2.ext
              obtain ⟨u2, w3', q1, q2, q3, q4⟩ := append_F (P := Try.prog) (lo := 1) 32 32 _ Try.underlying32 infoI64 rfl (by decide) _ _ (j + 1) (L - j) _ _ (cellsI D) hb rfl N2.out.2.1 (by rw [cellsI_len, DL.out, Nat.mul_one]) (fun ad hd q u hq => e2.cellOf (N2.out.2.2 ad hd q u hq)) (cellsI_one D) (fun q _ => F3.out q)
                (by
                  by_cases h0 : L - j = 0
                  · exact .inl h0
                  · exact .inr (.inl (by omega))) (by unfold maxLen; omega) (by rw [FL.out]; omega) he2.size
              exact ⟨u2, w3', run_append_op rfl rfl rfl q1, q2, q3⟩
            intro uE wE _ _ _
            simp only [Act.put, List.setIfInBounds_toArray, List.set_cons_succ, List.set_cons_zero]
            refine KR.lexK_take 1 (by kernel_rfl) ?_
            simp only [List.take_succ_cons, List.take_zero, List.drop_succ_cons, List.drop_zero]
            repeat (go_big_quiet_step (fail))
            refine wpQuiet_nil ?_
            refine KR.lexK_nil ?_
            intro w5 he5 hf5
            have OF := (hf5 43).2 rfl
            have EF : Ext W w5 := he5.ext
            have OP : Hid (Own .i64 3 w.heap.size w5 uE Z) := by
              rw [← HFF.out] at OF
              exact (OF.own ZL.out).low HEW.out.size
            have XE : Hid (Ext w w5) := HEW.out.trans EF
            clear hne r1 r2 he5 hf5 OF EF
            go_wp2
            go_roundw
            case rel => exact ⟨i + 1, ZZ, by omega, by go_num, ZS, ZP, (show Own _ _ _ _ _ _ by rw [← ZQ.out]; exact OP.out), XE⟩
            case measure => simp [intOf]; omega
    · have hlt' : decide ((i : Int) < n) = false := by simp; omega
      have hin : n = i := by omega
      have HII : Hid (InOrd s out) := ⟨by rw [HN.out, hin]; exact HPO.out, HSO.out⟩
      go_wp2
      go_ret
      exact ⟨_, out, rfl, HII.out, HO.out, HE.out⟩
end Go.Proofs.Ytokmlklcjipkiaa

/- Contracts of the document's own Numbers and Bytes: whorlref13. -/
namespace Go.Proofs.Ytokmlklcjipkiaa
set_option linter.unusedVariables false
set_option linter.unusedSimpArgs false
open Go.RowKit

set_option maxHeartbeats 1000000 in
theorem rnumbers_any (v : Value) (zs : List Int) (w : World) (hv : Sl .u8 w v zs) (h8 : Bytes8 zs) (hlen : zs.length ≤ 1000000) :
    Calls Try.prog 24 #[v] w fun e w' => ∃ u, e = .returned u ∧ Own .i64 3 w.heap.size w' u zs ∧ Ext w w' := by
  have HV := hide' hv
  have H8 := hide' h8
  obtain ⟨a, c, rfl, _⟩ := hv
  obtain ⟨n, HN⟩ : ∃ n, Hid (zs.length = n) := ⟨_, rfl⟩
  rw [HN.out] at HV hlen ⊢
  clear h8
  go_enter Try.func24, Try.ntmps24
  go_wp2
  go_loopw [3, 4] (fun ov vi wr => ∃ (i : Nat), i ≤ n ∧ vi = .int .i64 i ∧ Hid (Own .i64 3 w.heap.size wr ov (zs.take i)) ∧ Hid (Ext w wr)) (fun _ vi _ => n - (intOf vi).toNat)
  case atStart => exact ⟨0, Nat.zero_le _, rfl, Own.nil _ _ _ _, Ext.refl _⟩
  case round =>
    obtain ⟨i, hi, rfl, HO, HE⟩ := hrel
    have hsz := HE.out.size
    by_cases hlt : i < n
    · have hlt' : (i : Int) < n := by omega
      have HT := hide' (takeI_succ (l := zs) (i := i) (by rw [HN.out]; exact hlt))
      have HTL : Hid ((zs.take i).length ≤ 1000000) := by show _ ≤ _; rw [List.length_take]; omega
      obtain ⟨_, g1, o1, rfl, k1⟩ := HV.out.at (fun e => by have := HN.out; rw [e] at this; simp at this; omega)
      have c1 := HE.out.cellOf (k1 i hlt)
      have hz := H8.out.get i
      obtain ⟨z, HZ⟩ : ∃ z, Hid (zs.getD i 0 = z) := ⟨_, rfl⟩
      rw [HZ.out] at c1 HT hz
      obtain ⟨T, HTT⟩ : ∃ T, Hid (zs.take i = T) := ⟨_, rfl⟩
      rw [HTT.out] at HT HTL HO
      have hw : IntKind.i64.wrap z = z := by rw [IntKind.wrap_i64]; omega
      clear k1
      go_wp2_with (at_builtin; refine wpList_snoc _ rfl _ _ 32 rfl 3 .i64 8 Try.underlying32 infoI64 w.heap.size _ T z ⟨wr.heap.size, 0, none⟩ rfl rfl ?c4 (HO.out.alloc _) ?c3 ?c5 ?_)
      case c3 => have := HTL.out; unfold maxLen; omega
      case c5 => simp; omega
      case c4 => simp only [World.cell?, heap_alloc_top]; simp
      intro v1 w4 ho1 hb1
      have HO1 : Hid (Own .i64 3 w.heap.size w4 v1 (zs.take (i + 1))) := by rw [HT.out]; exact ho1
      have HE1 : Hid (Ext w w4) := Below.trans (HE.out.trans (ext_alloc _ _)) (Below.mono hb1 (Nat.le_refl _))
      clear ho1 hb1
      go_wp2
      go_roundw
      case rel => exact ⟨i + 1, by omega, by go_num, HO1, HE1⟩
      case measure => simp [intOf] <;> omega
    · have d2 : decide ((i : Int) < n) = false := by simp; omega
      have hin : n = i := by omega
      go_wp2
      go_ret
      refine ⟨_, rfl, ?_, HE.out⟩
      have := HO.out
      rw [List.take_of_length_le (by rw [HN.out]; omega)] at this
      exact this

theorem srBytes_any (v : Value) (zs : List Int) (w : World) (hv : Sl .u8 w v zs) (h8 : Bytes8 zs) (hlen : zs.length ≤ 100000) :
    Calls Try.prog 16 #[v] w fun e w' => ∃ u L, e = .returned u ∧ ResI zs 256 L 0 ∧ Own .i64 3 w.heap.size w' u L ∧ Ext w w' := by
  have C := hide' (rnumbers_any v zs w hv h8 (by omega))
  have HL := hide' hlen
  have HF := hide' (fit256 h8)
  clear hv h8
  go_enter Try.func16, Try.ntmps16
  go_wp2_with fail
  refine C.out.mono ?_
  rintro e w1 ⟨u, rfl, ho, he⟩
  have S1 := hide' ho.sl
  have X1 := hide' he
  have hz := he.size
  clear ho he C
  go_wp2_with fail
  refine (rorder_any _ zs w1 S1.out HL.out).mono ?_
  rintro e w2 ⟨u2, R, rfl, hR, ho, he⟩
  have O2 := hide' (ho.low hz)
  have X2 := hide' (X1.out.trans he)
  have HR : Hid (ResI zs 256 (natL R) 0) := .inr (.inr ⟨HL.out, HF.out, rfl, R, hR, rfl⟩)
  clear ho he hR
  go_wp2
  go_ret
  exact ⟨_, _, rfl, HR.out, O2.out, X2.out⟩
end Go.Proofs.Ytokmlklcjipkiaa

/- A row just laid is the call's own. Over any program; no conditions. -/
namespace Go.Proofs.Ytokmlklcjipkiaa
set_option linter.unusedVariables false
set_option linter.unusedSimpArgs false
open Go.RowKit

theorem Own.lit {k : IntKind} {e : TypeId} {B : Nat} (w : World) (zs : List Int) (n : Nat) (hn : zs.length = n) (hm : n ≤ maxLen) (hB : B ≤ w.heap.size) :
    Own k e B (w.alloc (.cells (zs.map (Value.int k)).toArray e)) (.slice (some ⟨w.heap.size, 0, none⟩) n n) zs := by
  subst hn
  refine ⟨by simp, .inr ⟨w.heap.size, zs.length, (zs.map (Value.int k)).toArray, rfl, hB, heap_alloc_top _ _, Nat.le_refl _, hm, by simp, ?_⟩⟩
  simp
  exact List.take_of_length_le (by simp)
end Go.Proofs.Ytokmlklcjipkiaa

/- Contracts of the document's own Of and Turn: whorlref21. -/
namespace Go.Proofs.Ytokmlklcjipkiaa
set_option linter.unusedVariables false
set_option linter.unusedSimpArgs false
open Go.RowKit

set_option maxHeartbeats 1000000 in
theorem rbwOf_any (v u : Value) (s a : List Int) (w : World) (hv : Sl .u8 w v s) (hu : Sl .i64 w u a) (hs : s.length ≤ 1000000) (ha : a.length ≤ 1000000) :
    Calls Try.prog 13 #[v, u] w fun e w' => ∃ r, e = .returned (.tuple #[r, .int .i64 (bwAtI s a), .bool (lcpOk s a)]) ∧ Own .u8 5 w.heap.size w' r (bwI s a) ∧ Ext w w' := by
  have HV := hide' hv
  have HU := hide' hu
  obtain ⟨va, vc, rfl, _⟩ := hv
  obtain ⟨ua, uc, rfl, _⟩ := hu
  by_cases h1 : a.length = s.length
  · have C : Hid (∀ w', Ext w w' → Calls Try.prog 20 #[.slice ua a.length uc] w' fun e w'' => e = .returned (.bool (ordB a)) ∧ Ext w' w'') := fun w' he => ris_any _ a w' (HU.out.ext he) ha
    cases h2 : ordB a
    · rw [bwI_no (lcpOk_no h2), bwAtI_no (lcpOk_no h2), lcpOk_no h2]
      rw [h2] at C
      clear h2 HU
      obtain ⟨n, HN⟩ : ∃ n, Hid (s.length = n) := ⟨_, rfl⟩
      rw [h1] at C ⊢
      rw [HN.out] at C HV ⊢
      clear h1
      go_enter Try.func13, Try.ntmps13
      go_wp2_with fail
      refine (C.out _ (Ext.refl _)).mono ?_
      rintro e w1 ⟨rfl, he1⟩
      have X1 := hide' he1
      clear he1
      go_wp2
      go_ret3
      exact ⟨_, rfl, Own.nil _ _ _ _, X1.out⟩
    · have hok := lcpOk_yes h1 h2
      rw [h2] at C
      obtain ⟨hA, hP⟩ := ordB_cast h2
      obtain ⟨A, HA⟩ : ∃ A, Hid (toN a = A) := ⟨_, rfl⟩
      rw [HA.out] at hA hP
      rw [← hA] at hok ⊢
      rw [bwI_nat hok, bwAtI_nat hok, hok]
      obtain ⟨n, HN⟩ : ∃ n, Hid (s.length = n) := ⟨_, rfl⟩
      have hAL : A.length = n := by rw [← HN.out, ← h1, ← hA, natL_len]
      have HAL := hide' hAL
      have HP : Hid (A.Perm (List.range s.length)) := by show _; rw [← h1]; exact hP
      have HU2 : Hid (Sl .i64 w (.slice ua n uc) (natL A)) := by have := HU.out; rw [← hA, natL_len, hAL] at this; exact this
      rw [natL_len, hAL]
      rw [h1, HN.out] at C
      rw [HN.out] at HV hs ⊢
      clear hA hP hAL h2 HU h1 HA hok
      by_cases h0 : n = 0
      · have hs0 : s = [] := List.length_eq_zero_iff.1 (by rw [HN.out, h0])
        have HZ : Hid (bwL s A = [] ∧ bwAt s A = 0) := by
          have := HP.out
          rw [HN.out, h0] at this
          rw [hs0]
          exact bwL_nil this
        rw [HZ.out.1, HZ.out.2]
        have d0 : ((n : Int) == 0) = true := by simp; omega
        clear h0 hs0
        go_enter Try.func13, Try.ntmps13
        go_wp2_with fail
        refine (C.out _ (Ext.refl _)).mono ?_
        rintro e w1 ⟨rfl, he1⟩
        have X1 := hide' he1
        clear he1
        go_wp2
        go_ret3
        exact ⟨_, rfl, Own.nil _ _ _ _, X1.out⟩
      · have d0 : ((n : Int) == 0) = false := by simp; omega
        obtain ⟨N, HNN⟩ : ∃ N, Hid (n = N + 1) := ⟨n - 1, by show _ = _; omega⟩
        have hNn : N < n := by have := HNN.out; omega
        have hNn' : (N : Int) < n := by omega
        have hN1 : (n : Int) - 1 = (N : Int) := by have := HNN.out; omega
        have wN : IntKind.i64.wrap (N : Int) = (N : Int) := by rw [IntKind.wrap_i64]; omega
        have H0 := hide' (bwP_zero A (s := s) (by rw [HN.out]; exact h0))
        have HALL : Hid (bwP s A n = bwL s A) := by have := bwP_all (s := s) (A := A); rw [HAL.out] at this; exact this
        have HATA : Hid (atP A n = bwAt s A) := by have := atP_all HP.out (by rw [HN.out]; exact h0); rw [HAL.out] at this; exact this
        have HND : Hid A.Nodup := HP.out.nodup_iff.2 List.nodup_range
        obtain ⟨_, vg, voff, hva, vcell⟩ := HV.out.at (fun e => by have := HN.out; rw [e] at this; simp at this; omega)
        subst hva
        have VC : Hid (∀ W j, Ext w W → j < n → W.cell? ⟨vg, voff + j, none⟩ = some (.int .u8 (s.getD j 0))) := fun W j he hj => he.cellOf (vcell j hj)
        clear vcell h0
        go_enter Try.func13, Try.ntmps13
        go_wp2_with fail
        refine (C.out _ (Ext.refl _)).mono ?_
        rintro e w1 ⟨rfl, he1⟩
        have X1 := hide' he1
        have hz1 := he1.size
        have c0 := VC.out w1 N he1 hNn
        clear he1 C
        obtain ⟨z, HZ⟩ : ∃ z, Hid (s.getD N 0 = z) := ⟨_, rfl⟩
        rw [HZ.out] at c0
        have H00 : Hid (bwP s A 0 = [z]) := by show _ = _; rw [H0.out, HN.out, show n - 1 = N by have := HNN.out; omega, HZ.out]
        have HO := hide' (Own.lit (k := .u8) (e := 5) (B := w.heap.size) w1 [z] 1 rfl (by decide) hz1)
        have HE := hide' (X1.out.trans (ext_alloc w1 (.cells (([z] : List Int).map (Value.int .u8)).toArray 5)))
        go_wp2
        go_loopw [7, 8, 9] (fun vl vt vi wr => ∃ (i : Nat), i ≤ n ∧ vi = .int .i64 i ∧ vt = .int .i64 (atP A i : Int) ∧ Hid (Own .u8 5 w.heap.size wr vl (bwP s A i)) ∧ Hid (Ext w wr)) (fun _ _ vi _ => n - (intOf vi).toNat)
        case atStart => exact ⟨0, Nat.zero_le _, rfl, by rw [atP_zero]; rfl, by rw [H00.out]; exact HO, HE⟩
        case round =>
          clear HO HE c0
          obtain ⟨i, hi, rfl, rfl, HO, HE⟩ := hrel
          have hsz := HE.out.size
          by_cases hlt : i < n
          · have hlt' : (i : Int) < n := by omega
            obtain ⟨_, _, _, hco⟩ := HU2.out.nat
            obtain ⟨og, ooff, hoa, ocell⟩ := hco (by omega)
            subst hoa
            have c1 := HE.out.cellOf (ocell i hlt)
            clear hco ocell
            have hx : A.getD i 0 < n := by
              have := List.mem_range.1 (HP.out.mem_iff.1 (getN_mem (l := A) (i := i) (by rw [HAL.out]; exact hlt)))
              rw [HN.out] at this
              exact this
            have hA1 : i < A.length := by rw [HAL.out]; exact hlt
            by_cases hx0 : A.getD i 0 = 0
            · rw [hx0] at c1
              have HB := hide' (bwP_nought (s := s) hA1 hx0)
              have HT := hide' (atP_nought HND.out hA1 hx0)
              have HO2 := HO
              rw [← HB.out] at HO2
              clear hx0 hx hA1
              go_wp2
              go_roundw
              case rel => exact ⟨i + 1, by omega, by go_num, by rw [HT.out]; go_num, HO2, HE⟩
              case measure => simp [intOf]; omega
            · have HB := hide' (bwP_other (s := s) hA1 hx0)
              have HT := hide' (atP_other hA1 hx0)
              obtain ⟨x, HX⟩ : ∃ x, Hid (A.getD i 0 = x + 1) := ⟨A.getD i 0 - 1, by show _ = _; omega⟩
              rw [HX.out] at c1 hx
              rw [HX.out, Nat.add_sub_cancel] at HB
              obtain ⟨X, HXX⟩ : ∃ X, Hid (x + 1 = X) := ⟨_, rfl⟩
              rw [HXX.out] at c1 hx
              have hX0 : ((X : Int) == 0) = false := by have := HXX.out; simp; omega
              have hX1 : (X : Int) - 1 = (x : Int) := by have := HXX.out; omega
              have wX : IntKind.i64.wrap (x : Int) = (x : Int) := by rw [IntKind.wrap_i64]; have := HXX.out; omega
              have hxn : x < n := by have := HXX.out; omega
              have hxn' : (x : Int) < n := by omega
              have c2 := VC.out wr x HE.out hxn
              obtain ⟨y, HY⟩ : ∃ y, Hid (s.getD x 0 = y) := ⟨_, rfl⟩
              rw [HY.out] at c2 HB
              have hPL := bwP_len (s := s) (A := A) (i := i)
              obtain ⟨PP, HPP⟩ : ∃ l, Hid (bwP s A i = l) := ⟨_, rfl⟩
              rw [HPP.out] at hPL HB HO
              have hPL2 := hide' hPL
              clear hx0 hA1 hPL
              go_wp2_with (at_builtin; refine wpList_snoc _ rfl _ _ 22 rfl 5 .u8 1 Try.underlying22 infoU8 w.heap.size _ PP y ⟨wr.heap.size, 0, none⟩ rfl rfl ?c4 (HO.out.alloc _) ?c3 ?c5 ?_)
              case c3 => have := hPL2.out; unfold maxLen; omega
              case c5 => simp; omega
              case c4 => simp only [World.cell?, heap_alloc_top]; simp
              intro v1 w4 ho1 hb1
              have HO1 : Hid (Own .u8 5 w.heap.size w4 v1 (bwP s A (i + 1))) := by rw [HB.out]; exact ho1
              have HE1 : Hid (Ext w w4) := Below.trans (HE.out.trans (ext_alloc _ _)) (Below.mono hb1 (Nat.le_refl _))
              clear ho1 hb1 c1 c2
              go_wp2
              go_roundw
              case rel => exact ⟨i + 1, by omega, by go_num, by rw [HT.out], HO1, HE1⟩
              case measure => simp [intOf]; omega
          · have hlt' : decide ((i : Int) < n) = false := by simp; omega
            have hin : i = n := by omega
            have HB : Hid (bwP s A i = bwL s A ∧ atP A i = bwAt s A) := by rw [hin]; exact ⟨HALL.out, HATA.out⟩
            clear hin
            go_wp2
            go_ret3
            rw [← HB.out.1, ← HB.out.2]
            exact ⟨_, rfl, HO.out, HE.out⟩
  · have d1 : ((a.length : Int) != (s.length : Int)) = true := by simp; omega
    rw [bwI_no (lcpOk_long h1), bwAtI_no (lcpOk_long h1), lcpOk_long h1]
    clear h1
    go_enter Try.func13, Try.ntmps13
    go_wp2_with fail
    go_ret3
    exact ⟨_, rfl, Own.nil _ _ _ _, Ext.refl _⟩

theorem rbwTurn_any (v : Value) (s : List Int) (w : World) (hv : Sl .u8 w v s) (h8 : Bytes8 s) (hs : s.length ≤ 100000) :
    Calls Try.prog 9 #[v] w fun e w' => ∃ r, e = .returned (.tuple #[r, .int .i64 (turnB s).2]) ∧ Own .u8 5 w.heap.size w' r (turnB s).1 ∧ Ext w w' := by
  have HV := hide' hv
  have C := hide' (srBytes_any v s w hv h8 hs)
  have HS := hide' hs
  have HF := hide' (fit256 h8)
  obtain ⟨va, vc, rfl, _⟩ := hv
  clear h8 hs
  go_enter Try.func9, Try.ntmps9
  go_wp2_with fail
  refine C.out.mono ?_
  rintro e w1 ⟨u1, L1, rfl, hR, ho, he⟩
  obtain ⟨_, A, hA, rfl⟩ := hR.ok HS.out HF.out
  obtain rfl := hA.eq (sortE_ord s)
  have HOK : Hid (lcpOk s (natL (sortE s)) = true) := lcpOk_yes (by rw [natL_len, hA.len]) (ordB_nat (by have := hA.1; rwa [← hA.len] at this))
  have HL6 : Hid ((natL (sortE s)).length ≤ 1000000) := by show _ ≤ _; rw [natL_len, hA.len]; have := HS.out; omega
  have O1 := hide' ho.sl
  have X1 := hide' he
  have hz := he.size
  have HBW : Hid (bwI s (natL (sortE s)) = bwL s (sortE s) ∧ bwAtI s (natL (sortE s)) = (bwAt s (sortE s) : Int)) := ⟨bwI_nat HOK.out, bwAtI_nat HOK.out⟩
  clear hR hA ho he C
  go_wp2_with fail
  refine (rbwOf_any _ _ s (natL (sortE s)) w1 (HV.out.ext X1.out) O1.out (Nat.le_trans HS.out (by omega)) HL6.out).mono ?_
  rw [HBW.out.1, HBW.out.2, HOK.out]
  rintro e w2 ⟨u2, rfl, ho, he⟩
  have O2 := hide' (ho.low hz)
  have X2 := hide' (X1.out.trans he)
  clear ho he
  go_wp2
  go_ret2
  exact ⟨_, rfl, O2.out, X2.out⟩
end Go.Proofs.Ytokmlklcjipkiaa

/- Contract of the document's own Back: whorlref21.Back. -/
namespace Go.Proofs.Ytokmlklcjipkiaa
set_option linter.unusedVariables false
set_option linter.unusedSimpArgs false
open Go.RowKit

theorem rowMay_of {l : List Int} {n at' : Nat} (hl : l.length = n) (h1 : at' ≤ n) (h2 : n = 0 ∨ at' ≠ 0) : rowMayB l (at' : Int) = true := by
  unfold rowMayB
  refine decide_eq_true ⟨by omega, by omega, ?_⟩
  rcases h2 with h | h
  · exact .inl (by omega)
  · exact .inr (by omega)

set_option maxRecDepth 100000 in
set_option maxHeartbeats 4000000 in
theorem rbwBack_any (v : Value) (l : List Int) (at' : Int) (w : World) (hv : Sl .u8 w v l) (h8 : Bytes8 l) (hs : l.length ≤ 100000) :
    Calls Try.prog 14 #[v, .int .i64 at'] w fun e w' => ∃ r, e = .returned (.tuple #[r, .int .i64 (backB l at').2]) ∧ Own .u8 5 w.heap.size w' r (backB l at').1 ∧ Ext w w' := by
  have HV := hide' hv
  have H8 := hide' h8
  obtain ⟨va, vc, rfl, _⟩ := hv
  clear h8
  by_cases b1 : at' < 0
  · rw [backB_out (by unfold rowMayB; exact decide_eq_false (by omega))]
    go_enter Try.func14, Try.ntmps14
    go_wp2
    go_ret2
    exact ⟨_, rfl, Own.nil _ _ _ _, Ext.refl _⟩
  have e1 : decide (at' < 0) = false := by simpa using b1
  by_cases b2 : (l.length : Int) < at'
  · rw [backB_out (by unfold rowMayB; exact decide_eq_false (by omega))]
    go_enter Try.func14, Try.ntmps14
    go_wp2
    go_ret2
    exact ⟨_, rfl, Own.nil _ _ _ _, Ext.refl _⟩
  have e2 : decide ((l.length : Int) < at') = false := by simpa using b2
  by_cases b3 : 0 < l.length ∧ at' = 0
  · obtain ⟨b3, rfl⟩ := b3
    rw [backB_out (by unfold rowMayB; exact decide_eq_false (by omega))]
    have e3 : decide ((0 : Int) < (l.length : Int)) = true := by simp; omega
    clear b1 b2
    go_enter Try.func14, Try.ntmps14
    go_wp2
    go_ret2
    exact ⟨_, rfl, Own.nil _ _ _ _, Ext.refl _⟩
  obtain ⟨k, rfl⟩ := Int.eq_ofNat_of_zero_le (show 0 ≤ at' by omega)
  obtain ⟨n, HN⟩ : ∃ n, Hid (l.length = n) := ⟨_, rfl⟩
  have HM : Hid (rowMayB l (k : Int) = true) := rowMay_of HN.out (by rw [← HN.out]; omega) (by rw [← HN.out]; omega)
  have HS := hide' hs
  rw [HN.out] at HV b2 b3 e2 hs ⊢
  have hkn : k ≤ n := by omega
  have e4 : decide ((k : Int) < 0) = false := by simp
  obtain ⟨w1, hmk, ho, he⟩ := make_bytes w n (by omega)
  have HO := hide' ho
  have HE := hide' he
  have e2' : decide (n < k) = false := by simp; omega
  clear ho he
  by_cases h0 : n = 0
  · have H00 : Hid (n = 0) := h0
    have hn := HS.out
    rw [HN.out] at hn
    have hN1 : (n : Int) - 1 = -1 := by omega
    have e3 : decide ((0 : Int) < (n : Int)) = false := by simp; omega
    have e3' : decide (0 < n) = false := by simp; omega
    have HK0 : Hid (k = 0) := by show _ = _; omega
    clear h0 b1 b2 b3 e1
    go_enter Try.func14, Try.ntmps14
    go_wp2
    clear hmk
    go_loopw [8, 9, 10, 11] (fun vr vi _ _ wr => ∃ (R : List Int), vi = .int .i64 (-1) ∧ vr = .int .i64 0 ∧ Hid (R.length = n) ∧ Hid (Bytes8 R) ∧
      Hid (Own .u8 5 w.heap.size wr (.slice (some ⟨w.heap.size, 0, none⟩) n n) R) ∧ Hid (Ext w wr)) (fun _ vi _ _ _ => (intOf vi + 1).toNat)
    case atStart => exact ⟨List.replicate n 0, by first | rfl | rw [hN1] | go_num, rfl, List.length_replicate, zero_bytes n, HO, HE⟩
    case round =>
      clear HO HE
      obtain ⟨R, rfl, rfl, HL, HB8, HO, HE⟩ := hrel
      have hR0 : R = [] := List.length_eq_zero_iff.1 (by rw [HL.out, H00.out])
      have HFIN : Hid (backB l (k : Int) = if turnB R = (l, (k : Int)) then (R, 0) else ([], 5)) := backB_some HM.out (by rw [HN.out, H00.out, bkGo, hR0])
      clear hR0
      have HMEM : Hid (Bytes8 R) := HB8.out
      go_wp2_with fail
      refine (rbwTurn_any _ R _ HO.out.sl HMEM.out (by rw [HL.out]; exact hn)).mono ?_
      rintro e w5 ⟨u5, rfl, ho, he⟩
      have O5 := hide' ho.sl
      have X5 := hide' (HE.out.trans he)
      have V5 := hide' (HV.out.ext X5.out)
      have R5 := hide' (HO.out.ext he)
      have HT8 : Hid (Bytes8 (turnB R).1) := bwL_bytes (sortE_ord R).1 HMEM.out
      clear ho he
      have hq := strOfNums_inj HT8.out H8.out
      have HFY : Hid (turnB R = (l, (k : Int)) → backB l (k : Int) = (R, 0)) := fun h => by rw [HFIN.out, if_pos h]
      have HFN : Hid (¬ turnB R = (l, (k : Int)) → backB l (k : Int) = ([], 5)) := fun h => by rw [HFIN.out, if_neg h]
      obtain ⟨M, HM1⟩ : ∃ M, Hid ((turnB R).1 = M) := ⟨_, rfl⟩
      obtain ⟨T2, HM2⟩ : ∃ M, Hid ((turnB R).2 = M) := ⟨_, rfl⟩
      have HPR : Hid (turnB R = (M, T2)) := Prod.ext HM1.out HM2.out
      rw [HM1.out] at O5 HT8 hq
      rw [HM2.out]
      have s1 := O5.out.str (P := Try.prog) 22 5 9 Try.underlying22 Try.underlying5 Try.underlying9
      have s2 := V5.out.str (P := Try.prog) 22 5 9 Try.underlying22 Try.underlying5 Try.underlying9
      by_cases g1 : M = l
      · rw [decide_eq_true g1] at hq
        by_cases g2 : T2 = (k : Int)
        · have q2 : (T2 != (k : Int)) = false := by simpa using g2
          have HF := hide' (HFY.out (by rw [HPR.out, g1, g2]))
          clear g1 g2
          go_wp2
          go_ret2
          rw [HF.out]
          exact ⟨_, rfl, R5.out, X5.out⟩
        · have q2 : (T2 != (k : Int)) = true := by simpa using g2
          have HF := hide' (HFN.out (by rw [HPR.out]; exact fun h => g2 (Prod.mk.inj h).2))
          clear g1 g2
          go_wp2
          go_ret2
          rw [HF.out]
          exact ⟨_, rfl, Own.nil _ _ _ _, X5.out⟩
      · rw [decide_eq_false g1] at hq
        have HF := hide' (HFN.out (by rw [HPR.out]; exact fun h => g1 (Prod.mk.inj h).1))
        clear g1
        go_wp2
        go_ret2
        rw [HF.out]
        exact ⟨_, rfl, Own.nil _ _ _ _, X5.out⟩
  · obtain ⟨N, HNN⟩ : ∃ N, Hid (n = N + 1) := ⟨n - 1, by show _ = _; omega⟩
    have e3 : decide ((0 : Int) < (n : Int)) = true := by simp; omega
    have e3' : decide (0 < n) = true := by simp; omega
    have e5 : ((k : Int) == 0) = false := by simp; omega
    have hnp : 0 < n := by omega
    clear b1 b2 b3 e1 h0
    have hn := HS.out
    rw [HN.out] at hn
    have hN1 : (n : Int) - 1 = (N : Int) := by have := HNN.out; omega
    obtain ⟨_, vg, voff, hva, vcell0⟩ := HV.out.at (fun e => by have := HN.out; rw [e] at this; simp at this; omega)
    subst hva
    have vcell : ∀ j, j < n → w.cell? ⟨vg, voff + j, none⟩ = some (.int .u8 (l.getD j 0)) := fun j hj => vcell0 j (by first | exact hj | (rw [HN.out]; exact hj))
    have VC := hide' vcell
    clear vcell0 vcell
    go_enter Try.func14, Try.ntmps14
    go_wp2
    clear hmk
    go_loopw [8, 9, 10, 11] (fun vr vi _ _ wr => ∃ (t r : Nat) (z : Int) (R : List Int), t ≤ n ∧ r ≤ n ∧ z + 1 = (t : Int) ∧ vi = .int .i64 z ∧ vr = .int .i64 (r : Int) ∧ Hid (R.length = n) ∧ Hid (Bytes8 R) ∧ Hid (bkGo l k n 0 [] = bkGo l k t r (R.drop t)) ∧
      Hid (Own .u8 5 w.heap.size wr (.slice (some ⟨w.heap.size, 0, none⟩) n n) R) ∧ Hid (Ext w wr)) (fun _ vi _ _ _ => (intOf vi + 1).toNat)
    case atStart => exact ⟨n, 0, (N : Int), List.replicate n 0, Nat.le_refl _, Nat.zero_le _, by omega, by first | rfl | rw [hN1] | go_num, rfl, List.length_replicate, zero_bytes n, (show _ = _ by rw [List.drop_of_length_le (by rw [List.length_replicate]; exact Nat.le_refl _)]), HO, HE⟩
    case round =>
      clear HO HE
      obtain ⟨t, r, z, R, ht, hr, hz, rfl, rfl, HL, HB8, HGO, HO, HE⟩ := hrel
      have vcell := VC.out
      by_cases h0 : t = 0
      · have d0 : decide (0 ≤ z) = false := by simp; omega
        have HFIN : Hid (backB l (k : Int) = if turnB R = (l, (k : Int)) then (R, 0) else ([], 5)) := backB_some HM.out (by rw [HN.out, HGO.out, h0, bkGo, List.drop_zero])
        clear h0 hz
        have HMEM : Hid (Bytes8 R) := HB8.out
        go_wp2_with fail
        refine (rbwTurn_any _ R _ HO.out.sl HMEM.out (by rw [HL.out]; exact hn)).mono ?_
        rintro e w5 ⟨u5, rfl, ho, he⟩
        have O5 := hide' ho.sl
        have X5 := hide' (HE.out.trans he)
        have V5 := hide' (HV.out.ext X5.out)
        have R5 := hide' (HO.out.ext he)
        have HT8 : Hid (Bytes8 (turnB R).1) := bwL_bytes (sortE_ord R).1 HMEM.out
        clear ho he
        have hq := strOfNums_inj HT8.out H8.out
        have HFY : Hid (turnB R = (l, (k : Int)) → backB l (k : Int) = (R, 0)) := fun h => by rw [HFIN.out, if_pos h]
        have HFN : Hid (¬ turnB R = (l, (k : Int)) → backB l (k : Int) = ([], 5)) := fun h => by rw [HFIN.out, if_neg h]
        obtain ⟨M, HM1⟩ : ∃ M, Hid ((turnB R).1 = M) := ⟨_, rfl⟩
        obtain ⟨T2, HM2⟩ : ∃ M, Hid ((turnB R).2 = M) := ⟨_, rfl⟩
        have HPR : Hid (turnB R = (M, T2)) := Prod.ext HM1.out HM2.out
        rw [HM1.out] at O5 HT8 hq
        rw [HM2.out]
        have s1 := O5.out.str (P := Try.prog) 22 5 9 Try.underlying22 Try.underlying5 Try.underlying9
        have s2 := V5.out.str (P := Try.prog) 22 5 9 Try.underlying22 Try.underlying5 Try.underlying9
        by_cases g1 : M = l
        · rw [decide_eq_true g1] at hq
          by_cases g2 : T2 = (k : Int)
          · have q2 : (T2 != (k : Int)) = false := by simpa using g2
            have HF := hide' (HFY.out (by rw [HPR.out, g1, g2]))
            clear g1 g2
            go_wp2
            go_ret2
            rw [HF.out]
            exact ⟨_, rfl, R5.out, X5.out⟩
          · have q2 : (T2 != (k : Int)) = true := by simpa using g2
            have HF := hide' (HFN.out (by rw [HPR.out]; exact fun h => g2 (Prod.mk.inj h).2))
            clear g1 g2
            go_wp2
            go_ret2
            rw [HF.out]
            exact ⟨_, rfl, Own.nil _ _ _ _, X5.out⟩
        · rw [decide_eq_false g1] at hq
          have HF := hide' (HFN.out (by rw [HPR.out]; exact fun h => g1 (Prod.mk.inj h).1))
          clear g1
          go_wp2
          go_ret2
          rw [HF.out]
          exact ⟨_, rfl, Own.nil _ _ _ _, X5.out⟩
      · obtain ⟨T, HT⟩ : ∃ T, Hid (t = T + 1) := ⟨t - 1, by show _ = _; omega⟩
        obtain rfl : z = (T : Int) := by have := HT.out; omega
        have d0 : decide ((0 : Int) ≤ (T : Int)) = true := by simp
        have hTn : T < n := by have := HT.out; omega
        have hTn' : (T : Int) < n := by omega
        by_cases hrk : r = k
        · have q0 : ((r : Int) == (k : Int)) = true := by simp; omega
          have HF : Hid (backB l (k : Int) = ([], 5)) := backB_none (by rw [HN.out, HGO.out, HT.out, hrk]; exact bkGo_stop _ _ _ _)
          clear hrk
          go_wp2
          go_ret2
          rw [HF.out]
          exact ⟨_, rfl, Own.nil _ _ _ _, HE.out⟩
        · have q0 : ((r : Int) == (k : Int)) = false := by simp; omega
          have HKB : Hid (byteOf k r < n) := byte_lt hr hkn hrk
          have HG : Hid (bkGo l k n 0 [] = bkGo l k T (rkN l (byteOf k r) + 1) (l.getD (byteOf k r) 0 :: R.drop (T + 1))) := by
            show _ = _
            rw [HGO.out, HT.out]
            exact bkGo_next hrk
          by_cases hgt : k < r
          · have q1 : decide ((k : Int) < (r : Int)) = true := by simp; omega
            have q1' : decide (k < r) = true := by simp; omega
            obtain ⟨K, HK⟩ : ∃ K, Hid (r = K + 1) := ⟨r - 1, by show _ = _; omega⟩
            have hK1 : (r : Int) - 1 = (K : Int) := by have := HK.out; omega
            have HBY : byteOf k r = K := by unfold byteOf; rw [if_pos hgt]; have := HK.out; omega
            rw [HBY] at HKB HG
            have HKN := HKB
            have HRL : Hid (rkN l K < n) := by have := rk_lt (l := l) (k := K) (by rw [HN.out]; exact HKN.out); rw [HN.out] at this; exact this
            obtain ⟨y, HY⟩ : ∃ y, Hid (l.getD K 0 = y) := ⟨_, rfl⟩
            have hy : 0 ≤ y ∧ y ≤ 255 := by rw [← HY.out]; exact H8.out.get K
            have HGO2 : Hid (bkGo l k n 0 [] = bkGo l k T (rkN l K + 1) ((R.set T y).drop T)) := by
              show _ = _
              rw [HG.out, HY.out, drop_set (by rw [HL.out]; exact hTn)]
            clear hrk hgt HBY
            have hKn : K < n := HKN.out
            have hKn' : (K : Int) < n := by omega
            have cK := HE.out.cellOf (vcell K hKn)
            rw [HY.out] at cK
            have zt := HO.out.frozen HL.out T
            have ct := HO.out.cell HL.out T hTn
            have HO2 := hide' (HO.out.store HL.out T y)
            have HE2 := hide' (Ext.but HE.out (Nat.le_refl _) (but_set wr w.heap.size T (.int .u8 y)))
            have HL2 : Hid ((R.set T y).length = n) := by show _ = _; rw [List.length_set]; exact HL.out
            have HB2 : Hid (Bytes8 (R.set T y)) := fun z hz => by
              rcases List.mem_or_eq_of_mem_set hz with h | h
              · exact HB8.out z h
              · rw [h]; exact hy
            go_wp2
            go_loopw [8, 11] (fun vr vj wq => ∃ (j : Nat), j ≤ n ∧ vj = .int .i64 j ∧ vr = .int .i64 ((cntJ l K j : Nat) + 1 : Int) ∧ Hid (Own .u8 5 w.heap.size wq (.slice (some ⟨w.heap.size, 0, none⟩) n n) (R.set T y)) ∧ Hid (Ext w wq)) (fun _ vj _ => n - (intOf vj).toNat)
            case atStart => exact ⟨0, Nat.zero_le _, rfl, by rw [cntJ_zero]; rfl, HO2, HE2⟩
            case round =>
              clear HO2 HE2 ct zt cK
              obtain ⟨j, hj, rfl, rfl, HO2, HE2⟩ := hrel
              by_cases hjn : j < n
              · have hjn' : (j : Int) < n := by omega
                have cK := HE2.out.cellOf (vcell K hKn)
                have cj := HE2.out.cellOf (vcell j hjn)
                rw [HY.out] at cK
                have HYES := hide' (cntJ_yes (l := l) (k := K) (J := j))
                have HNO := hide' (cntJ_no (l := l) (k := K) (J := j))
                have HLT : Hid (Lt1 l j K ↔ (l.getD j 0 < y ∨ (l.getD j 0 = y ∧ j < K))) := by show _ ↔ _; rw [← HY.out]
                have hcl := cntJ_le l K j
                obtain ⟨x, HX⟩ : ∃ x, Hid (l.getD j 0 = x) := ⟨_, rfl⟩
                rw [HX.out] at cj HLT
                obtain ⟨C, HC⟩ : ∃ c, Hid (cntJ l K j = c) := ⟨_, rfl⟩
                rw [HC.out] at hcl HYES HNO ⊢
                by_cases g1 : x < y
                · have q1 : decide (x < y) = true := by simpa using g1
                  have HS := hide' (HYES.out (HLT.out.2 (.inl g1)))
                  clear g1 HYES HNO HLT
                  go_wp2_with fail
                  go_quiet (fail)
                  go_wp2
                  go_roundw
                  case rel => exact ⟨j + 1, by omega, by go_num, by rw [HS.out]; first | done | go_num, HO2.out.ext (Ext.drewN _ _), HE2.out.trans (Ext.drewN _ _)⟩
                  case measure => simp [intOf]; omega
                · have q1 : decide (x < y) = false := by simpa using g1
                  by_cases g2 : x = y
                  · have q2 : (x == y) = true := by simpa using g2
                    by_cases g3 : j < K
                    · have q3 : decide ((j : Int) < (K : Int)) = true := by simp; omega
                      have q3' : decide (j < K) = true := by simp; omega
                      have HS := hide' (HYES.out (HLT.out.2 (.inr ⟨g2, g3⟩)))
                      clear g1 g2 g3 HYES HNO HLT
                      go_wp2_with fail
                      go_quiet (fail)
                      go_wp2
                      go_roundw
                      case rel => exact ⟨j + 1, by omega, by go_num, by rw [HS.out]; first | done | go_num, HO2.out.ext (Ext.drewN _ _), HE2.out.trans (Ext.drewN _ _)⟩
                      case measure => simp [intOf]; omega
                    · have q3 : decide ((j : Int) < (K : Int)) = false := by simp; omega
                      have q3' : decide (j < K) = false := by simp; omega
                      have HS := hide' (HNO.out (fun h => by rcases HLT.out.1 h with h | h; exact g1 h; exact g3 h.2))
                      clear g1 g2 g3 HYES HNO HLT
                      go_wp2_with fail
                      go_quiet (fail)
                      go_wp2
                      go_roundw
                      case rel => exact ⟨j + 1, by omega, by go_num, by rw [HS.out], HO2.out.ext (Ext.drewN _ _), HE2.out.trans (Ext.drewN _ _)⟩
                      case measure => simp [intOf]; omega
                  · have q2 : (x == y) = false := by simpa using g2
                    have HS := hide' (HNO.out (fun h => by rcases HLT.out.1 h with h | h; exact g1 h; exact g2 h.1))
                    clear g1 g2 HYES HNO HLT
                    go_wp2_with fail
                    go_quiet (fail)
                    go_wp2
                    go_roundw
                    case rel => exact ⟨j + 1, by omega, by go_num, by rw [HS.out], HO2.out.ext (Ext.drewN _ _), HE2.out.trans (Ext.drewN _ _)⟩
                    case measure => simp [intOf]; omega
              · have hjn' : decide ((j : Int) < n) = false := by simp; omega
                have hjn2 : j = n := by omega
                have HRK : Hid (cntJ l K j = rkN l K) := by rw [hjn2, ← HN.out]; exact cntJ_all l K
                have hrl := HRL.out
                clear hjn2
                go_wp2
                go_roundw
                case rel => exact ⟨T, rkN l K + 1, (T : Int) - 1, R.set T y, by omega, by omega, by omega, by first | rfl | go_num, by rw [HRK.out]; go_num, HL2, HB2, HGO2, HO2, HE2⟩
                case measure => simp [intOf] <;> omega
          · have q1 : decide ((k : Int) < (r : Int)) = false := by simp; omega
            have q1' : decide (k < r) = false := by simp; omega
            obtain ⟨K, HK⟩ : ∃ K, Hid (r = K) := ⟨r, rfl⟩
            have HBY : byteOf k r = K := by unfold byteOf; rw [if_neg hgt]; exact HK.out
            rw [HBY] at HKB HG
            rw [HK.out] at q0 q1 q1' ⊢
            have HKN := HKB
            have HRL : Hid (rkN l K < n) := by have := rk_lt (l := l) (k := K) (by rw [HN.out]; exact HKN.out); rw [HN.out] at this; exact this
            obtain ⟨y, HY⟩ : ∃ y, Hid (l.getD K 0 = y) := ⟨_, rfl⟩
            have hy : 0 ≤ y ∧ y ≤ 255 := by rw [← HY.out]; exact H8.out.get K
            have HGO2 : Hid (bkGo l k n 0 [] = bkGo l k T (rkN l K + 1) ((R.set T y).drop T)) := by
              show _ = _
              rw [HG.out, HY.out, drop_set (by rw [HL.out]; exact hTn)]
            clear hrk hgt HBY
            have hKn : K < n := HKN.out
            have hKn' : (K : Int) < n := by omega
            have cK := HE.out.cellOf (vcell K hKn)
            rw [HY.out] at cK
            have zt := HO.out.frozen HL.out T
            have ct := HO.out.cell HL.out T hTn
            have HO2 := hide' (HO.out.store HL.out T y)
            have HE2 := hide' (Ext.but HE.out (Nat.le_refl _) (but_set wr w.heap.size T (.int .u8 y)))
            have HL2 : Hid ((R.set T y).length = n) := by show _ = _; rw [List.length_set]; exact HL.out
            have HB2 : Hid (Bytes8 (R.set T y)) := fun z hz => by
              rcases List.mem_or_eq_of_mem_set hz with h | h
              · exact HB8.out z h
              · rw [h]; exact hy
            go_wp2
            go_loopw [8, 11] (fun vr vj wq => ∃ (j : Nat), j ≤ n ∧ vj = .int .i64 j ∧ vr = .int .i64 ((cntJ l K j : Nat) + 1 : Int) ∧ Hid (Own .u8 5 w.heap.size wq (.slice (some ⟨w.heap.size, 0, none⟩) n n) (R.set T y)) ∧ Hid (Ext w wq)) (fun _ vj _ => n - (intOf vj).toNat)
            case atStart => exact ⟨0, Nat.zero_le _, rfl, by rw [cntJ_zero]; rfl, HO2, HE2⟩
            case round =>
              clear HO2 HE2 ct zt cK
              obtain ⟨j, hj, rfl, rfl, HO2, HE2⟩ := hrel
              by_cases hjn : j < n
              · have hjn' : (j : Int) < n := by omega
                have cK := HE2.out.cellOf (vcell K hKn)
                have cj := HE2.out.cellOf (vcell j hjn)
                rw [HY.out] at cK
                have HYES := hide' (cntJ_yes (l := l) (k := K) (J := j))
                have HNO := hide' (cntJ_no (l := l) (k := K) (J := j))
                have HLT : Hid (Lt1 l j K ↔ (l.getD j 0 < y ∨ (l.getD j 0 = y ∧ j < K))) := by show _ ↔ _; rw [← HY.out]
                have hcl := cntJ_le l K j
                obtain ⟨x, HX⟩ : ∃ x, Hid (l.getD j 0 = x) := ⟨_, rfl⟩
                rw [HX.out] at cj HLT
                obtain ⟨C, HC⟩ : ∃ c, Hid (cntJ l K j = c) := ⟨_, rfl⟩
                rw [HC.out] at hcl HYES HNO ⊢
                by_cases g1 : x < y
                · have q1 : decide (x < y) = true := by simpa using g1
                  have HS := hide' (HYES.out (HLT.out.2 (.inl g1)))
                  clear g1 HYES HNO HLT
                  go_wp2_with fail
                  go_quiet (fail)
                  go_wp2
                  go_roundw
                  case rel => exact ⟨j + 1, by omega, by go_num, by rw [HS.out]; first | done | go_num, HO2.out.ext (Ext.drewN _ _), HE2.out.trans (Ext.drewN _ _)⟩
                  case measure => simp [intOf]; omega
                · have q1 : decide (x < y) = false := by simpa using g1
                  by_cases g2 : x = y
                  · have q2 : (x == y) = true := by simpa using g2
                    by_cases g3 : j < K
                    · have q3 : decide ((j : Int) < (K : Int)) = true := by simp; omega
                      have q3' : decide (j < K) = true := by simp; omega
                      have HS := hide' (HYES.out (HLT.out.2 (.inr ⟨g2, g3⟩)))
                      clear g1 g2 g3 HYES HNO HLT
                      go_wp2_with fail
                      go_quiet (fail)
                      go_wp2
                      go_roundw
                      case rel => exact ⟨j + 1, by omega, by go_num, by rw [HS.out]; first | done | go_num, HO2.out.ext (Ext.drewN _ _), HE2.out.trans (Ext.drewN _ _)⟩
                      case measure => simp [intOf]; omega
                    · have q3 : decide ((j : Int) < (K : Int)) = false := by simp; omega
                      have q3' : decide (j < K) = false := by simp; omega
                      have HS := hide' (HNO.out (fun h => by rcases HLT.out.1 h with h | h; exact g1 h; exact g3 h.2))
                      clear g1 g2 g3 HYES HNO HLT
                      go_wp2_with fail
                      go_quiet (fail)
                      go_wp2
                      go_roundw
                      case rel => exact ⟨j + 1, by omega, by go_num, by rw [HS.out], HO2.out.ext (Ext.drewN _ _), HE2.out.trans (Ext.drewN _ _)⟩
                      case measure => simp [intOf]; omega
                  · have q2 : (x == y) = false := by simpa using g2
                    have HS := hide' (HNO.out (fun h => by rcases HLT.out.1 h with h | h; exact g1 h; exact g2 h.1))
                    clear g1 g2 HYES HNO HLT
                    go_wp2_with fail
                    go_quiet (fail)
                    go_wp2
                    go_roundw
                    case rel => exact ⟨j + 1, by omega, by go_num, by rw [HS.out], HO2.out.ext (Ext.drewN _ _), HE2.out.trans (Ext.drewN _ _)⟩
                    case measure => simp [intOf]; omega
              · have hjn' : decide ((j : Int) < n) = false := by simp; omega
                have hjn2 : j = n := by omega
                have HRK : Hid (cntJ l K j = rkN l K) := by rw [hjn2, ← HN.out]; exact cntJ_all l K
                have hrl := HRL.out
                clear hjn2
                go_wp2
                go_roundw
                case rel => exact ⟨T, rkN l K + 1, (T : Int) - 1, R.set T y, by omega, by omega, by omega, by first | rfl | go_num, by rw [HRK.out]; go_num, HL2, HB2, HGO2, HO2, HE2⟩
                case measure => simp [intOf] <;> omega
end Go.Proofs.Ytokmlklcjipkiaa

/- Contract of rank.Inverse. -/
namespace Go.Proofs.Ytokmlklcjipkiaa
set_option linter.unusedVariables false
set_option linter.unusedSimpArgs false
open Go.RowKit

theorem Inv.old {l bs : List Int} {i p : Nat} (h : Inv l i bs) (hi : i < l.length) (hp : p < l.length) (hb : bs.getD p 0 ≠ -1) : 0 ≤ bs.getD p 0 := by
  by_cases hin : (p : Int) ∈ l.take i
  · obtain ⟨j, hj, e⟩ := mem_getI hin
    rw [List.length_take] at hj
    have e2 : (l.take i).getD j 0 = l.getD j 0 := by
      simp only [List.getD_eq_getElem?_getD, List.getElem?_take]
      rw [if_pos (by omega)]
    rw [e2] at e
    have := h.at' j p (by omega) (by omega) e
    omega
  · exact absurd (h.none p hp hin) hb

set_option maxHeartbeats 1000000 in
theorem rkInv_any (v : Value) (l : List Int) (w : World) (hv : Sl .i64 w v l) (hlen : l.length ≤ 1000000) :
    Calls Try.prog 26 #[v] w fun e w' => ∃ s, e = .returned (.tuple #[s, .bool (ordB l)]) ∧ Own .i64 3 w.heap.size w' s (invI l) ∧ Ext w w' := by
  have HV := hide' hv
  obtain ⟨a, c, rfl, _⟩ := hv
  obtain ⟨_, _, _, hcv⟩ := HV.out.int
  have CV := hide' hcv
  obtain ⟨n, HN⟩ : ∃ n, Hid (l.length = n) := ⟨_, rfl⟩
  rw [HN.out] at CV hlen ⊢
  clear hcv HV
  obtain ⟨w1, hmk, ho, he⟩ := make_intsB w n (by omega)
  have HO := hide' ho
  have HE := hide' he
  clear ho he
  go_enter Try.func26, Try.ntmps26
  go_wp2
  clear hmk
  go_loopw [5, 13] (fun pi vi wr => ∃ (i : Nat) (bs : List Int), i ≤ n ∧ vi = .int .i64 i ∧ Hid (bs.length = n) ∧ Hid (∀ j, j < i → bs.getD j 0 = -1) ∧
    Hid (Own .i64 3 w.heap.size wr (.slice (some ⟨w.heap.size, 0, none⟩) n n) bs) ∧ Hid (Ext w wr)) (fun _ vi _ => n - (intOf vi).toNat)
  case atStart => exact ⟨0, List.replicate n 0, Nat.zero_le _, rfl, List.length_replicate, (fun j hj => by omega), HO, HE⟩
  case round =>
    clear HO HE
    obtain ⟨i, bs, hi, rfl, HL, HB, HO, HE⟩ := hrel
    by_cases hlt : i < n
    · have hlt' : (i : Int) < n := by omega
      have hfz := HO.out.frozen HL.out i
      have hci := HO.out.cell HL.out i hlt
      have HO2 := hide' (HO.out.store HL.out i (-1))
      go_wp2
      go_roundw
      case rel =>
        refine ⟨i + 1, bs.set i (-1), by omega, by go_num, (show _ = _ by rw [List.length_set]; exact HL.out), fun j hj => ?_, HO2, Ext.but HE.out (Nat.le_refl _) (but_set _ _ _ _)⟩
        by_cases hji : j = i
        · subst hji; rw [setI_same (by rw [HL.out]; exact hlt)]
        · rw [setI_other (by omega), HB.out j (by omega)]
      case measure => simp [intOf]; omega
    · have hlt' : decide ((i : Int) < n) = false := by simp; omega
      have hin : n = i := by omega
      have HI0 : Hid (Inv l 0 bs) := Inv.start (by rw [HL.out, HN.out]) fun x hx => HB.out x (by rw [HN.out] at hx; omega)
      clear HB
      subst hin
      go_wp2
      go_loopw [6, 7, 22] (fun pt pv vi wq => ∃ (t : Nat) (cs : List Int), t ≤ n ∧ vi = .int .i64 t ∧ Hid (cs.length = n) ∧ Hid (Inv l t cs) ∧
        Hid (Own .i64 3 w.heap.size wq (.slice (some ⟨w.heap.size, 0, none⟩) n n) cs) ∧ Hid (Ext w wq)) (fun _ _ vi _ => n - (intOf vi).toNat)
      case atStart => exact ⟨0, bs, Nat.zero_le _, rfl, HL, HI0, HO, HE⟩
      case round =>
        clear HO HE HL HI0 hlt hlt' hi
        obtain ⟨t, cs, ht, rfl, HL, HI, HO, HE⟩ := hrel
        by_cases hlt : t < n
        · have hlt' : (t : Int) < n := by omega
          obtain ⟨g1, o1, rfl, k1⟩ := CV.out (by omega)
          have c1 := HE.out.cellOf (k1 t hlt)
          clear k1
          have HBAD : Hid (∀ z, l.getD t 0 = z → (z < 0 ∨ (n : Int) ≤ z ∨ 0 ≤ cs.getD z.toNat 0) → ordB l = false ∧ invI l = []) := fun z hz h => HI.out.bad (by rw [HN.out]; exact hlt) (by rw [hz, HN.out]; exact h)
          have HNX : Hid (∀ p : Nat, l.getD t 0 = (p : Int) → p < n → cs.getD p 0 < 0 → Inv l (t + 1) (cs.set p (t : Int))) := fun p h1 h2 h3 => HI.out.next (by rw [HN.out]; exact hlt) h1 (by rw [HN.out]; exact h2) h3
          have HOLD : Hid (∀ p : Nat, p < n → cs.getD p 0 ≠ -1 → 0 ≤ cs.getD p 0) := fun p h1 h2 => HI.out.old (by rw [HN.out]; exact hlt) (by rw [HN.out]; exact h1) h2
          obtain ⟨z, HZ⟩ : ∃ p, Hid (l.getD t 0 = p) := ⟨_, rfl⟩
          rw [HZ.out] at c1
          by_cases h0 : z < 0
          · have HB := hide' (HBAD.out z HZ.out (.inl h0))
            go_wp2
            go_ret2
            rw [HB.out.1, HB.out.2]
            exact ⟨_, rfl, Own.nil _ _ _ _, HE.out⟩
          · have e0 : decide (z < 0) = false := by simp; omega
            by_cases h1 : (n : Int) ≤ z
            · have HB := hide' (HBAD.out z HZ.out (.inr (.inl h1)))
              go_wp2
              go_ret2
              rw [HB.out.1, HB.out.2]
              exact ⟨_, rfl, Own.nil _ _ _ _, HE.out⟩
            · have e1 : decide ((n : Int) ≤ z) = false := by simp; omega
              obtain ⟨p, rfl⟩ := Int.eq_ofNat_of_zero_le (show 0 ≤ z by omega)
              have hp : p < n := by omega
              have hp' : (p : Int) < n := by omega
              have e2 : decide (n ≤ p) = false := by simp; omega
              have hci := HO.out.cell HL.out p hp
              clear h0 h1
              have HY2 := hide' (HOLD.out p hp)
              obtain ⟨y, HY⟩ : ∃ x, Hid (cs.getD p 0 = x) := ⟨_, rfl⟩
              rw [HY.out] at hci HY2
              by_cases hy : y = -1
              · subst hy
                have HM2 := hide' (HNX.out p HZ.out hp (by rw [HY.out]; omega))
                have hfz := HO.out.frozen HL.out p
                have HO2 := hide' (HO.out.store HL.out p (t : Int))
                go_wp2
                go_roundw
                case rel => exact ⟨t + 1, cs.set p (t : Int), by omega, by go_num, (show _ = _ by rw [List.length_set]; exact HL.out), HM2, HO2, Ext.but HE.out (Nat.le_refl _) (but_set _ _ _ _)⟩
                case measure => simp [intOf] <;> omega
              · have HB := hide' (HBAD.out p HZ.out (.inr (.inr (by rw [Int.toNat_natCast, HY.out]; exact HY2.out hy))))
                have e3 : (y == -1) = false := by simpa using hy
                go_wp2
                go_ret2
                rw [HB.out.1, HB.out.2]
                exact ⟨_, rfl, Own.nil _ _ _ _, HE.out⟩
        · have hlt' : decide ((t : Int) < n) = false := by simp; omega
          have htl : n = t := by omega
          have HB := hide' ((show Inv l l.length cs by rw [HN.out, htl]; exact HI.out).done)
          go_wp2
          go_ret2
          rw [HB.out.1, HB.out.2]
          exact ⟨_, rfl, HO.out, HE.out⟩
end Go.Proofs.Ytokmlklcjipkiaa

/- Contract of rank.Is. -/
namespace Go.Proofs.Ytokmlklcjipkiaa
set_option linter.unusedVariables false
set_option linter.unusedSimpArgs false
open Go.RowKit

theorem rkIs_any (v : Value) (l : List Int) (w : World) (hv : Sl .i64 w v l) (hlen : l.length ≤ 1000000) :
    Calls Try.prog 19 #[v] w fun e w' => e = .returned (.bool (ordB l)) ∧ Ext w w' := by
  have C := hide' (rkInv_any v l w hv hlen)
  clear hv hlen
  go_enter Try.func19, Try.ntmps19
  go_wp2_with fail
  refine C.out.mono ?_
  rintro e w1 ⟨s, rfl, _, he⟩
  have X1 := hide' he
  clear he C
  go_wp2
  go_ret
  exact ⟨rfl, X1.out⟩
end Go.Proofs.Ytokmlklcjipkiaa

/- Contract of bwt.Of. -/
namespace Go.Proofs.Ytokmlklcjipkiaa
set_option linter.unusedVariables false
set_option linter.unusedSimpArgs false
open Go.RowKit

/-- 'make([]byte, 0, n)' -/
theorem make_room8 (w : World) (n : Nat) (hn : n ≤ 1000000) : ∃ w', (Instr.makeSlice 22 (.int .i64 0) (.int .i64 (n : Int))).run Try.prog w = .ok (.slice (some ⟨w.heap.size, 0, none⟩) 0 n) w' ∧ Own .u8 5 w.heap.size w' (.slice (some ⟨w.heap.size, 0, none⟩) 0 n) [] ∧ Ext w w' := by
  obtain ⟨i0, hi, hz0, hz1, hz2⟩ := info_parts infoU8
  obtain ⟨w', h1, h2, h3⟩ := run_make_own (P := Try.prog) w w.heap.size 22 5 i0 (.int .u8 0) 1 Try.underlying22 hi hz0 hz1 .i64 .i64 n (by rw [hz2]; omega) (by unfold maxLen; omega) (Nat.le_refl _)
  exact ⟨w', h1, h2, ⟨h3.os, h3.tape, h3.output, h3.size, fun k hk => h3.block k hk (by simp)⟩⟩

set_option maxHeartbeats 1000000 in
theorem bwOf_any (v u : Value) (s a : List Int) (w : World) (hv : Sl .u8 w v s) (hu : Sl .i64 w u a) (hs : s.length ≤ 1000000) (ha : a.length ≤ 1000000) :
    Calls Try.prog 12 #[v, u] w fun e w' => ∃ r, e = .returned (.tuple #[r, .int .i64 (bwAtI s a), .bool (lcpOk s a)]) ∧ Own .u8 5 w.heap.size w' r (bwI s a) ∧ Ext w w' := by
  have HV := hide' hv
  have HU := hide' hu
  obtain ⟨va, vc, rfl, _⟩ := hv
  obtain ⟨ua, uc, rfl, _⟩ := hu
  by_cases h1 : a.length = s.length
  · have C : Hid (∀ w', Ext w w' → Calls Try.prog 19 #[.slice ua a.length uc] w' fun e w'' => e = .returned (.bool (ordB a)) ∧ Ext w' w'') := fun w' he => rkIs_any _ a w' (HU.out.ext he) ha
    cases h2 : ordB a
    · rw [bwI_no (lcpOk_no h2), bwAtI_no (lcpOk_no h2), lcpOk_no h2]
      rw [h2] at C
      clear h2 HU
      obtain ⟨n, HN⟩ : ∃ n, Hid (s.length = n) := ⟨_, rfl⟩
      rw [h1] at C ⊢
      rw [HN.out] at C HV ⊢
      have e1 : ((n : Int) != (n : Int)) = false := by simp
      clear h1
      go_enter Try.func12, Try.ntmps12
      go_wp2_with fail
      refine (C.out _ (Ext.refl _)).mono ?_
      rintro e w1 ⟨rfl, he1⟩
      have X1 := hide' he1
      clear he1
      go_wp2
      go_ret3
      exact ⟨_, rfl, Own.nil _ _ _ _, X1.out⟩
    · have hok := lcpOk_yes h1 h2
      rw [h2] at C
      obtain ⟨hA, hP⟩ := ordB_cast h2
      obtain ⟨A, HA⟩ : ∃ A, Hid (toN a = A) := ⟨_, rfl⟩
      rw [HA.out] at hA hP
      rw [← hA] at hok ⊢
      rw [bwI_nat hok, bwAtI_nat hok, hok]
      obtain ⟨n, HN⟩ : ∃ n, Hid (s.length = n) := ⟨_, rfl⟩
      have hAL : A.length = n := by rw [← HN.out, ← h1, ← hA, natL_len]
      have HAL := hide' hAL
      have HP : Hid (A.Perm (List.range s.length)) := by show _; rw [← h1]; exact hP
      have HU2 : Hid (Sl .i64 w (.slice ua n uc) (natL A)) := by have := HU.out; rw [← hA, natL_len, hAL] at this; exact this
      rw [natL_len, hAL]
      rw [h1, HN.out] at C
      rw [HN.out] at HV hs ⊢
      have e1 : ((n : Int) != (n : Int)) = false := by simp
      clear hA hP hAL h2 HU h1 HA hok
      by_cases h0 : n = 0
      · have hs0 : s = [] := List.length_eq_zero_iff.1 (by rw [HN.out, h0])
        have HZ : Hid (bwL s A = [] ∧ bwAt s A = 0) := by
          have := HP.out
          rw [HN.out, h0] at this
          rw [hs0]
          exact bwL_nil this
        rw [HZ.out.1, HZ.out.2]
        have d0 : ((n : Int) == 0) = true := by simp; omega
        clear h0 hs0
        go_enter Try.func12, Try.ntmps12
        go_wp2_with fail
        refine (C.out _ (Ext.refl _)).mono ?_
        rintro e w1 ⟨rfl, he1⟩
        have X1 := hide' he1
        clear he1
        go_wp2
        go_ret3
        exact ⟨_, rfl, Own.nil _ _ _ _, X1.out⟩
      · have d0 : ((n : Int) == 0) = false := by simp; omega
        obtain ⟨N, HNN⟩ : ∃ N, Hid (n = N + 1) := ⟨n - 1, by show _ = _; omega⟩
        have hNn : N < n := by have := HNN.out; omega
        have hNn' : (N : Int) < n := by omega
        have hN1 : (n : Int) - 1 = (N : Int) := by have := HNN.out; omega
        have wN : IntKind.i64.wrap (N : Int) = (N : Int) := by rw [IntKind.wrap_i64]; omega
        have H0 := hide' (bwP_zero A (s := s) (by rw [HN.out]; exact h0))
        have HALL : Hid (bwP s A n = bwL s A) := by have := bwP_all (s := s) (A := A); rw [HAL.out] at this; exact this
        have HATA : Hid (atP A n = bwAt s A) := by have := atP_all HP.out (by rw [HN.out]; exact h0); rw [HAL.out] at this; exact this
        have HND : Hid A.Nodup := HP.out.nodup_iff.2 List.nodup_range
        obtain ⟨_, vg, voff, hva, vcell⟩ := HV.out.at (fun e => by have := HN.out; rw [e] at this; simp at this; omega)
        subst hva
        have VC : Hid (∀ W j, Ext w W → j < n → W.cell? ⟨vg, voff + j, none⟩ = some (.int .u8 (s.getD j 0))) := fun W j he hj => he.cellOf (vcell j hj)
        clear vcell h0
        go_enter Try.func12, Try.ntmps12
        go_wp2_with fail
        refine (C.out _ (Ext.refl _)).mono ?_
        rintro e w1 ⟨rfl, he1⟩
        have X1 := hide' he1
        have hz1 := he1.size
        clear he1 C
        obtain ⟨w2, hmk, ho, he⟩ := make_room8 w1 n hs
        have O2 := hide' (ho.low hz1)
        have X2 := hide' (X1.out.trans he)
        have hz2 := X2.out.size
        have c0 := VC.out w2 N X2.out hNn
        obtain ⟨z, HZ⟩ : ∃ z, Hid (s.getD N 0 = z) := ⟨_, rfl⟩
        rw [HZ.out] at c0
        have H00 : Hid (bwP s A 0 = [z]) := by show _ = _; rw [H0.out, HN.out, show n - 1 = N by have := HNN.out; omega, HZ.out]
        clear ho he
        go_wp2_with (at_builtin; refine wpList_snoc _ rfl _ _ 22 rfl 5 .u8 1 Try.underlying22 infoU8 w.heap.size _ [] z ⟨w2.heap.size, 0, none⟩ rfl rfl ?c4 (O2.out.alloc _) ?c3 ?c5 ?_)
        case c3 => unfold maxLen; simp
        case c5 => simp; omega
        case c4 => simp only [World.cell?, heap_alloc_top]; simp
        intro v1 w4 ho1 hb1
        have HO : Hid (Own .u8 5 w.heap.size w4 v1 (bwP s A 0)) := by rw [H00.out]; exact ho1
        have HE : Hid (Ext w w4) := Below.trans (X2.out.trans (ext_alloc _ _)) (Below.mono hb1 (Nat.le_refl _))
        clear ho1 hb1 c0 hmk
        go_wp2
        go_loopw [4, 5, 36] (fun vl vt vi wr => ∃ (i : Nat), i ≤ n ∧ vi = .int .i64 i ∧ vt = .int .i64 (atP A i : Int) ∧ Hid (Own .u8 5 w.heap.size wr vl (bwP s A i)) ∧ Hid (Ext w wr)) (fun _ _ vi _ => n - (intOf vi).toNat)
        case atStart => exact ⟨0, Nat.zero_le _, rfl, by rw [atP_zero]; rfl, HO, HE⟩
        case round =>
          clear HO HE
          obtain ⟨i, hi, rfl, rfl, HO, HE⟩ := hrel
          have hsz := HE.out.size
          by_cases hlt : i < n
          · have hlt' : (i : Int) < n := by omega
            obtain ⟨_, _, _, hco⟩ := HU2.out.nat
            obtain ⟨og, ooff, hoa, ocell⟩ := hco (by omega)
            subst hoa
            have c1 := HE.out.cellOf (ocell i hlt)
            clear hco ocell
            have hx : A.getD i 0 < n := by
              have := List.mem_range.1 (HP.out.mem_iff.1 (getN_mem (l := A) (i := i) (by rw [HAL.out]; exact hlt)))
              rw [HN.out] at this
              exact this
            have hA1 : i < A.length := by rw [HAL.out]; exact hlt
            by_cases hx0 : A.getD i 0 = 0
            · rw [hx0] at c1
              have HB := hide' (bwP_nought (s := s) hA1 hx0)
              have HT := hide' (atP_nought HND.out hA1 hx0)
              have HO2 := HO
              rw [← HB.out] at HO2
              clear hx0 hx hA1
              go_wp2
              go_roundw
              case rel => exact ⟨i + 1, by omega, by go_num, by rw [HT.out]; go_num, HO2, HE⟩
              case measure => simp [intOf]; omega
            · have HB := hide' (bwP_other (s := s) hA1 hx0)
              have HT := hide' (atP_other hA1 hx0)
              obtain ⟨x, HX⟩ : ∃ x, Hid (A.getD i 0 = x + 1) := ⟨A.getD i 0 - 1, by show _ = _; omega⟩
              rw [HX.out] at c1 hx
              rw [HX.out, Nat.add_sub_cancel] at HB
              obtain ⟨X, HXX⟩ : ∃ X, Hid (x + 1 = X) := ⟨_, rfl⟩
              rw [HXX.out] at c1 hx
              have hX0 : decide ((0 : Int) < (X : Int)) = true := by have := HXX.out; simp; omega
              have hX0' : decide (0 < X) = true := by have := HXX.out; simp; omega
              have hX1 : (X : Int) - 1 = (x : Int) := by have := HXX.out; omega
              have wX : IntKind.i64.wrap (x : Int) = (x : Int) := by rw [IntKind.wrap_i64]; have := HXX.out; omega
              have hxn : x < n := by have := HXX.out; omega
              have hxn' : (x : Int) < n := by omega
              have c2 := VC.out wr x HE.out hxn
              obtain ⟨y, HY⟩ : ∃ y, Hid (s.getD x 0 = y) := ⟨_, rfl⟩
              rw [HY.out] at c2 HB
              have hPL := bwP_len (s := s) (A := A) (i := i)
              obtain ⟨PP, HPP⟩ : ∃ l, Hid (bwP s A i = l) := ⟨_, rfl⟩
              rw [HPP.out] at hPL HB HO
              have hPL2 := hide' hPL
              clear hx0 hA1 hPL
              go_wp2_with (at_builtin; refine wpList_snoc _ rfl _ _ 22 rfl 5 .u8 1 Try.underlying22 infoU8 w.heap.size _ PP y ⟨wr.heap.size, 0, none⟩ rfl rfl ?c4 (HO.out.alloc _) ?c3 ?c5 ?_)
              case c3 => have := hPL2.out; unfold maxLen; omega
              case c5 => simp; omega
              case c4 => simp only [World.cell?, heap_alloc_top]; simp
              intro v1 w4 ho1 hb1
              have HO1 : Hid (Own .u8 5 w.heap.size w4 v1 (bwP s A (i + 1))) := by rw [HB.out]; exact ho1
              have HE1 : Hid (Ext w w4) := Below.trans (HE.out.trans (ext_alloc _ _)) (Below.mono hb1 (Nat.le_refl _))
              clear ho1 hb1 c1 c2
              go_wp2
              go_roundw
              case rel => exact ⟨i + 1, by omega, by go_num, by rw [HT.out], HO1, HE1⟩
              case measure => simp [intOf]; omega
          · have hlt' : decide ((i : Int) < n) = false := by simp; omega
            have hin : i = n := by omega
            have HB : Hid (bwP s A i = bwL s A ∧ atP A i = bwAt s A) := by rw [hin]; exact ⟨HALL.out, HATA.out⟩
            clear hin
            go_wp2
            go_ret3
            rw [← HB.out.1, ← HB.out.2]
            exact ⟨_, rfl, HO.out, HE.out⟩
  · have d1 : ((a.length : Int) != (s.length : Int)) = true := by simp; omega
    rw [bwI_no (lcpOk_long h1), bwAtI_no (lcpOk_long h1), lcpOk_long h1]
    clear h1
    go_enter Try.func12, Try.ntmps12
    go_wp2_with fail
    go_ret3
    exact ⟨_, rfl, Own.nil _ _ _ _, Ext.refl _⟩
end Go.Proofs.Ytokmlklcjipkiaa

/- From how often bytes are there to the row of the longer ending; a walk that never meets the whole text's row. Plain numbers, no conditions. -/
namespace Go.Proofs.Ytokmlklcjipkiaa
set_option linter.unusedVariables false
set_option linter.unusedSimpArgs false

/-- How many of the first J are less than b. -/
def ahC (l : List Int) : Nat → Nat → Nat
  | 0, _ => 0
  | b + 1, J => ahC l b J + cntI l b J
theorem ahC_none (l : List Int) (b : Nat) : ahC l b 0 = 0 := by
  induction b with
  | zero => rfl
  | succ b ih => rw [ahC, ih]; rfl
theorem ahC_step {l : List Int} {J : Nat} (h0 : 0 ≤ l.getD J 0) (b : Nat) : ahC l b (J + 1) = ahC l b J + if l.getD J 0 < (b : Int) then 1 else 0 := by
  induction b with
  | zero => rw [ahC, ahC, if_neg (by omega)]
  | succ b ih =>
    rw [ahC, ahC, ih, cntI_succ]
    by_cases g : l.getD J 0 < (b : Int)
    · rw [if_pos g, if_neg (by omega), if_pos (by omega)]; omega
    · rw [if_neg g]
      by_cases g2 : l.getD J 0 = (b : Int)
      · rw [if_pos g2, if_pos (by omega)]
        omega
      · rw [if_neg g2, if_neg (by omega)]
        omega
theorem ahC_le (l : List Int) (b J : Nat) : ahC l b J ≤ b * J := by
  induction b with
  | zero => rw [ahC]; omega
  | succ b ih =>
    rw [ahC, Nat.succ_mul]
    have := cntI_le l b J
    omega
theorem cntJ_sum {l : List Int} {k b : Nat} (hb : l.getD k 0 = (b : Int)) (h0 : ∀ j, 0 ≤ l.getD j 0) : ∀ J, cntJ l k J = ahC l b J + cntI l b (min J k) := by
  intro J
  induction J with
  | zero => rw [cntJ_zero, ahC_none, Nat.zero_min]; rfl
  | succ J ih =>
    rw [ahC_step (h0 J)]
    by_cases g : Lt1 l J k
    · rw [cntJ_yes g, ih]
      unfold Lt1 at g
      rw [hb] at g
      by_cases g1 : l.getD J 0 < (b : Int)
      · rw [if_pos g1]
        by_cases g2 : J < k
        · rw [show min (J + 1) k = J + 1 by omega, show min J k = J by omega, cntI_other (by omega)]
          omega
        · rw [show min (J + 1) k = min J k by omega]
          omega
      · obtain ⟨g2, g3⟩ := g.resolve_left g1
        rw [if_neg g1, show min (J + 1) k = J + 1 by omega, show min J k = J by omega, cntI_same g2]
        omega
    · rw [cntJ_no g, ih]
      unfold Lt1 at g
      rw [hb] at g
      rw [if_neg (by omega)]
      by_cases g2 : J < k
      · rw [show min (J + 1) k = J + 1 by omega, show min J k = J by omega, cntI_other (by omega)]
        omega
      · rw [show min (J + 1) k = min J k by omega]
        omega
theorem rk_sum {l : List Int} {k b : Nat} (hb : l.getD k 0 = (b : Int)) (h0 : ∀ j, 0 ≤ l.getD j 0) (hk : k ≤ l.length) : rkN l k = ahC l b l.length + cntI l b k := by
  rw [← cntJ_all, cntJ_sum hb h0, show min l.length k = k by omega]

/-- How often each byte is among the first i. -/
def oftL (l : List Int) (i : Nat) : List Int := (List.range 256).map fun (b : Nat) => ((cntI l b i : Nat) : Int)
/-- The first row of each byte's endings, and how often it was there so far. -/
def nxtL (l : List Int) (i : Nat) : List Int := (List.range 256).map fun (b : Nat) => ((ahC l b l.length + cntI l b i + 1 : Nat) : Int)
/-- The first rows of the first so many bytes. -/
def fstL (l : List Int) (q : Nat) : List Int := (List.range 256).map fun (b : Nat) => if b < q then ((ahC l b l.length + 1 : Nat) : Int) else 0
theorem oftL_len (l : List Int) (i : Nat) : (oftL l i).length = 256 := by simp [oftL]
theorem nxtL_len (l : List Int) (i : Nat) : (nxtL l i).length = 256 := by simp [nxtL]
theorem fstL_len (l : List Int) (i : Nat) : (fstL l i).length = 256 := by simp [fstL]
theorem oftL_at (l : List Int) (i : Nat) {b : Nat} (h : b < 256) : (oftL l i).getD b 0 = ((cntI l b i : Nat) : Int) := mapI_at _ _ h
theorem nxtL_at (l : List Int) (i : Nat) {b : Nat} (h : b < 256) : (nxtL l i).getD b 0 = ((ahC l b l.length + cntI l b i + 1 : Nat) : Int) := mapI_at _ _ h
theorem fstL_at (l : List Int) (q : Nat) {b : Nat} (h : b < 256) : (fstL l q).getD b 0 = if b < q then ((ahC l b l.length + 1 : Nat) : Int) else 0 := mapI_at _ _ h
theorem rep_at {n b : Nat} (h : b < n) : (List.replicate n (0 : Int)).getD b 0 = 0 := by simp [List.getD, h]
theorem oftL_zero (l : List Int) : oftL l 0 = List.replicate 256 0 := by
  refine rowI_ext (by rw [oftL_len, List.length_replicate]) fun b hb => ?_
  rw [oftL_len] at hb
  rw [oftL_at l 0 hb, rep_at hb]
  rfl
theorem fstL_zero (l : List Int) : fstL l 0 = List.replicate 256 0 := by
  refine rowI_ext (by rw [fstL_len, List.length_replicate]) fun b hb => ?_
  rw [fstL_len] at hb
  rw [fstL_at l 0 hb, rep_at hb, if_neg (by omega)]
theorem fstL_all (l : List Int) : fstL l 256 = nxtL l 0 := by
  refine rowI_ext (by rw [fstL_len, nxtL_len]) fun b hb => ?_
  rw [fstL_len] at hb
  rw [fstL_at l _ hb, nxtL_at l _ hb, if_pos hb]
  rfl
theorem oftL_next {l : List Int} {i q : Nat} (h : l.getD i 0 = (q : Int)) (hq : q < 256) : (oftL l i).set q ((cntI l q i + 1 : Nat) : Int) = oftL l (i + 1) := by
  refine rowI_ext (by rw [List.length_set, oftL_len, oftL_len]) fun b hb => ?_
  rw [List.length_set, oftL_len] at hb
  rw [oftL_at l _ hb]
  by_cases e : q = b
  · subst e
    rw [setI_same (by rw [oftL_len]; exact hb), cntI_same h]
  · rw [setI_other e, oftL_at l _ hb, cntI_other (by rw [h]; omega)]
theorem nxtL_next {l : List Int} {i q : Nat} (h : l.getD i 0 = (q : Int)) (hq : q < 256) : (nxtL l i).set q ((ahC l q l.length + cntI l q i + 1 + 1 : Nat) : Int) = nxtL l (i + 1) := by
  refine rowI_ext (by rw [List.length_set, nxtL_len, nxtL_len]) fun b hb => ?_
  rw [List.length_set, nxtL_len] at hb
  rw [nxtL_at l _ hb]
  by_cases e : q = b
  · subst e
    rw [setI_same (by rw [nxtL_len]; exact hb), cntI_same h]
    congr 1
  · rw [setI_other e, nxtL_at l _ hb, cntI_other (by rw [h]; omega)]
theorem fstL_next (l : List Int) {q : Nat} (hq : q < 256) : (fstL l q).set q ((ahC l q l.length + 1 : Nat) : Int) = fstL l (q + 1) := by
  refine rowI_ext (by rw [List.length_set, fstL_len, fstL_len]) fun b hb => ?_
  rw [List.length_set, fstL_len] at hb
  rw [fstL_at l _ hb]
  by_cases e : q = b
  · subst e
    rw [setI_same (by rw [fstL_len]; exact hb), if_pos (by omega)]
  · rw [setI_other e, fstL_at l _ hb]
    by_cases g : b < q
    · rw [if_pos g, if_pos (by omega)]
    · rw [if_neg g, if_neg (by omega)]

/-- The rows of the longer endings of the first so many. -/
def lonL (l : List Int) (i : Nat) : List Int := (List.range l.length).map fun (j : Nat) => if j < i then ((rkN l j + 1 : Nat) : Int) else 0
theorem lonL_len (l : List Int) (i : Nat) : (lonL l i).length = l.length := by simp [lonL]
theorem lonL_at (l : List Int) (i : Nat) {j : Nat} (h : j < l.length) : (lonL l i).getD j 0 = if j < i then ((rkN l j + 1 : Nat) : Int) else 0 := mapI_at _ _ h
theorem lonL_zero (l : List Int) : lonL l 0 = List.replicate l.length 0 := by
  refine rowI_ext (by rw [lonL_len, List.length_replicate]) fun b hb => ?_
  rw [lonL_len] at hb
  rw [lonL_at l 0 hb, rep_at hb, if_neg (by omega)]
theorem lonL_next (l : List Int) {i : Nat} (hi : i < l.length) : (lonL l i).set i ((rkN l i + 1 : Nat) : Int) = lonL l (i + 1) := by
  refine rowI_ext (by rw [List.length_set, lonL_len, lonL_len]) fun b hb => ?_
  rw [List.length_set, lonL_len] at hb
  rw [lonL_at l _ hb]
  by_cases e : i = b
  · subst e
    rw [setI_same (by rw [lonL_len]; exact hb), if_pos (by omega)]
  · rw [setI_other e, lonL_at l _ hb]
    by_cases g : b < i
    · rw [if_pos g, if_pos (by omega)]
    · rw [if_neg g, if_neg (by omega)]
theorem lonL_all (l : List Int) {j : Nat} (h : j < l.length) : (lonL l l.length).getD j 0 = ((rkN l j + 1 : Nat) : Int) := by rw [lonL_at l _ h, if_pos h]

theorem bkGo_walk {l : List Int} {k : Nat} : ∀ (i row : Nat) (acc out : List Int), bkGo l k i row acc = some out →
    ∃ r : Nat → Nat, r 0 = row ∧ (∀ t, t < i → r t ≠ k ∧ r (t + 1) = rkN l (byteOf k (r t)) + 1) ∧ out.length = i + acc.length ∧ (∀ t, t < i → out.getD (i - 1 - t) 0 = l.getD (byteOf k (r t)) 0) ∧ out.drop i = acc := by
  intro i
  induction i with
  | zero =>
    intro row acc out h
    rw [bkGo] at h
    cases h
    exact ⟨fun _ => row, rfl, fun t ht => by omega, by omega, fun t ht => by omega, by simp⟩
  | succ i ih =>
    intro row acc out h
    rw [bkGo] at h
    split at h
    · cases h
    · rename_i hne
      obtain ⟨r, h1, h2, h3, h4, h5⟩ := ih _ _ _ h
      rw [List.length_cons] at h3
      refine ⟨fun t => match t with | 0 => row | t + 1 => r t, rfl, fun t ht => ?_, by omega, fun t ht => ?_, ?_⟩
      · match t with
        | 0 => exact ⟨hne, h1⟩
        | t + 1 => exact h2 t (by omega)
      · match t with
        | 0 =>
          have e : out.getD i 0 = (out.drop i).getD 0 0 := by simp [List.getD_eq_getElem?_getD]
          rw [show i + 1 - 1 - 0 = i by omega, e, h5]
          rfl
        | t + 1 =>
          have := h4 t (by omega)
          rw [show i + 1 - 1 - (t + 1) = i - 1 - t by omega]
          exact this
      · have : out.drop (i + 1) = (out.drop i).drop 1 := by rw [List.drop_drop]
        rw [this, h5]
        rfl
/-- What is walked through is a text's. -/
theorem bkGo_turn {l out : List Int} {k : Nat} (hk : k ≤ l.length) (h : bkGo l k l.length 0 [] = some out) : turnB out = (l, (k : Int)) := by
  obtain ⟨r, h1, h2, h3, h4, _⟩ := bkGo_walk _ _ _ _ h
  have hle : ∀ t, t ≤ l.length → r t ≤ l.length := by
    intro t
    induction t with
    | zero => intro _; rw [h1]; omega
    | succ t ih =>
      intro ht
      obtain ⟨g1, g2⟩ := h2 t (by omega)
      have := rk_lt (byte_lt (ih (by omega)) hk g1)
      omega
  have hinj : ∀ a b, a ≤ l.length → b ≤ l.length → a < b → r a ≠ r b := by
    intro a
    induction a with
    | zero =>
      intro b _ hb hab e
      have := (h2 (b - 1) (by omega)).2
      rw [show b - 1 + 1 = b by omega] at this
      omega
    | succ a ih =>
      intro b g1 g2 hab e
      obtain ⟨n1, e1⟩ := h2 a (by omega)
      obtain ⟨n2, e2⟩ := h2 (b - 1) (by omega)
      rw [show b - 1 + 1 = b by omega] at e2
      exact ih (b - 1) (by omega) (by omega) (by omega) (byte_inj n1 n2 (rk_inj (byte_lt (hle a (by omega)) hk n1) (byte_lt (hle (b - 1) (by omega)) hk n2) (by omega)))
  have hstop : r l.length = k := by
    have hp : ((List.range (l.length + 1)).map r).Perm (List.range (l.length + 1)) := by
      refine inj_permN (fun t ht => by have := hle t (by omega); omega) (fun a b ha hb e => ?_)
      rcases Nat.lt_trichotomy a b with g | g | g
      · exact absurd e (hinj a b (by omega) (by omega) g)
      · exact g
      · exact absurd e.symm (hinj b a (by omega) (by omega) g)
    have hm := hp.mem_iff.2 (List.mem_range.2 (show k < l.length + 1 by omega))
    obtain ⟨t, ht, e⟩ := List.mem_map.1 hm
    rw [List.mem_range] at ht
    by_cases g : t = l.length
    · rw [← g]; exact e
    · exact absurd e (h2 t (by omega)).1
  exact Walk.turn (r := r) ⟨by rw [h3]; rfl, h1, fun t ht => (h2 t ht).1, hle, fun t ht => (h2 t ht).2, hstop, h4⟩ hk
theorem back_go {l out : List Int} {k : Nat} (hk : k ≤ l.length) (h : bkGo l k l.length 0 [] = some out) : backB l (k : Int) = (out, 0) := back_yes (bkGo_turn hk h)
end Go.Proofs.Ytokmlklcjipkiaa

/- An array of 256 ints: what each seat says of it. -/
namespace Go.Proofs.Ytokmlklcjipkiaa
set_option linter.unusedVariables false
set_option linter.unusedSimpArgs false
open Go.RowKit

def tab6 (R : List Int) : Array Value := (R.map (Value.int .i64)).toArray
theorem zero_tab6 (w : World) : (zeroValue 38).run Try.prog w = .ok (.agg (tab6 (List.replicate 256 0))) w := by kernel_rfl
end Go.Proofs.Ytokmlklcjipkiaa

/- Arrays of 256 ints: as one block, as a value, side by side. No conditions. -/
namespace Go.Proofs.Ytokmlklcjipkiaa
set_option linter.unusedVariables false
set_option linter.unusedSimpArgs false
open Go.RowKit

theorem Own.whole {B : Nat} {w : World} {g : Nat} {R : List Int} (h : Own .i64 38 B w (.slice (some ⟨g, 0, none⟩) 256 256) R) : w.heap[g]? = some (.cells (tab6 R) 38 (0, 0)) := by
  obtain ⟨_, h | ⟨g', cap, cur, hv, hb, hg, h1, h2, h3, h4⟩⟩ := h
  · cases h.1
  · simp only [Value.slice.injEq, Option.some.injEq, Addr.mk.injEq] at hv
    obtain ⟨⟨rfl, _⟩, hn, rfl⟩ := hv
    rw [hg]
    have e : cur = tab6 R := by
      rw [List.take_of_length_le (by simp; omega)] at h4
      unfold tab6
      rw [← h4]
    rw [e]
theorem Own.ofWhole {B : Nat} {w : World} {g : Nat} {R : List Int} (hg : w.heap[g]? = some (.cells (tab6 R) 38 (0, 0))) (hB : B ≤ g) (hR : R.length = 256) : Own .i64 38 B w (.slice (some ⟨g, 0, none⟩) 256 256) R :=
  ⟨by simp, .inr ⟨g, 256, tab6 R, by rw [hR], hB, hg, by omega, by decide, by simp [tab6, hR], by simp [tab6]; exact List.take_of_length_le (by simp)⟩⟩
theorem info6 : (Try.prog.info? 38).map (·.size) = some 256 := by kernel_rfl
theorem size6 {R : List Int} (h : R.length = 256) : (Try.prog.info? 38).map (·.size) = some (tab6 R).size := by
  have : (tab6 R).size = 256 := by simp [tab6, h]
  rw [this]
  exact info6
theorem tab6_size {R : List Int} (h : R.length = 256) : (tab6 R).size = 256 := by simp [tab6, h]
theorem tab6_one (R : List Int) : (tab6 R).all (·.oneCell') = true := by
  rw [Array.all_eq_true]
  intro i hi
  simp [tab6] at hi ⊢
  rfl
theorem index6 (R : List Int) (hR : R.length = 256) (j : Nat) (hj : j < 256) (w : World) : (Instr.index 38 (.agg (tab6 R)) (.int .i64 (j : Int))).run Try.prog w = .ok (.int .i64 (R.getD j 0)) w := by
  have hs := sizeI64 w
  have hc : (tab6 R)[j]? = some (.int .i64 (R.getD j 0)) := by
    have h' : j < R.length := by omega
    simp [tab6, List.getD, List.getElem?_eq_getElem h']
  have hn : (0 : Int) ≤ (j : Int) ∧ (j : Int) < 256 := by omega
  simp [Instr.index, run_underlying Try.underlying38, run_underlying Try.underlying3, asIntOf, Sem.run_bind, hs, part, isAgg, hc, hn, hj]
theorem Own.aside {k : IntKind} {e : TypeId} {B g j : Nat} {w : World} {n c : Nat} {zs : List Int} (h : Own k e B w (.slice (some ⟨g, 0, none⟩) n c) zs) {b : Nat} (hb : g ≠ b) (v : Value) : Own k e B (w.setCell ⟨b, j, none⟩ v) (.slice (some ⟨g, 0, none⟩) n c) zs :=
  World.ownsRow.kept (row := some b) h ((But.refl b w).setCell j v) (.inr (by simp [Value.ownBlock]; exact hb))
end Go.Proofs.Ytokmlklcjipkiaa

/- Contracts of bwt.firstRows, bwt.rowsOfLonger and bwt.placeOfByte. -/
namespace Go.Proofs.Ytokmlklcjipkiaa
set_option linter.unusedVariables false
set_option linter.unusedSimpArgs false
open Go.RowKit

theorem place_any (r k : Nat) (w : World) (hr : r ≤ 1000000) : Calls Try.prog 18 #[.int .i64 (r : Int), .int .i64 (k : Int)] w fun e w' => e = .returned (.int .i64 (byteOf k r : Int)) ∧ w' = w := by
  by_cases h : k < r
  · have d1 : decide ((k : Int) < (r : Int)) = true := by simp; omega
    have d1' : decide (k < r) = true := by simp; omega
    obtain ⟨K, rfl⟩ : ∃ K, r = K + 1 := ⟨r - 1, by omega⟩
    obtain ⟨R, HR⟩ : ∃ R, Hid (K + 1 = R) := ⟨_, rfl⟩
    have hB : Hid (byteOf k (K + 1) = K) := by show _ = _; unfold byteOf; rw [if_pos h]; rfl
    rw [hB.out]
    rw [HR.out] at d1 d1' hr ⊢
    have h1 : (R : Int) - 1 = (K : Int) := by have := HR.out; omega
    have h2 : IntKind.i64.wrap (K : Int) = (K : Int) := by rw [IntKind.wrap_i64]; have := HR.out; omega
    clear h hB
    go_enter Try.func18, Try.ntmps18
    go_wp2
    go_ret
    exact ⟨rfl, rfl⟩
  · have d1 : decide ((k : Int) < (r : Int)) = false := by simp; omega
    have d1' : decide (k < r) = false := by simp; omega
    have hB : Hid (byteOf k r = r) := by show _ = _; unfold byteOf; rw [if_neg h]
    rw [hB.out]
    clear h hB
    go_enter Try.func18, Try.ntmps18
    go_wp2
    go_ret
    exact ⟨rfl, rfl⟩

set_option maxRecDepth 100000 in
set_option maxHeartbeats 2000000 in
theorem firstRows_any (v : Value) (l : List Int) (w : World) (hv : Sl .u8 w v l) (h8 : Bytes8 l) (hs : l.length ≤ 100000) :
    Calls Try.prog 25 #[v] w fun e w' => e = .returned (.agg (tab6 (nxtL l 0))) ∧ Ext w w' := by
  have HV := hide' hv
  have H8 := hide' h8
  obtain ⟨va, vc, rfl, _⟩ := hv
  obtain ⟨n, HN⟩ : ∃ n, Hid (l.length = n) := ⟨_, rfl⟩
  rw [HN.out] at HV hs ⊢
  obtain ⟨Z, HZ⟩ : ∃ Z : List Int, Hid (List.replicate 256 0 = Z) := ⟨_, rfl⟩
  have hzt : ∀ w, (zeroValue 38).run Try.prog w = .ok (.agg (tab6 Z)) w := by rw [← HZ.out]; exact zero_tab6
  have hZl : Z.length = 256 := by rw [← HZ.out]; exact List.length_replicate
  have L0 : ∀ W : World, Own .i64 38 W.heap.size (W.alloc (.cells (tab6 Z) 38)) (.slice (some ⟨W.heap.size, 0, none⟩) 256 256) Z := fun W => Own.lit W Z 256 hZl (by decide) (Nat.le_refl _)
  obtain ⟨w3, HW3⟩ : ∃ w3, Hid (((w.alloc (.cells (tab6 Z) 38)).alloc (.cells (tab6 Z) 38)).alloc (.cells (tab6 Z) 38) = w3) := ⟨_, rfl⟩
  obtain ⟨g, HG⟩ : ∃ g, Hid (w.heap.size = g) := ⟨_, rfl⟩
  have OR : Hid (Own .i64 38 g w3 (.slice (some ⟨g, 0, none⟩) 256 256) Z) := by
    show Own _ _ _ _ _ _
    rw [← HW3.out, ← HG.out]
    exact ((L0 w).alloc _).alloc _
  have OO : Hid (Own .i64 38 g w3 (.slice (some ⟨g + 1, 0, none⟩) 256 256) (oftL l 0)) := by
    show Own _ _ _ _ _ _
    have := (L0 (w.alloc (.cells (tab6 Z) 38))).alloc (.cells (tab6 Z) 38)
    rw [HW3.out, show (w.alloc (.cells (tab6 Z) 38)).heap.size = g + 1 by simp [HG.out]] at this
    rw [oftL_zero, HZ.out]
    exact this.low (by omega)
  have OF : Hid (Own .i64 38 g w3 (.slice (some ⟨g + 1 + 1, 0, none⟩) 256 256) (fstL l 0)) := by
    show Own _ _ _ _ _ _
    have := L0 ((w.alloc (.cells (tab6 Z) 38)).alloc (.cells (tab6 Z) 38))
    rw [HW3.out, show ((w.alloc (.cells (tab6 Z) 38)).alloc (.cells (tab6 Z) 38)).heap.size = g + 1 + 1 by simp [HG.out]] at this
    rw [fstL_zero, HZ.out]
    exact this.low (by omega)
  have X3 : Hid (Ext w w3) := by
    show Ext _ _
    rw [← HW3.out]
    exact ((ext_alloc _ _).trans (ext_alloc _ _)).trans (ext_alloc _ _)
  have hgw : w.heap.size ≤ g := by rw [HG.out]; exact Nat.le_refl _
  have hgw1 : w.heap.size ≤ g + 1 := by omega
  have hgw2 : w.heap.size ≤ g + 1 + 1 := by omega
  have VA : Hid (0 < n → ∃ b off, va = some ⟨b, off, none⟩ ∧ ∀ W j, Ext w W → j < n → W.cell? ⟨b, off + j, none⟩ = some (.int .u8 (l.getD j 0))) := fun h0 => by
    obtain ⟨_, b, off, h1, h2⟩ := HV.out.at (fun e => by have := HN.out; rw [e] at this; simp at this; omega)
    exact ⟨b, off, h1, fun W j he hj => he.cellOf (h2 j hj)⟩
  clear h8 L0
  have hZl2 := hide' hZl
  clear hZl
  go_enter Try.func25, Try.ntmps25
  go_wp2
  clear hzt
  rw [HW3.out, HG.out]
  go_loopw [12] (fun vi wr => ∃ (i : Nat), i ≤ n ∧ vi = .int .i64 i ∧ Hid (Own .i64 38 g wr (.slice (some ⟨g, 0, none⟩) 256 256) Z) ∧ Hid (Own .i64 38 g wr (.slice (some ⟨g + 1, 0, none⟩) 256 256) (oftL l i)) ∧
    Hid (Own .i64 38 g wr (.slice (some ⟨g + 1 + 1, 0, none⟩) 256 256) (fstL l 0)) ∧ Hid (Ext w wr)) (fun vi _ => n - (intOf vi).toNat)
  case atStart => exact ⟨0, Nat.zero_le _, rfl, OR, OO, OF, X3⟩
  case round =>
    clear OR OO OF X3
    obtain ⟨i, hi, rfl, OR, OO, OF, HE⟩ := hrel
    by_cases hlt : i < n
    · have hlt' : (i : Int) < n := by omega
      obtain ⟨b, o, rfl, k1⟩ := VA.out (by omega)
      have c1 := k1 wr i HE.out hlt
      have hz := H8.out.get i
      obtain ⟨q, hq⟩ := Int.eq_ofNat_of_zero_le hz.1
      have hq6 : q < 256 := by omega
      have hq6' : (q : Int) < 256 := by omega
      have HNX := hide' (oftL_next hq hq6)
      rw [hq] at c1
      have c2 := OO.out.cell (oftL_len l i) q hq6
      rw [oftL_at l i hq6] at c2
      have z2 := OO.out.frozen (oftL_len l i) q
      have hcn := cntI_le l q i
      obtain ⟨t, HT⟩ : ∃ t, Hid (cntI l q i = t) := ⟨_, rfl⟩
      rw [HT.out] at c2 hcn HNX
      have OO2 : Hid (Own .i64 38 g (wr.setCell ⟨g + 1, q, none⟩ (.int .i64 ((t + 1 : Nat) : Int))) (.slice (some ⟨g + 1, 0, none⟩) 256 256) (oftL l (i + 1))) := by
        show Own _ _ _ _ _ _
        rw [← HNX.out]
        exact OO.out.store (oftL_len l i) q _
      have OR2 := hide' (OR.out.aside (j := q) (show g ≠ g + 1 by omega) (.int .i64 ((t + 1 : Nat) : Int)))
      have OF2 := hide' (OF.out.aside (j := q) (show g + 1 + 1 ≠ g + 1 by omega) (.int .i64 ((t + 1 : Nat) : Int)))
      have HE2 := hide' (Ext.but HE.out hgw1 (but_set wr (g + 1) q (.int .i64 ((t + 1 : Nat) : Int))))
      clear k1 hq hz HNX
      go_wp2
      go_roundw
      case rel => exact ⟨i + 1, by omega, by go_num, OR2, OO2, OF2, HE2⟩
      case measure => simp [intOf]; omega
    · have hlt' : decide ((i : Int) < n) = false := by simp; omega
      have hin : i = n := by omega
      have HRW : Hid (∃ R, R.length = 256 ∧ (∀ b, b < 256 → R.getD b 0 = ((cntI l b n : Nat) : Int)) ∧ wr.heap[g + 1]? = some (.cells (tab6 R) 38 (0, 0))) := by
        refine ⟨oftL l n, oftL_len l n, fun b hb => oftL_at l n hb, ?_⟩
        rw [← hin]
        exact OO.out.whole
      obtain ⟨R, hR, hRA, hRW⟩ := HRW.out
      have HS := hide' (size6 hR)
      have HI := hide' (index6 R hR)
      have HRA := hide' hRA
      have HRH := hide' hRW
      clear hin hR hRA hRW HRW
      go_wp2_with (refine wpList_load_row rfl 38 (.tmp 3) rfl (g + 1) rfl 38 (tab6 R) (0, 0) _ HRH.out Try.underlying38 rfl HS.out ?_)
      go_loopw [7, 23] (fun va vi wq => ∃ (q : Nat), q ≤ 256 ∧ vi = .int .i64 q ∧ va = .int .i64 ((ahC l q n + 1 : Nat) : Int) ∧ Hid (Own .i64 38 g wq (.slice (some ⟨g, 0, none⟩) 256 256) Z) ∧
        Hid (Own .i64 38 g wq (.slice (some ⟨g + 1 + 1, 0, none⟩) 256 256) (fstL l q)) ∧ Hid (Ext w wq)) (fun _ vi _ => 256 - (intOf vi).toNat)
      case atStart => exact ⟨0, Nat.zero_le _, rfl, rfl, OR, OF, HE⟩
      case round =>
        clear OR OO OF HE
        obtain ⟨q, hq, rfl, rfl, OR, OF, HE⟩ := hrel
        by_cases hqt : q < 256
        · have hqt' : (q : Int) < 256 := by omega
          have hx := HI.out q hqt
          rw [HRA.out q hqt] at hx
          have hb1 : ahC l q n ≤ 25600000 := by
            have h1 := ahC_le l q n
            have h2 : q * n ≤ 256 * 100000 := Nat.mul_le_mul (by omega) hs
            omega
          have hb2 := cntI_le l q n
          have HAH : Hid (ahC l (q + 1) n = ahC l q n + cntI l q n) := rfl
          have HNX := hide' (fstL_next l hqt)
          have c2 := OF.out.cell (fstL_len l q) q hqt
          have z2 := OF.out.frozen (fstL_len l q) q
          rw [HN.out] at HNX
          obtain ⟨A, HA⟩ : ∃ A, Hid (ahC l q n = A) := ⟨_, rfl⟩
          obtain ⟨C, HC⟩ : ∃ C, Hid (cntI l q n = C) := ⟨_, rfl⟩
          rw [HA.out] at hb1 HAH HNX ⊢
          rw [HC.out] at hb2 HAH hx
          have OF2 : Hid (Own .i64 38 g (wr.setCell ⟨g + 1 + 1, q, none⟩ (.int .i64 ((A + 1 : Nat) : Int))) (.slice (some ⟨g + 1 + 1, 0, none⟩) 256 256) (fstL l (q + 1))) := by
            show Own _ _ _ _ _ _
            rw [← HNX.out]
            exact OF.out.store (fstL_len l q) q _
          have OR2 := hide' (OR.out.aside (j := q) (show g ≠ g + 1 + 1 by omega) (.int .i64 ((A + 1 : Nat) : Int)))
          have HE2 := hide' (Ext.but HE.out hgw2 (but_set wr (g + 1 + 1) q (.int .i64 ((A + 1 : Nat) : Int))))
          clear HNX
          go_wp2
          go_roundw
          case rel => exact ⟨q + 1, by omega, by go_num, by rw [HAH.out]; go_num, OR2, OF2, HE2⟩
          case measure => simp [intOf]; omega
        · have hqt' : decide ((q : Int) < 256) = false := by simp; omega
          have hq2 : q = 256 := by omega
          have HF : Hid (fstL l q = nxtL l 0) := by rw [hq2]; exact fstL_all l
          have OF1 : Hid (Own .i64 38 g wr (.slice (some ⟨g + 1 + 1, 0, none⟩) 256 256) (nxtL l 0)) := by rw [← HF.out]; exact OF.out
          have HS2 := hide' (size6 (nxtL_len l 0))
          have HSZ : Hid ((tab6 Z).size = (tab6 (nxtL l 0)).size) := by show _ = _; rw [tab6_size hZl2.out, tab6_size (nxtL_len l 0)]
          have GR := hide' OR.out.whole
          have GF := hide' OF1.out.whole
          clear hq2
          go_wp2_with (first
            | (refine wpList_load_row rfl 38 (.tmp 4) rfl (g + 1 + 1) rfl 38 (tab6 (nxtL l 0)) (0, 0) _ GF.out Try.underlying38 rfl HS2.out ?_)
            | (refine wpList_store_row rfl 38 (.tmp 2) (.tmp 34) rfl g (tab6 (nxtL l 0)) rfl rfl 38 (tab6 Z) GR.out HS2.out HSZ.out (tab6_one _) ?_))
          have hr := setRow_heap wr g (tab6 Z) (tab6 (nxtL l 0)) 38 (0, 0) GR.out
          refine bodyPost_ret (results_cell_row (fn := Try.f25) (p := 2) (ty := 38) rfl _ _ g _ (tab6 (nxtL l 0)) _ _ rfl hr Try.underlying38 rfl HS2.out) rfl ?_
          refine ⟨rfl, ?_⟩
          exact ⟨HE.out.os, HE.out.tape, HE.out.output, by rw [setRow_size]; exact HE.out.size, fun k hk => (setRow_other wr g k _ (by omega)).trans (HE.out.block k hk)⟩

set_option maxRecDepth 100000 in
set_option maxHeartbeats 2000000 in
theorem longer_any (v : Value) (l : List Int) (w : World) (hv : Sl .u8 w v l) (h8 : Bytes8 l) (hs : l.length ≤ 100000) :
    Calls Try.prog 17 #[v] w fun e w' => ∃ r, e = .returned r ∧ Own .i64 3 w.heap.size w' r (lonL l l.length) ∧ Ext w w' := by
  have HV := hide' hv
  have H8 := hide' h8
  have C := hide' (firstRows_any v l w hv h8 hs)
  obtain ⟨va, vc, rfl, _⟩ := hv
  obtain ⟨n, HN⟩ : ∃ n, Hid (l.length = n) := ⟨_, rfl⟩
  rw [HN.out] at HV hs ⊢
  have HRK : Hid (∀ k b : Nat, k < n → l.getD k 0 = (b : Int) → rkN l k = ahC l b n + cntI l b k) := fun k b hk hb => by
    have := rk_sum (l := l) (k := k) hb (fun j => (H8.out.get j).1) (by rw [HN.out]; omega)
    rw [HN.out] at this
    exact this
  have HLN : Hid (∀ i, i < n → (lonL l i).set i ((rkN l i + 1 : Nat) : Int) = lonL l (i + 1)) := fun i hi => lonL_next l (by rw [HN.out]; exact hi)
  have HLL : Hid (∀ i, (lonL l i).length = n) := fun i => by rw [lonL_len, HN.out]
  have HL0 : Hid (lonL l 0 = List.replicate n 0) := by show _ = _; rw [lonL_zero, HN.out]
  clear h8
  obtain ⟨Z, HZ⟩ : ∃ Z : List Int, Hid (List.replicate 256 0 = Z) := ⟨_, rfl⟩
  have hzt : ∀ w, (zeroValue 38).run Try.prog w = .ok (.agg (tab6 Z)) w := by rw [← HZ.out]; exact zero_tab6
  have HZL : Hid (Z.length = 256) := by show _ = _; rw [← HZ.out]; exact List.length_replicate
  obtain ⟨N, HNX⟩ : ∃ N : List Int, Hid (nxtL l 0 = N) := ⟨_, rfl⟩
  have HNL : Hid (N.length = 256) := by show _ = _; rw [← HNX.out]; exact nxtL_len l 0
  rw [HN.out, HNX.out] at C
  go_enter Try.func17, Try.ntmps17
  go_wp2_with fail
  refine C.out.mono ?_
  rintro e w1 ⟨rfl, he⟩
  have X1 := hide' he
  have hz1 := he.size
  clear he C
  have GA := hide' (heap_alloc_top w1 (.cells (tab6 Z) 38))
  have HS2 := hide' (size6 HNL.out)
  have HSZ : Hid ((tab6 Z).size = (tab6 N).size) := by show _ = _; rw [tab6_size HZL.out, tab6_size HNL.out]
  obtain ⟨w2, HW2⟩ : ∃ w2, Hid ((w1.alloc (.cells (tab6 Z) 38)).setRow w1.heap.size (tab6 N) = w2) := ⟨_, rfl⟩
  have G2 : Hid (w2.heap[w1.heap.size]? = some (.cells (tab6 N) 38 (0, 0))) := by
    show _ = _
    rw [← HW2.out]
    exact setRow_heap _ _ _ _ _ _ GA.out
  have X2 : Hid (Ext w1 w2) := by
    show Ext _ _
    rw [← HW2.out]
    have hx := ext_alloc w1 (.cells (tab6 Z) 38)
    exact ⟨hx.os, hx.tape, hx.output, by rw [setRow_size]; exact hx.size, fun k hk => (setRow_other _ _ k _ (by omega)).trans (hx.block k hk)⟩
  have hz2 : w2.heap.size = w1.heap.size + 1 := by rw [← HW2.out, setRow_size]; simp
  obtain ⟨w3, hmk, ho, he⟩ := make_intsB w2 n (by omega)
  have hz3 := he.size
  obtain ⟨g, HG⟩ : ∃ g, Hid (w1.heap.size = g) := ⟨_, rfl⟩
  have hgw : w.heap.size ≤ g := by rw [← HG.out]; exact hz1
  have hgw1 : w.heap.size ≤ g + 1 := by omega
  rw [HG.out] at hz2
  rw [hz2] at ho hmk
  have OT : Hid (Own .i64 38 w.heap.size w3 (.slice (some ⟨g, 0, none⟩) 256 256) (nxtL l 0)) := by
    show Own _ _ _ _ _ _
    rw [HNX.out]
    exact (Own.ofWhole (by have := G2.out; rwa [HG.out] at this) hgw HNL.out).ext he
  have OO : Hid (Own .i64 3 w.heap.size w3 (.slice (some ⟨g + 1, 0, none⟩) n n) (lonL l 0)) := by
    show Own _ _ _ _ _ _
    rw [HL0.out]
    exact ho.low (by omega)
  have HE := hide' ((X1.out.trans X2.out).trans he)
  have VA : Hid (0 < n → ∃ b off, va = some ⟨b, off, none⟩ ∧ ∀ W j, Ext w W → j < n → W.cell? ⟨b, off + j, none⟩ = some (.int .u8 (l.getD j 0))) := fun h0 => by
    obtain ⟨_, b, off, h1, h2⟩ := HV.out.at (fun e => by have := HN.out; rw [e] at this; simp at this; omega)
    exact ⟨b, off, h1, fun W j he hj => he.cellOf (h2 j hj)⟩
  clear ho he hz3
  go_wp2_with (refine wpList_store_row rfl 38 (.tmp 3) (.tmp 8) rfl w1.heap.size (tab6 N) rfl rfl 38 (tab6 Z) GA.out HS2.out HSZ.out (tab6_one _) ?_; rw [HW2.out, HG.out])
  clear hzt hmk GA HSZ HS2 HW2 G2 X1 X2 HNX HNL
  go_loopw [14] (fun vi wr => ∃ (i : Nat), i ≤ n ∧ vi = .int .i64 i ∧ Hid (Own .i64 38 w.heap.size wr (.slice (some ⟨g, 0, none⟩) 256 256) (nxtL l i)) ∧
    Hid (Own .i64 3 w.heap.size wr (.slice (some ⟨g + 1, 0, none⟩) n n) (lonL l i)) ∧ Hid (Ext w wr)) (fun vi _ => n - (intOf vi).toNat)
  case atStart => exact ⟨0, Nat.zero_le _, rfl, OT, OO, HE⟩
  case round =>
    clear OT OO HE
    obtain ⟨i, hi, rfl, OT, OO, HE⟩ := hrel
    by_cases hlt : i < n
    · have hlt' : (i : Int) < n := by omega
      obtain ⟨b, o, rfl, k1⟩ := VA.out (by omega)
      have c1 := k1 wr i HE.out hlt
      have hz := H8.out.get i
      obtain ⟨q, hq⟩ := Int.eq_ofNat_of_zero_le hz.1
      have hq6 : q < 256 := by omega
      have hq6' : (q : Int) < 256 := by omega
      have HNX := hide' (nxtL_next hq hq6)
      have HRW := hide' (HRK.out i q hlt hq)
      have HLW := hide' (HLN.out i hlt)
      rw [hq] at c1
      have c2 := OT.out.cell (nxtL_len l i) q hq6
      rw [nxtL_at l i hq6, HN.out] at c2
      have z2 := OT.out.frozen (nxtL_len l i) q
      have c3 := OO.out.cell (HLL.out i) i hlt
      have z3 := OO.out.frozen (HLL.out i) i
      have hb1 : ahC l q n ≤ 25600000 := by
        have h1 := ahC_le l q n
        have h2 : q * n ≤ 256 * 100000 := Nat.mul_le_mul (by omega) hs
        omega
      have hb2 := cntI_le l q i
      rw [HN.out] at HNX
      rw [HRW.out] at HLW
      obtain ⟨t, HT⟩ : ∃ t, Hid (ahC l q n + cntI l q i = t) := ⟨_, rfl⟩
      rw [HT.out] at c2 HNX HLW
      have ht : t ≤ 25700000 := by rw [← HT.out]; omega
      obtain ⟨T, HTT⟩ : ∃ T, Hid (t + 1 = T) := ⟨_, rfl⟩
      rw [HTT.out] at c2 HNX HLW
      have hT : T ≤ 25700001 := by rw [← HTT.out]; omega
      have OO2 : Hid (Own .i64 3 w.heap.size (wr.setCell ⟨g + 1, i, none⟩ (.int .i64 (T : Int))) (.slice (some ⟨g + 1, 0, none⟩) n n) (lonL l (i + 1))) := by
        show Own _ _ _ _ _ _
        rw [← HLW.out]
        exact OO.out.store (HLL.out i) i _
      have OT2 := hide' (OT.out.aside (j := i) (show g ≠ g + 1 by omega) (.int .i64 (T : Int)))
      have HE2 := hide' (Ext.but HE.out hgw1 (but_set wr (g + 1) i (.int .i64 (T : Int))))
      have c4 := OT2.out.cell (nxtL_len l i) q hq6
      have z4 := OT2.out.frozen (nxtL_len l i) q
      have OO3 := hide' (OO2.out.aside (j := q) (show g + 1 ≠ g by omega) (.int .i64 ((T + 1 : Nat) : Int)))
      have OT3 : Hid (Own .i64 38 w.heap.size ((wr.setCell ⟨g + 1, i, none⟩ (.int .i64 (T : Int))).setCell ⟨g, q, none⟩ (.int .i64 ((T + 1 : Nat) : Int))) (.slice (some ⟨g, 0, none⟩) 256 256) (nxtL l (i + 1))) := by
        show Own _ _ _ _ _ _
        rw [← HNX.out]
        exact OT2.out.store (nxtL_len l i) q _
      have HE3 := hide' (Ext.but HE2.out hgw (but_set _ g q (.int .i64 ((T + 1 : Nat) : Int))))
      rw [nxtL_at l i hq6, HN.out, HT.out, HTT.out] at c4
      clear k1 hq hz HNX HLW HRW hb1 hb2
      go_wp2
      go_roundw
      case rel => exact ⟨i + 1, by omega, by go_num, OT3, OO3, HE3⟩
      case measure => simp [intOf]; omega
    · have hlt' : decide ((i : Int) < n) = false := by simp; omega
      have hin : i = n := by omega
      have OF : Hid (Own .i64 3 w.heap.size wr (.slice (some ⟨g + 1, 0, none⟩) n n) (lonL l n)) := by rw [← hin]; exact (by rw [hin]; have := OO.out; rwa [hin] at this)
      clear hin
      go_wp2
      go_ret
      exact ⟨_, rfl, OF.out, HE.out⟩
end Go.Proofs.Ytokmlklcjipkiaa

/- Small and large endings. Plain numbers, no conditions. -/
namespace Go.Proofs.Ytokmlklcjipkiaa
set_option linter.unusedVariables false
set_option linter.unusedSimpArgs false

/-- Is place i small: is its ending less than the next place's one? -/
def smB (s : List Int) (i : Nat) : Bool := decide (cmpI (s.drop i) (s.drop (i + 1)) < 0)

def smallI (s : List Int) : List Bool := (List.range s.length).map (smB s)

theorem smallI_len (s : List Int) : (smallI s).length = s.length := by simp [smallI]
theorem smallI_at {s : List Int} {i : Nat} (h : i < s.length) : (smallI s).getD i false = smB s i := by simp [smallI, List.getD, h]

theorem smB_lt {s : List Int} {i : Nat} (hi : i + 1 < s.length) (h : s.getD i 0 < s.getD (i + 1) 0) : smB s i = true := by
  unfold smB
  rw [drop_getD (show i < s.length by omega), drop_getD hi, cmpI, if_pos h]; rfl
theorem smB_gt {s : List Int} {i : Nat} (hi : i + 1 < s.length) (h : s.getD (i + 1) 0 < s.getD i 0) : smB s i = false := by
  unfold smB
  rw [drop_getD (show i < s.length by omega), drop_getD hi, cmpI, if_neg (by omega), if_pos h]; rfl
theorem smB_eq {s : List Int} {i : Nat} (hi : i + 1 < s.length) (h : s.getD i 0 = s.getD (i + 1) 0) : smB s i = smB s (i + 1) := by
  unfold smB
  rw [drop_getD (show i < s.length by omega), drop_getD hi, cmpI, if_neg (by omega), if_neg (by omega), ← drop_getD hi]
theorem smB_last {s : List Int} {i : Nat} (hi : s.length ≤ i + 1) : smB s i = false := by
  unfold smB
  rw [List.drop_of_length_le hi]
  by_cases h : i < s.length
  · rw [drop_getD h]; rfl
  · rw [List.drop_of_length_le (by omega)]; rfl
/-- A place by its number and the next one. -/
theorem smB_next {s : List Int} {i : Nat} (hi : i + 1 < s.length) : smB s i = (decide (s.getD i 0 < s.getD (i + 1) 0) || (decide (s.getD i 0 = s.getD (i + 1) 0) && smB s (i + 1))) := by
  rcases Int.lt_trichotomy (s.getD i 0) (s.getD (i + 1) 0) with h | h | h
  · rw [smB_lt hi h, decide_eq_true h]; rfl
  · rw [smB_eq hi h, decide_eq_false (by omega), decide_eq_true h]; rfl
  · rw [smB_gt hi h, decide_eq_false (by omega), decide_eq_false (by omega)]; rfl

/-- Does place i begin small ones? -/
def fsB (s : List Int) (i : Nat) : Bool := decide (1 ≤ i) && (smB s i && !smB s (i - 1))

/-- The places below k that begin small ones. -/
def firN (s : List Int) (k : Nat) : List Nat := (List.range k).filter (fsB s)
/-- The places that begin small ones. -/
def firstN (s : List Int) : List Nat := firN s s.length

theorem firN_zero (s : List Int) : firN s 0 = [] := rfl
theorem firN_one (s : List Int) : firN s 1 = [] := rfl
theorem firN_yes {s : List Int} {k : Nat} (h : fsB s k = true) : firN s (k + 1) = firN s k ++ [k] := by simp [firN, List.range_succ, h]
theorem firN_no {s : List Int} {k : Nat} (h : fsB s k = false) : firN s (k + 1) = firN s k := by simp [firN, List.range_succ, h]
theorem firN_len (s : List Int) (k : Nat) : (firN s k).length ≤ k := by
  have := List.length_filter_le (fsB s) (List.range k)
  rw [List.length_range] at this
  exact this
theorem firN_mem {s : List Int} {k i : Nat} : i ∈ firN s k ↔ i < k ∧ fsB s i = true := by simp [firN]

/-- What begins small ones is followed by none that does. -/
theorem fsB_apart {s : List Int} {i : Nat} (h : fsB s i = true) : fsB s (i + 1) = false := by
  unfold fsB at *
  simp only [Bool.and_eq_true, decide_eq_true_eq, Bool.not_eq_true'] at h
  rw [Nat.add_sub_cancel, h.2.1]
  simp
theorem firN_sorted (s : List Int) (k : Nat) : (firN s k).Pairwise (· < ·) := List.Pairwise.filter _ List.pairwise_lt_range
/-- Those that begin small ones are at most half as many. -/
theorem firN_half (s : List Int) : ∀ k, 2 * (firN s k).length ≤ k ∧ (fsB s k = true → 2 * (firN s (k + 1)).length ≤ k + 1) := by
  have key : ∀ k, (fsB s k = true → 2 * (firN s k).length + 1 ≤ k) ∧ 2 * (firN s k).length ≤ k + 1 - 1 := by
    intro k
    induction k with
    | zero => exact ⟨fun h => absurd h (by simp [fsB]), by simp [firN]⟩
    | succ k ih =>
      by_cases hk : fsB s k = true
      · have hn := fsB_apart hk
        have h1 := ih.1 hk
        rw [firN_yes hk, List.length_append]
        exact ⟨fun h => absurd (hn.symm.trans h) (by simp), by simp; omega⟩
      · have hk' : fsB s k = false := by simpa using hk
        rw [firN_no hk']
        have := ih.2
        exact ⟨fun _ => by omega, by omega⟩
  intro k
  refine ⟨by have := (key k).2; omega, fun h => by have := (key (k + 1)).2; omega⟩
theorem firstN_half (s : List Int) : 2 * (firstN s).length ≤ s.length := (firN_half s _).1
/-- Two of them lie two apart. -/
theorem firN_two {s : List Int} {k j : Nat} (hj : j + 1 < (firN s k).length) : (firN s k).getD j 0 + 2 ≤ (firN s k).getD (j + 1) 0 := by
  have h1 := List.pairwise_iff_getElem.1 (firN_sorted s k) j (j + 1) (by omega) hj (by omega)
  have m1 := (firN_mem (s := s) (k := k)).1 (List.getElem_mem (show j < (firN s k).length by omega))
  have m2 := (firN_mem (s := s) (k := k)).1 (List.getElem_mem hj)
  simp only [List.getD, List.getElem?_eq_getElem hj, List.getElem?_eq_getElem (show j < (firN s k).length by omega), Option.getD_some]
  generalize (firN s k)[j] = x at *
  generalize (firN s k)[j + 1] = y at *
  by_cases e : y = x + 1
  · rw [e, fsB_apart m1.2] at m2
    cases m2.2
  · omega
theorem firN_in {s : List Int} {k j : Nat} (hj : j < (firN s k).length) : 1 ≤ (firN s k).getD j 0 ∧ (firN s k).getD j 0 < k := by
  have m1 := (firN_mem (s := s) (k := k)).1 (List.getElem_mem hj)
  simp only [List.getD, List.getElem?_eq_getElem hj, Option.getD_some]
  refine ⟨?_, m1.1⟩
  have := m1.2
  unfold fsB at this
  simp only [Bool.and_eq_true, decide_eq_true_eq] at this
  exact this.1

/-- Numbers that rise: all but the last are small. -/
theorem smB_rise {s : List Int} (h : ∀ i, i + 1 < s.length → s.getD i 0 < s.getD (i + 1) 0) (i : Nat) : smB s i = decide (i + 1 < s.length) := by
  by_cases hi : i + 1 < s.length
  · rw [smB_lt hi (h i hi), decide_eq_true hi]
  · rw [smB_last (by omega), decide_eq_false hi]
/-- Numbers that fall: none is small. -/
theorem smB_fall {s : List Int} (h : ∀ i, i + 1 < s.length → s.getD (i + 1) 0 < s.getD i 0) (i : Nat) : smB s i = false := by
  by_cases hi : i + 1 < s.length
  · exact smB_gt hi (h i hi)
  · exact smB_last (by omega)
theorem firN_none {s : List Int} {k : Nat} (h : ∀ i, fsB s i = false) : firN s k = [] := by
  unfold firN
  rw [List.filter_eq_nil_iff]
  intro i _
  rw [h i]; simp
theorem fsB_rise {s : List Int} (h : ∀ i, i + 1 < s.length → s.getD i 0 < s.getD (i + 1) 0) (i : Nat) : fsB s i = false := by
  unfold fsB
  rw [smB_rise h, smB_rise h]
  by_cases h1 : 1 ≤ i
  · by_cases h2 : i + 1 < s.length
    · rw [decide_eq_true (p := i - 1 + 1 < s.length) (by omega)]; simp
    · rw [decide_eq_false h2]; simp
  · rw [decide_eq_false h1]; rfl
theorem fsB_fall {s : List Int} (h : ∀ i, i + 1 < s.length → s.getD (i + 1) 0 < s.getD i 0) (i : Nat) : fsB s i = false := by
  unfold fsB
  rw [smB_fall h]; simp
end Go.Proofs.Ytokmlklcjipkiaa

/- A scan over rows of one key side by side, which lays places as it goes. Plain numbers, no conditions. -/
namespace Go.Proofs.Ytokmlklcjipkiaa
set_option linter.unusedVariables false
set_option linter.unusedSimpArgs false

/-- How many of the places have key q; how many have a less one. -/
def cntK (n : Nat) (key : Nat → Nat) (q : Nat) : Nat := (pick (List.range n) key q).length
def offK (n : Nat) (key : Nat → Nat) (q : Nat) : Nat := offs (List.range n) key q
theorem offK_succ (n : Nat) (key : Nat → Nat) (q : Nat) : offK n key (q + 1) = offK n key q + cntK n key q := offs_succ _ _ _
theorem offK_mono (n : Nat) (key : Nat → Nat) {k l : Nat} (h : k ≤ l) : offK n key k ≤ offK n key l := offs_mono _ _ h
theorem offK_all {n K : Nat} {key : Nat → Nat} (hK : ∀ p, p < n → key p < K) : offK n key K = n := by
  have := csort_len (K := K) (ps := List.range n) (key := key) fun p hp => hK p (List.mem_range.1 hp)
  rw [List.length_range] at this
  exact this
theorem offK_lt {n K : Nat} {key : Nat → Nat} (hK : ∀ p, p < n → key p < K) {q t : Nat} (hq : q < K) (ht : t < cntK n key q) : offK n key q + t < n := by
  have h1 := offK_mono n key (show q + 1 ≤ K from hq)
  rw [offK_all hK, offK_succ] at h1
  omega
theorem offK_split {n K : Nat} {key : Nat → Nat} (hK : ∀ p, p < n → key p < K) {x : Nat} (hx : x < n) : ∃ q t, q < K ∧ t < cntK n key q ∧ x = offK n key q + t :=
  csort_split (List.range n) key (K := K) (by have := offK_all hK; unfold offK offs at this; omega)
theorem offK_inj {n : Nat} {key : Nat → Nat} {k l t u : Nat} (ht : t < cntK n key k) (hu : u < cntK n key l) (h : offK n key k + t = offK n key l + u) : k = l ∧ t = u := offs_inj (List.range n) key ht hu h

theorem pick_mem {P : List Nat} {key : Nat → Nat} {q p : Nat} : p ∈ pick P key q ↔ p ∈ P ∧ key p = q := by simp [pick]
theorem pick_get {P : List Nat} {key : Nat → Nat} {q t : Nat} (h : t < (pick P key q).length) : (pick P key q).getD t 0 ∈ P ∧ key ((pick P key q).getD t 0) = q := pick_mem.1 (getN_mem h)
theorem pick_rev (P : List Nat) (key : Nat → Nat) (q : Nat) : pick P.reverse key q = (pick P key q).reverse := by simp [pick]
theorem pick_app (P R : List Nat) (key : Nat → Nat) (q : Nat) : pick (P ++ R) key q = pick P key q ++ pick R key q := by simp [pick]
theorem nodup_sub {l : List Nat} : ∀ {l' : List Nat}, l.Nodup → (∀ x ∈ l, x ∈ l') → l.length ≤ l'.length := by
  induction l with
  | nil => intro l' _ _; exact Nat.zero_le _
  | cons a l ih =>
    intro l' hn hs
    rw [List.nodup_cons] at hn
    have ha := hs a List.mem_cons_self
    have h1 := ih (l' := l'.erase a) hn.2 fun x hx => by
      have hne : x ≠ a := fun e => hn.1 (e ▸ hx)
      exact (List.mem_erase_of_ne hne).2 (hs x (List.mem_cons_of_mem _ hx))
    have h2 := List.length_erase_of_mem ha
    have h3 := List.length_pos_of_mem ha
    simp only [List.length_cons]
    omega
/-- Different places: no more of a key than there are. -/
theorem cnt_sub {n : Nat} {key : Nat → Nat} {P R : List Nat} (hP : P.Nodup) (hR : R.Nodup) (hPn : ∀ p ∈ P, p < n) (hRn : ∀ p ∈ R, p < n) (hd : ∀ p ∈ P, p ∉ R) (q : Nat) : (pick P key q).length + (pick R key q).length ≤ cntK n key q := by
  have h1 : (pick (P ++ R) key q).length ≤ cntK n key q := by
    refine nodup_sub (List.Pairwise.filter _ (List.nodup_append.2 ⟨hP, hR, fun a ha b hb e => hd a ha (e ▸ hb)⟩)) fun x hx => ?_
    obtain ⟨h2, h3⟩ := pick_mem.1 hx
    refine pick_mem.2 ⟨List.mem_range.2 ?_, h3⟩
    rcases List.mem_append.1 h2 with h | h
    · exact hPn x h
    · exact hRn x h
  rw [pick_app, List.length_append] at h1
  exact h1

/-- What stands where: P at the beginnings of the keys' rows, base at their ends, nothing between. -/
structure Lay (n : Nat) (key : Nat → Nat) (base P : List Nat) (r : Nat → Int) : Prop where
  put : ∀ q t, t < (pick P key q).length → r (offK n key q + t) = ((pick P key q).getD t 0 : Nat)
  old : ∀ q u, u < (pick base key q).length → r (offK n key (q + 1) - 1 - u) = ((pick base key q).reverse.getD u 0 : Nat)
  none : ∀ q t, t < cntK n key q → (pick P key q).length ≤ t → t + (pick base key q).length < cntK n key q → r (offK n key q + t) = -1

theorem rev_get (l : List Nat) {u : Nat} (h : u < l.length) : l.reverse.getD u 0 = l.getD (l.length - 1 - u) 0 := by
  simp only [List.getD_eq_getElem?_getD]
  rw [List.getElem?_reverse h]

theorem Lay.cases {n K : Nat} {key : Nat → Nat} {base P : List Nat} {r : Nat → Int} (h : Lay n key base P r) (hK : ∀ p, p < n → key p < K) {x : Nat} (hx : x < n) :
    ∃ q t, q < K ∧ t < cntK n key q ∧ x = offK n key q + t ∧
      ((t < (pick P key q).length ∧ r x = ((pick P key q).getD t 0 : Nat)) ∨
       (cntK n key q - 1 - t < (pick base key q).length ∧ (pick P key q).length ≤ t ∧ r x = ((pick base key q).reverse.getD (cntK n key q - 1 - t) 0 : Nat)) ∨ r x = -1) := by
  obtain ⟨q, t, h1, h2, h3⟩ := offK_split hK hx
  refine ⟨q, t, h1, h2, h3, ?_⟩
  by_cases hP : t < (pick P key q).length
  · exact .inl ⟨hP, by rw [h3]; exact h.put q t hP⟩
  · by_cases hB : cntK n key q - 1 - t < (pick base key q).length
    · refine .inr (.inl ⟨hB, by omega, ?_⟩)
      have := h.old q _ hB
      rw [offK_succ] at this
      rw [← this, h3]
      congr 1
      omega
    · exact .inr (.inr (by rw [h3]; exact h.none q t h2 (by omega) (by omega)))

/-- Where something stands, it is a place of P or of base; no place stands twice. -/
theorem Lay.val {n K : Nat} {key : Nat → Nat} {base P : List Nat} {r : Nat → Int} (h : Lay n key base P r) (hK : ∀ p, p < n → key p < K) {x : Nat} (hx : x < n) : r x = -1 ∨ ∃ p : Nat, r x = (p : Int) ∧ (p ∈ P ∨ p ∈ base) := by
  obtain ⟨q, t, _, _, _, h1 | h1 | h1⟩ := h.cases hK hx
  · exact .inr ⟨_, h1.2, .inl (pick_get h1.1).1⟩
  · refine .inr ⟨_, h1.2.2, .inr ?_⟩
    have := getN_mem (l := (pick base key q).reverse) (by rw [List.length_reverse]; exact h1.1)
    rw [List.mem_reverse] at this
    exact (pick_mem.1 this).1
  · exact .inl h1
theorem Lay.inj {n K : Nat} {key : Nat → Nat} {base P : List Nat} {r : Nat → Int} (h : Lay n key base P r) (hK : ∀ p, p < n → key p < K) (hP : P.Nodup) (hB : base.Nodup) (hd : ∀ p ∈ P, p ∉ base) {x y p : Nat} (hx : x < n) (hy : y < n)
    (ex : r x = (p : Int)) (ey : r y = (p : Int)) : x = y := by
  have hrev : ∀ {q u}, u < (pick base key q).length → (pick base key q).reverse.getD u 0 ∈ base ∧ key ((pick base key q).reverse.getD u 0) = q := fun {q u} hu => by
    have := getN_mem (l := (pick base key q).reverse) (i := u) (by rw [List.length_reverse]; exact hu)
    rw [List.mem_reverse] at this
    exact pick_mem.1 this
  obtain ⟨q, t, _, ht, e1, h1⟩ := h.cases hK hx
  obtain ⟨q', t', _, ht', e2, h2⟩ := h.cases hK hy
  rw [ex] at h1
  rw [ey] at h2
  rcases h1 with ⟨a1, a2⟩ | ⟨a1, _, a2⟩ | a1
  · have m1 := pick_get a1
    rcases h2 with ⟨b1, b2⟩ | ⟨b1, _, b2⟩ | b1
    · have m2 := pick_get b1
      have e : (pick P key q).getD t 0 = (pick P key q').getD t' 0 := by omega
      have eq : q = q' := by rw [← m1.2, ← m2.2, e]
      subst eq
      have := nodup_getN (hP.filter _) a1 b1 e
      omega
    · have m2 := hrev b1
      have e : (pick P key q).getD t 0 = (pick base key q').reverse.getD (cntK n key q' - 1 - t') 0 := by omega
      rw [← e] at m2
      exact absurd m2.1 (hd _ m1.1)
    · omega
  · have m1 := hrev a1
    rcases h2 with ⟨b1, b2⟩ | ⟨b1, _, b2⟩ | b1
    · have m2 := pick_get b1
      have e : (pick P key q').getD t' 0 = (pick base key q).reverse.getD (cntK n key q - 1 - t) 0 := by omega
      rw [← e] at m1
      exact absurd m1.1 (hd _ m2.1)
    · have m2 := hrev b1
      have e : (pick base key q).reverse.getD (cntK n key q - 1 - t) 0 = (pick base key q').reverse.getD (cntK n key q' - 1 - t') 0 := by omega
      have eq : q = q' := by rw [← m1.2, ← m2.2, e]
      subst eq
      have hn : (pick base key q).reverse.Nodup := List.pairwise_reverse.2 ((List.Pairwise.filter _ hB).imp fun h => Ne.symm h)
      have := nodup_getN hn (by rw [List.length_reverse]; exact a1) (by rw [List.length_reverse]; exact b1) e
      omega
    · omega
  · omega

/-- A place of P or of base stands somewhere. -/
theorem Lay.find {n K : Nat} {key : Nat → Nat} {base P : List Nat} {r : Nat → Int} (h : Lay n key base P r) (hK : ∀ p, p < n → key p < K) (hP : P.Nodup) (hB : base.Nodup) (hPn : ∀ p ∈ P, p < n) (hBn : ∀ p ∈ base, p < n) {p : Nat} (hp : p ∈ P ∨ p ∈ base) : ∃ x, x < n ∧ r x = (p : Int) := by
  rcases hp with hp | hp
  · obtain ⟨t, ht, e⟩ := mem_getN (pick_mem.2 ⟨hp, rfl⟩ : p ∈ pick P key (key p))
    have hc := cnt_sub (key := key) hP List.nodup_nil hPn (fun _ h => by cases h) (fun _ _ h => by cases h) (key p)
    have : t < cntK n key (key p) := by omega
    exact ⟨_, offK_lt hK (hK p (hPn p hp)) this, by rw [h.put _ t ht, e]⟩
  · have hm : p ∈ (pick base key (key p)).reverse := List.mem_reverse.2 (pick_mem.2 ⟨hp, rfl⟩)
    obtain ⟨t, ht, e⟩ := mem_getN hm
    rw [List.length_reverse] at ht
    have hc := cnt_sub (key := key) hB List.nodup_nil hBn (fun _ h => by cases h) (fun _ _ h => by cases h) (key p)
    have hlt : cntK n key (key p) - 1 - t < cntK n key (key p) := by omega
    have h1 := offK_lt hK (hK p (hBn p hp)) hlt
    refine ⟨offK n key (key p + 1) - 1 - t, ?_, by rw [h.old _ t ht, e]⟩
    rw [offK_succ]
    omega

/-- One more. -/
theorem Lay.snoc {n K : Nat} {key : Nat → Nat} {base P : List Nat} {r : Nat → Int} (h : Lay n key base P r) {p : Nat} (hc : ∀ q, (pick (P ++ [p]) key q).length + (pick base key q).length ≤ cntK n key q) {r' : Nat → Int}
    (h1 : r' (offK n key (key p) + (pick P key (key p)).length) = (p : Int)) (h2 : ∀ x, x ≠ offK n key (key p) + (pick P key (key p)).length → r' x = r x) : Lay n key base (P ++ [p]) r' := by
  have hp := hc (key p)
  rw [pick_snoc_same rfl, List.length_append, List.length_singleton] at hp
  refine ⟨fun q t ht => ?_, fun q u hu => ?_, fun q t ht ht1 ht2 => ?_⟩
  · by_cases e : key p = q
    · subst e
      rw [pick_snoc_same rfl] at ht ⊢
      rw [List.length_append, List.length_singleton] at ht
      by_cases et : t = (pick P key (key p)).length
      · rw [et, h1]
        simp [List.getD]
      · rw [h2 _ (by omega), h.put _ t (by omega)]
        simp only [List.getD_eq_getElem?_getD]
        rw [List.getElem?_append_left (by omega)]
    · rw [pick_snoc_other e] at ht ⊢
      rw [h2 _ (fun e2 => ?_), h.put q t ht]
      have h3 := hc q
      rw [pick_snoc_other e] at h3
      exact e (offK_inj (by omega) (by omega) e2).1.symm
  · rw [h2 _ (fun e2 => ?_), h.old q u hu]
    have h3 := hc q
    have h4 : (pick P key q).length ≤ (pick (P ++ [p]) key q).length := by rw [pick_app, List.length_append]; omega
    rw [offK_succ] at e2
    have e3 := offK_inj (n := n) (key := key) (k := q) (l := key p) (t := cntK n key q - 1 - u) (u := (pick P key (key p)).length) (by omega) (by omega) (by omega)
    obtain ⟨e4, e5⟩ := e3
    subst e4
    omega
  · have h4 : (pick P key q).length ≤ (pick (P ++ [p]) key q).length := by rw [pick_app, List.length_append]; omega
    rw [h2 _ (fun e2 => ?_), h.none q t ht (by omega) ht2]
    obtain ⟨e4, e5⟩ := offK_inj (n := n) (key := key) ht (by omega) e2
    subst e4
    rw [pick_snoc_same rfl, List.length_append, List.length_singleton] at ht1
    omega

theorem Lay.empty (n : Nat) (key : Nat → Nat) {r : Nat → Int} (h : ∀ x, x < n → r x = -1) (hl : ∀ q t, t < cntK n key q → offK n key q + t < n) : Lay n key [] [] r :=
  ⟨fun q t ht => by simp [pick] at ht, fun q t ht => by simp [pick] at ht, fun q t ht _ _ => h _ (hl q t ht)⟩

/-- What a scan keeps. -/
structure Scan (n : Nat) (key : Nat → Nat) (T : Nat → Bool) (base P0 : List Nat) (i : Nat) (P : List Nat) (r : Nat → Int) : Prop where
  lay : Lay n key base P r
  nodup : P.Nodup
  kind : ∀ p ∈ P, p < n ∧ T p = true
  src : ∀ p ∈ P, p ∈ P0 ∨ ∃ x, x < i ∧ r x = ((p + 1 : Nat) : Int)
  done : ∀ x, x < i → ∀ p : Nat, r x = ((p + 1 : Nat) : Int) → T p = true → p ∈ P
  init : ∀ p ∈ P0, p ∈ P

/-- What a scan stands on. -/
structure Based (n K : Nat) (key : Nat → Nat) (T : Nat → Bool) (base P0 : List Nat) : Prop where
  hK : ∀ p, p < n → key p < K
  nodup : base.Nodup
  kind : ∀ p ∈ base, p < n ∧ T p = false
  last : ∀ p ∈ P0, n ≤ p + 1
  mono : ∀ p, p + 1 < n → T p = true → key (p + 1) ≤ key p ∧ (key (p + 1) = key p → T (p + 1) = true)

theorem Scan.apart {n K : Nat} {key : Nat → Nat} {T : Nat → Bool} {base P0 P : List Nat} {i : Nat} {r : Nat → Int} (h : Scan n key T base P0 i P r) (b : Based n K key T base P0) : ∀ p ∈ P, p ∉ base := fun p h1 h2 => by
  have := (h.kind p h1).2
  rw [(b.kind p h2).2] at this
  cases this

theorem Scan.val {n K : Nat} {key : Nat → Nat} {T : Nat → Bool} {base P0 P : List Nat} {i x : Nat} {r : Nat → Int} (h : Scan n key T base P0 i P r) (b : Based n K key T base P0) (hx : x < n) : r x = -1 ∨ ∃ p : Nat, r x = (p : Int) ∧ p < n := by
  rcases h.lay.val b.hK hx with h1 | ⟨p, h1, h2 | h2⟩
  · exact .inl h1
  · exact .inr ⟨p, h1, (h.kind p h2).1⟩
  · exact .inr ⟨p, h1, (b.kind p h2).1⟩

theorem Scan.skip {n : Nat} {key : Nat → Nat} {T : Nat → Bool} {base P0 P : List Nat} {i : Nat} {r : Nat → Int} (h : Scan n key T base P0 i P r) (hs : ∀ p : Nat, r i = ((p + 1 : Nat) : Int) → T p = false) : Scan n key T base P0 (i + 1) P r := by
  refine ⟨h.lay, h.nodup, h.kind, fun p hp => ?_, fun x hx p hr hT => ?_, h.init⟩
  · rcases h.src p hp with h1 | ⟨x, h1, h2⟩
    · exact .inl h1
    · exact .inr ⟨x, by omega, h2⟩
  · by_cases e : x = i
    · subst e
      rw [hs p hr] at hT
      cases hT
    · exact h.done x (by omega) p hr hT

/-- One that is put: it has room, behind what was read. -/
theorem Scan.room {n K : Nat} {key : Nat → Nat} {T : Nat → Bool} {base P0 P : List Nat} {i p : Nat} {r : Nat → Int} (h : Scan n key T base P0 i P r) (b : Based n K key T base P0) (hi : i < n) (hr : r i = ((p + 1 : Nat) : Int)) (hT : T p = true) :
    p + 1 < n ∧ p ∉ P ∧ (∀ q, (pick (P ++ [p]) key q).length + (pick base key q).length ≤ cntK n key q) ∧ offK n key (key p) + (pick P key (key p)).length < n ∧ i < offK n key (key p) + (pick P key (key p)).length := by
  have hp1 : p + 1 < n := by
    rcases h.val b hi with h1 | ⟨p', h1, h2⟩
    · omega
    · omega
  have hnot : p ∉ P := fun hp => by
    rcases h.src p hp with h1 | ⟨x, h1, h2⟩
    · have := b.last p h1
      omega
    · have := h.lay.inj b.hK h.nodup b.nodup (h.apart b) (show x < n by omega) hi h2 hr
      omega
  have hc : ∀ q, (pick (P ++ [p]) key q).length + (pick base key q).length ≤ cntK n key q := by
    refine fun q => cnt_sub (List.nodup_append.2 ⟨h.nodup, by simp, fun a ha c hc e => ?_⟩) b.nodup (fun a ha => ?_) (fun a ha => (b.kind a ha).1) (fun a ha hb => ?_) q
    · simp only [List.mem_singleton] at hc
      exact hnot (by rw [← hc, ← e]; exact ha)
    · rcases List.mem_append.1 ha with h1 | h1
      · exact (h.kind a h1).1
      · simp only [List.mem_singleton] at h1
        omega
    · rcases List.mem_append.1 ha with h1 | h1
      · exact h.apart b a h1 hb
      · simp only [List.mem_singleton] at h1
        subst h1
        rw [(b.kind a hb).2] at hT
        cases hT
  have hp := hc (key p)
  rw [pick_snoc_same rfl, List.length_append, List.length_singleton] at hp
  refine ⟨hp1, hnot, hc, offK_lt b.hK (b.hK p (by omega)) (by omega), ?_⟩
  obtain ⟨m1, m2⟩ := b.mono p hp1 hT
  obtain ⟨q, t, _, ht, e1, h1⟩ := h.lay.cases b.hK hi
  rw [hr] at h1
  rcases h1 with ⟨a1, a2⟩ | ⟨a1, _, a2⟩ | a1
  · have m3 := (pick_get a1).2
    rw [show (pick P key q).getD t 0 = p + 1 by omega] at m3
    by_cases e : q = key p
    · subst e
      omega
    · have := offK_mono n key (show q + 1 ≤ key p by omega)
      rw [offK_succ] at this
      omega
  · have := getN_mem (l := (pick base key q).reverse) (by rw [List.length_reverse]; exact a1)
    rw [List.mem_reverse, show (pick base key q).reverse.getD (cntK n key q - 1 - t) 0 = p + 1 by omega] at this
    obtain ⟨m3, m4⟩ := pick_mem.1 this
    have e : q ≠ key p := fun e => by
      have := m2 (by omega)
      rw [(b.kind _ m3).2] at this
      cases this
    have := offK_mono n key (show q + 1 ≤ key p by omega)
    rw [offK_succ] at this
    omega
  · omega

theorem Scan.next {n K : Nat} {key : Nat → Nat} {T : Nat → Bool} {base P0 P : List Nat} {i p : Nat} {r r' : Nat → Int} (h : Scan n key T base P0 i P r) (b : Based n K key T base P0) (hi : i < n) (hr : r i = ((p + 1 : Nat) : Int)) (hT : T p = true)
    (h1 : r' (offK n key (key p) + (pick P key (key p)).length) = (p : Int)) (h2 : ∀ x, x ≠ offK n key (key p) + (pick P key (key p)).length → r' x = r x) : Scan n key T base P0 (i + 1) (P ++ [p]) r' := by
  obtain ⟨g1, g2, g3, g4, g5⟩ := h.room b hi hr hT
  refine ⟨h.lay.snoc (K := K) g3 h1 h2, List.nodup_append.2 ⟨h.nodup, by simp, fun a ha c hc e => ?_⟩, fun a ha => ?_, fun a ha => ?_, fun x hx a ha hTa => ?_, fun a ha => List.mem_append_left _ (h.init a ha)⟩
  · simp only [List.mem_singleton] at hc
    exact g2 (by rw [← hc, ← e]; exact ha)
  · rcases List.mem_append.1 ha with h3 | h3
    · exact h.kind a h3
    · simp only [List.mem_singleton] at h3
      subst h3
      exact ⟨by omega, hT⟩
  · rcases List.mem_append.1 ha with h3 | h3
    · rcases h.src a h3 with h4 | ⟨x, h4, h5⟩
      · exact .inl h4
      · exact .inr ⟨x, by omega, by rw [h2 x (by omega)]; exact h5⟩
    · simp only [List.mem_singleton] at h3
      subst h3
      exact .inr ⟨i, by omega, by rw [h2 i (by omega)]; exact hr⟩
  · rw [h2 x (by omega)] at ha
    by_cases e : x = i
    · subst e
      have : a = p := by omega
      subst this
      exact List.mem_append_right _ (List.mem_singleton.2 rfl)
    · exact List.mem_append_left _ (h.done x (by omega) a ha hTa)

/-- At its end it has put all of its kind. -/
theorem Scan.all {n K : Nat} {key : Nat → Nat} {T : Nat → Bool} {base P0 P : List Nat} {r : Nat → Int} (h : Scan n key T base P0 n P r) (b : Based n K key T base P0) (h0 : ∀ p, p < n → T p = true → n ≤ p + 1 → p ∈ P0) (h1 : ∀ p, p + 1 < n → T p = true → T (p + 1) = false → p + 1 ∈ base) :
    ∀ p, p < n → T p = true → p ∈ P := by
  have key1 : ∀ d p, n - p = d → p < n → T p = true → p ∈ P := by
    intro d
    induction d with
    | zero => intro p h2 h3; omega
    | succ d ih =>
      intro p h2 h3 hT
      by_cases hl : n ≤ p + 1
      · exact h.init p (h0 p h3 hT hl)
      · have hin : p + 1 ∈ P ∨ p + 1 ∈ base := by
          cases hT1 : T (p + 1)
          · exact .inr (h1 p (by omega) hT hT1)
          · exact .inl (ih (p + 1) (by omega) (by omega) hT1)
        obtain ⟨x, hx, hr⟩ := h.lay.find b.hK h.nodup b.nodup (fun p hp => (h.kind p hp).1) (fun p hp => (b.kind p hp).1) hin
        exact h.done x hx p hr hT
  exact fun p => key1 _ p rfl
end Go.Proofs.Ytokmlklcjipkiaa
