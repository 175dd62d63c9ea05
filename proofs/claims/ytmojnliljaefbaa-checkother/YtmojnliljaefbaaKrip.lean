/- A region that draws its order, whose operations leave all old memory as it was and may make new memory: one walk in the order of the text serves every order. Over any program; no conditions. -/
import Derived.Deep.Quiet
import Derived.WalkKit
namespace Go.Proofs.Ytmojnliljaefbaa
set_option linter.unusedVariables false
set_option linter.unusedSimpArgs false
open Go.RowKit

/-- All that there was is as it was; there may be more. -/
def Ext (w w' : World) : Prop := Below w.heap.size w w'
theorem Ext.refl (w : World) : Ext w w := Below.refl _ _
theorem Ext.trans {a b c : World} (h : Ext a b) (k : Ext b c) : Ext a c := Below.trans h (Below.mono k h.size)
theorem Ext.drawn (w : World) : Ext w { w with drawn := w.drawn + 1 } := ⟨rfl, rfl, rfl, Nat.le_refl _, fun _ _ => rfl⟩

/-- What is known of a slot's value, in a world. -/
abbrev Facts := Tmp → World → Prop
def Facts.add (F : Facts) (d : Option Tmp) (G : World → Prop) : Facts := fun t w => F t w ∧ (d = some t → G w)
def UpW (G : World → Prop) : Prop := ∀ w w', Ext w w' → G w → G w'

section
variable {P : Program} {ops : Array Oper} {md : Region.Mode} {S : FuncId → Array Value → Value → World → Prop} {w0 : World} {Q : Act → Facts → Prop}

def kUpon (P : Program) (S : FuncId → Array Value → Value → World → Prop) (w : World) (R : Value → World → Prop) : Result Next → Prop
  | .ok (.value u) w' => Ext w w' ∧ R u w'
  | .ok .skip w' => Ext w w' ∧ R undef w'
  | .ok (.enter f args) w' => Ext w w' ∧ Calls P f args w' (fun e w'' => ∃ v, e = .returned v ∧ Ext w' w'' ∧ S f args v w'') ∧ (∀ v w'', S f args v w'' → R v w'')
  | _ => False

/-- From w0 on, whatever else has come: the operation yields a value of which R holds. -/
def KY (P : Program) (ops : Array Oper) (S : FuncId → Array Value → Value → World → Prop) (w0 : World) (o : Oper) (a : Act) (F : Facts) (R : Value → World → Prop) : Prop :=
  (∀ v, UpW (R v)) ∧
  ((Region.wanted o (yielded ops a.tmps) = true ∧ ∀ w, Ext w0 w → (∀ t ∈ o.looksAt ops, F t w) → kUpon P S w R ((execOp a.eval o).run P w)) ∨
   (Region.wanted o (yielded ops a.tmps) = false ∧ R = fun v _ => v = undef))

def kStep (P : Program) (ops : Array Oper) (S : FuncId → Array Value → Value → World → Prop) (w0 : World) (o : Oper) (a : Act) (F : Facts) (K : Act → Facts → Prop) : Prop :=
  ∃ R, KY P ops S w0 o a F R ∧ ∀ v, (∃ w, Ext w0 w ∧ (∀ t, F t w) ∧ R v w) → K (a.put o.dst v) (F.add o.dst (R v))

def lexK (P : Program) (ops : Array Oper) (S : FuncId → Array Value → Value → World → Prop) (w0 : World) (Q : Act → Facts → Prop) : List Oper → Act → Facts → Prop
  | [], a, F => Q a F
  | o :: rest, a, F => kStep P ops S w0 o a F (lexK P ops S w0 Q rest)

def kOp (P : Program) (ops : Array Oper) (S : FuncId → Array Value → Value → World → Prop) (w0 : World) (i : Nat) (K : Act → Facts → Prop) (a : Act) (F : Facts) : Prop :=
  match ops[i]? with
  | none => K a F
  | some o => kStep P ops S w0 o a F K

def anyK (P : Program) (md : Region.Mode) (ops : Array Oper) (S : FuncId → Array Value → Value → World → Prop) (w0 : World) (Q : Act → Facts → Prop) : Nat → Array Bool → Act → Facts → Prop
  | 0, listed, a, F => Region.ready md ops listed = [] ∧ Q a F
  | fuel + 1, listed, a, F =>
    (Region.ready md ops listed = [] → Q a F) ∧
    ∀ i ∈ Region.ready md ops listed, kOp P ops S w0 i (anyK P md ops S w0 Q fuel (listed.setIfInBounds i true)) a F

theorem Facts.add_anti {F F' : Facts} (h : ∀ t w, F' t w → F t w) {G G' : World → Prop} (hG : ∀ w, G' w → G w) (d : Option Tmp) : ∀ t w, F'.add d G' t w → F.add d G t w :=
  fun t w hh => ⟨h t w hh.1, fun e => hG w (hh.2 e)⟩

theorem KY.anti {o : Oper} {a : Act} {F F' : Facts} (h : ∀ t w, F' t w → F t w) {R : Value → World → Prop} (hy : KY P ops S w0 o a F R) : KY P ops S w0 o a F' R := by
  refine ⟨hy.1, ?_⟩
  rcases hy.2 with ⟨hw, hk⟩ | hn
  · exact .inl ⟨hw, fun w he hf => hk w he fun t ht => h t w (hf t ht)⟩
  · exact .inr hn

theorem kStep_anti {o : Oper} {a : Act} {F F' : Facts} {K K' : Act → Facts → Prop} (hK : ∀ a F F', (∀ t w, F' t w → F t w) → K a F → K' a F') (h : ∀ t w, F' t w → F t w)
    (hh : kStep P ops S w0 o a F K) : kStep P ops S w0 o a F' K' := by
  obtain ⟨R, hy, hn⟩ := hh
  exact ⟨R, hy.anti h, fun v ⟨w, he, hf, hr⟩ => hK _ _ _ (Facts.add_anti h (fun _ x => x) _) (hn v ⟨w, he, fun t => h t w (hf t), hr⟩)⟩

theorem kOp_anti {i : Nat} {a : Act} {F F' : Facts} {K K' : Act → Facts → Prop} (hK : ∀ a F F', (∀ t w, F' t w → F t w) → K a F → K' a F') (h : ∀ t w, F' t w → F t w)
    (hh : kOp P ops S w0 i K a F) : kOp P ops S w0 i K' a F' := by
  unfold kOp at *
  cases ho : ops[i]? with
  | none => simp only [ho] at hh ⊢; exact hK _ _ _ h hh
  | some o => simp only [ho] at hh ⊢; exact kStep_anti hK h hh

theorem anyK_anti (hQ : ∀ a F F', (∀ t w, F' t w → F t w) → Q a F → Q a F') : ∀ (fuel : Nat) (listed : Array Bool) (a : Act) (F F' : Facts), (∀ t w, F' t w → F t w) →
    anyK P md ops S w0 Q fuel listed a F → anyK P md ops S w0 Q fuel listed a F'
  | 0, _, _, _, _, h, hh => ⟨hh.1, hQ _ _ _ h hh.2⟩
  | fuel + 1, _, _, _, _, h, hh => ⟨fun e => hQ _ _ _ h (hh.1 e), fun i hi => kOp_anti (fun a F F' h => anyK_anti hQ fuel _ a F F' h) h (hh.2 i hi)⟩

theorem wpAny_of_anyK {Q' : Exit → Act → World → Prop} (hQ : ∀ a F w, Ext w0 w → (∀ t, F t w) → Q a F → Q' .normal a w) : ∀ (fuel : Nat) (listed : Array Bool) (a : Act) (F : Facts) (w : World),
    Ext w0 w → (∀ t, UpW (F t)) → (∀ t, F t w) → anyK P md ops S w0 Q fuel listed a F → wpAny P md ops Q' fuel listed a w
  | 0, _, _, _, _, he, _, hf, h => ⟨h.1, hQ _ _ _ he hf h.2⟩
  | fuel + 1, listed, a, F, w, he, hup, hf, h => by
    refine ⟨fun e => hQ _ _ _ he hf (h.1 e), fun i hi => ?_⟩
    have h1 := h.2 i hi
    unfold kOp at h1
    unfold wpOp
    cases ho : ops[i]? with
    | none => simp only [ho] at h1 ⊢; exact wpAny_of_anyK hQ fuel _ _ _ _ he hup hf h1
    | some o =>
      simp only [ho] at h1 ⊢
      obtain ⟨R, ⟨hR, hy⟩, hn⟩ := h1
      have go : ∀ v w', Ext w w' → R v w' → wpAny P md ops Q' fuel (listed.setIfInBounds i true) (a.put o.dst v) w' := fun v w' hx hr =>
        wpAny_of_anyK hQ fuel _ _ _ _ (he.trans hx) (fun t w1 w2 h12 hh => ⟨hup t w1 w2 h12 hh.1, fun e => hR v w1 w2 h12 (hh.2 e)⟩) (fun t => ⟨hup t w w' hx (hf t), fun _ => hr⟩)
          (hn v ⟨w', he.trans hx, fun t => hup t w w' hx (hf t), hr⟩)
      rcases hy with ⟨hw, hk⟩ | ⟨hw, rfl⟩
      · rw [if_pos hw]
        refine .inl ?_
        have h2 := hk w he fun t _ => hf t
        unfold Oper.wp
        generalize (execOp a.eval o).run P w = r at *
        cases r with
        | ok n w' =>
          cases n <;> simp only [kUpon] at h2 <;> simp only [Oper.upon]
          case value u => exact go _ _ h2.1 h2.2
          case skip => exact go _ _ h2.1 h2.2
          case enter f args =>
            obtain ⟨h3, h4, h5⟩ := h2
            exact h4.mono fun e w'' ⟨v, hv, h6, h7⟩ => by subst hv; exact go _ _ (h3.trans h6) (h5 _ _ h7)
        | halt x w' => simp only [kUpon] at h2
      · rw [if_neg (by rw [hw]; exact Bool.false_ne_true)]
        exact go _ _ (Ext.refl _) rfl

theorem kUpon_all {ι : Type} (i0 : ι) {w : World} {R : ι → Value → World → Prop} {r : Result Next} (h : ∀ i, kUpon P S w (R i) r) : kUpon P S w (fun v w' => ∀ i, R i v w') r := by
  cases r with
  | halt x w' => exact (h i0).elim
  | ok n w' =>
    cases n with
    | value u => exact ⟨(h i0).1, fun i => (h i).2⟩
    | skip => exact ⟨(h i0).1, fun i => (h i).2⟩
    | enter f args => exact ⟨(h i0).1, (h i0).2.1, fun v w'' hs i => (h i).2.2 v w'' hs⟩
    | _ => exact (h i0).elim

theorem KY.of_same {o : Oper} {a a' : Act} {F F' : Facts} {R : Value → World → Prop} (hy : KY P ops S w0 o a F R) (hF : ∀ w, ∀ t ∈ o.looksAt ops, F' t w → F t w) (he : execOp a'.eval o = execOp a.eval o)
    (hw : Region.wanted o (yielded ops a'.tmps) = Region.wanted o (yielded ops a.tmps)) : KY P ops S w0 o a' F' R := by
  refine ⟨hy.1, ?_⟩
  rw [he, hw]
  rcases hy.2 with ⟨h1, h2⟩ | h1
  · exact .inl ⟨h1, fun w hx hf => h2 w hx fun t ht => hF w t ht (hf t ht)⟩
  · exact .inr h1

/-- In a world where all facts hold the operation yields some value. -/
theorem KY.some {o : Oper} {a : Act} {F : Facts} {R : Value → World → Prop} (hy : KY P ops S w0 o a F R) (hup : ∀ t, UpW (F t)) {w : World} (he : Ext w0 w) (hf : ∀ t, F t w) : ∃ v w', Ext w0 w' ∧ (∀ t, F t w') ∧ R v w' := by
  rcases hy.2 with ⟨_, h2⟩ | ⟨_, rfl⟩
  · have h3 := h2 w he fun t _ => hf t
    generalize (execOp a.eval o).run P w = r at *
    cases r with
    | halt x w' => exact h3.elim
    | ok n w' =>
      cases n with
      | value u => exact ⟨u, w', he.trans h3.1, fun t => hup t _ _ h3.1 (hf t), h3.2⟩
      | skip => exact ⟨undef, w', he.trans h3.1, fun t => hup t _ _ h3.1 (hf t), h3.2⟩
      | enter f args =>
        obtain ⟨h4, h5, h6⟩ := h3
        obtain ⟨e, w'', _, ⟨v, _, h7, h8⟩, _⟩ := h5 []
        exact ⟨v, w'', he.trans (h4.trans h7), fun t => hup t _ _ (h4.trans h7) (hf t), h6 _ _ h8⟩
      | _ => exact h3.elim
  · exact ⟨undef, w, he, hf, rfl⟩

theorem anyK_first (hQ : ∀ a F F', (∀ t w, F' t w → F t w) → Q a F → Q a F') {i : Nat} {oi : Oper} (hi : ops[i]? = some oi) (hsel : ∀ (j : Nat) (o : Oper) cs b, ops[j]? = some o → o.op ≠ .select cs b)
    (hdst : ∀ (j : Nat) (o : Oper), ops[j]? = some o → ∃ d, o.dst = Option.some d) :
    ∀ (fuel : Nat) (listed : Array Bool) (a : Act) (F : Facts) (R : Value → World → Prop),
      (∀ j oj, ops[j]? = some oj → j ≠ i → listed.getD j true = false → (∀ e ∈ oj.after, Region.binds md e = true → e.on ≠ i) → oi.apart ops oj = true) →
      i ∈ Region.ready md ops listed → KY P ops S w0 oi a F R → (∀ t, UpW (F t)) → (∃ w, Ext w0 w ∧ ∀ t, F t w) →
      (∀ v, (∃ w, Ext w0 w ∧ (∀ t, F t w) ∧ R v w) → anyK P md ops S w0 Q fuel (listed.setIfInBounds i true) (a.put oi.dst v) (F.add oi.dst (R v))) →
      anyK P md ops S w0 Q (fuel + 1) listed a F := by
  intro fuel
  induction fuel with
  | zero =>
    intro listed a F R _ hr hy hup ⟨w, hw, hf⟩ H
    refine ⟨fun h => (by rw [h] at hr; cases hr), fun j hj => ?_⟩
    by_cases hji : j = i
    · subst hji; unfold kOp; simp only [hi]; exact ⟨R, hy, H⟩
    · obtain ⟨v, w', h1, h2, h3⟩ := hy.some hup hw hf
      have := ready_mono hj hji
      rw [(H v ⟨w', h1, h2, h3⟩).1] at this
      cases this
  | succ fuel ih =>
    intro listed a F R hfree hr hy hup ⟨w, hw, hf⟩ H
    refine ⟨fun h => (by rw [h] at hr; cases hr), fun j hj => ?_⟩
    by_cases hji : j = i
    · subst hji; unfold kOp; simp only [hi]; exact ⟨R, hy, H⟩
    · obtain ⟨hjun, oj, hoj, hall⟩ := mem_ready.1 hj
      have hnot : ∀ e ∈ oj.after, Region.binds md e = true → e.on ≠ i := fun e he hb heq => by
        have h1 := hall e he hb
        have h0 := (mem_ready.1 hr).1
        rw [heq] at h1
        rcases Nat.lt_or_ge i listed.size with h' | h'
        · simp [h'] at h0 h1; rw [h0] at h1; cases h1
        · simp [Array.getElem?_eq_none h'] at h1
      have hap := hfree j oj hoj hji hjun hnot
      obtain ⟨p1, p2, p3⟩ := Oper.apart_spec hap
      have hsi : ∀ cs b, oi.op ≠ .select cs b := fun cs b => hsel i oi cs b hi
      have hsj : ∀ cs b, oj.op ≠ .select cs b := fun cs b => hsel j oj cs b hoj
      -- what each value of 'oi' says of 'oj'
      have H1 : ∀ v : { v // ∃ w, Ext w0 w ∧ (∀ t, F t w) ∧ R v w }, kStep P ops S w0 oj (a.put oi.dst v.1) (F.add oi.dst (R v.1)) (anyK P md ops S w0 Q fuel ((listed.setIfInBounds i true).setIfInBounds j true)) := fun v => by
        have h1 := (H v.1 v.2).2 j (ready_mono hj hji)
        unfold kOp at h1
        simpa only [hoj] using h1
      obtain ⟨v0, w', e1, e2, e3⟩ := hy.some hup hw hf
      let i0 : { v // ∃ w, Ext w0 w ∧ (∀ t, F t w) ∧ R v w } := ⟨v0, w', e1, e2, e3⟩
      let Rj : { v // ∃ w, Ext w0 w ∧ (∀ t, F t w) ∧ R v w } → Value → World → Prop := fun v => Classical.choose (H1 v)
      have HRj : ∀ v, KY P ops S w0 oj (a.put oi.dst v.1) (F.add oi.dst (R v.1)) (Rj v) ∧ ∀ u, (∃ w, Ext w0 w ∧ (∀ t, (F.add oi.dst (R v.1)) t w) ∧ Rj v u w) →
          anyK P md ops S w0 Q fuel ((listed.setIfInBounds i true).setIfInBounds j true) ((a.put oi.dst v.1).put oj.dst u) ((F.add oi.dst (R v.1)).add oj.dst (Rj v u)) := fun v => Classical.choose_spec (H1 v)
      have hyj : ∀ v, KY P ops S w0 oj a F (Rj v) := fun v => (HRj v).1.of_same (fun w t ht hft => ⟨hft, fun e => absurd ht (p1 t e)⟩) (execOp_put oj hsj a oi.dst v.1 p1).symm (wanted_put oj a oi.dst v.1 p1).symm
      unfold kOp
      simp only [hoj]
      refine ⟨fun u w => ∀ v, Rj v u w, ⟨fun u w1 w2 h12 hh v => (hyj v).1 u w1 w2 h12 (hh v), ?_⟩, fun u hu => ?_⟩
      · by_cases hwant : Region.wanted oj (yielded ops a.tmps) = true
        · refine .inl ⟨hwant, fun w1 hx hf1 => kUpon_all i0 fun v => ?_⟩
          rcases (hyj v).2 with ⟨_, h2⟩ | ⟨h2, _⟩
          · exact h2 w1 hx hf1
          · rw [hwant] at h2; cases h2
        · have hwf : Region.wanted oj (yielded ops a.tmps) = false := by simpa using hwant
          refine .inr ⟨hwf, ?_⟩
          funext u w1
          have : ∀ v, Rj v = fun v _ => v = undef := fun v => by
            rcases (hyj v).2 with ⟨h2, _⟩ | ⟨_, h2⟩
            · rw [hwf] at h2; cases h2
            · exact h2
          simp only [this, eq_iff_iff]
          exact ⟨fun h => h i0, fun h _ => h⟩
      · obtain ⟨w1, f1, f2, f3⟩ := hu
        have hfree' : ∀ k ok, ops[k]? = some ok → k ≠ i → (listed.setIfInBounds j true).getD k true = false →
            (∀ e ∈ ok.after, Region.binds md e = true → e.on ≠ i) → oi.apart ops ok = true := fun k ok hk hki hun hno => by
          refine hfree k ok hk hki ?_ hno
          by_cases hjk : j = k
          · subst hjk; exact hjun
          · rw [getD_set_ne true hjk] at hun; exact hun
        refine ih (listed.setIfInBounds j true) (a.put oj.dst u) (F.add oj.dst fun w => ∀ v, Rj v u w) R hfree' (ready_mono hr (Ne.symm hji)) ?_ ?_ ⟨w1, f1, fun t => ⟨f2 t, fun _ => f3⟩⟩ ?_
        · exact hy.of_same (fun w t ht hft => hft.1) (execOp_put oi hsi a oj.dst u p3) (wanted_put oi a oj.dst u p3)
        · exact fun t w2 w3 h23 hh => ⟨hup t w2 w3 h23 hh.1, fun e v => (hyj v).1 u w2 w3 h23 (hh.2 e v)⟩
        · intro v ⟨w2, g1, g2, g3⟩
          have hv : ∃ w, Ext w0 w ∧ (∀ t, F t w) ∧ R v w := ⟨w2, g1, fun t => (g2 t).1, g3⟩
          obtain ⟨d, hd⟩ := hdst j oj hoj
          have h3 := (HRj ⟨v, hv⟩).2 u ⟨w2, g1, fun t => ⟨(g2 t).1, fun _ => g3⟩, (g2 d).2 hd ⟨v, hv⟩⟩
          rw [Array.setIfInBounds_comm _ _ (Ne.symm hji), Act.put_comm a v u p2] at h3
          refine anyK_anti hQ _ _ _ _ _ ?_ h3
          intro t w3 hh
          exact ⟨⟨hh.1.1, hh.2⟩, fun e => hh.1.2 e ⟨v, hv⟩⟩

theorem anyK_lex (hQ : ∀ a F F', (∀ t w, F' t w → F t w) → Q a F → Q a F') (hs : Region.noSelect ops = true) (hdst : ∀ (j : Nat) (o : Oper), ops[j]? = some o → ∃ d, o.dst = Option.some d) :
    ∀ (l : List Oper) (k : Nat) (listed : Array Bool) (a : Act) (F : Facts), (∀ j, l[j]? = ops[k + j]?) → Region.lexFrom md ops l.length k listed = true → (∀ t, UpW (F t)) → (∃ w, Ext w0 w ∧ ∀ t, F t w) →
      lexK P ops S w0 Q l a F → anyK P md ops S w0 Q l.length listed a F
  | [], _, _, _, _, _, hB, _, _, h => ⟨by simpa [Region.lexFrom] using hB, h⟩
  | o :: l, k, listed, a, F, hl, hB, hup, hcon, h => by
    have h0 : ops[k]? = Option.some o := by simpa using (hl 0).symm
    simp only [List.length_cons, Region.lexFrom, Bool.and_eq_true] at hB
    obtain ⟨⟨hr, hf⟩, hB'⟩ := hB
    obtain ⟨R, hy, hn⟩ := h
    refine anyK_first hQ h0 (Region.noSelect_spec hs) hdst l.length listed a F R (Region.free_spec h0 hf) (by simpa using hr) hy hup hcon fun v ⟨w, g1, g2, g3⟩ => ?_
    refine anyK_lex hQ hs hdst l (k + 1) _ _ _ (fun j => by have := hl (j + 1); simpa [Nat.add_assoc, Nat.add_comm 1 j] using this) hB' ?_ ⟨w, g1, fun t => ⟨g2 t, fun _ => g3⟩⟩ (hn v ⟨w, g1, g2, g3⟩)
    exact fun t w2 w3 h23 hh => ⟨hup t w2 w3 h23 hh.1, fun e => hy.1 v w2 w3 h23 (hh.2 e)⟩

/-- What stands behind a region. -/
def endK (Q' : Exit → Act → World → Prop) (w : World) (a' : Act) (F : Facts) : Prop := ∀ w', Ext w w' → (∀ t, F t w') → Q' .normal a' w'

/-- ONE WALK IN THE ORDER OF THE TEXT: what stands behind is asked in every later world in which the facts hold. -/
theorem wp_region_k (S : FuncId → Array Value → Value → World → Prop) {id : Nat} {Q' : Exit → Act → World → Prop} {a : Act} {w : World} {l : List Oper} (hm : P.follows .mixedOrders = true)
    (hB : Region.lexB .any l.toArray = true) (hd : l.all (fun o => o.dst.isSome) = true)
    (h : lexK P l.toArray S w (endK Q' w) l a (fun _ _ => True)) : (Code.region id l.toArray true).wp P Q' a w := by
  simp only [Region.lexB, Bool.and_eq_true] at hB
  refine wp_region_any hm (wpAny_of_anyK (w0 := w) (Q := fun a' F => ∀ w', Ext w w' → (∀ t, F t w') → Q' .normal a' w') (S := S) (fun a F w' he hf hq => hq w' he hf) _ _ _ (fun _ _ => True) _ (Ext.drawn w) (fun _ _ _ _ _ => trivial) (fun _ => trivial) ?_)
  have hdst : ∀ (j : Nat) (o : Oper), l.toArray[j]? = Option.some o → ∃ d, o.dst = Option.some d := fun j o ho => by
    have := List.all_eq_true.1 hd o (by simpa using Array.mem_of_getElem? ho)
    exact Option.isSome_iff_exists.1 this
  have := anyK_lex (P := P) (S := S) (w0 := w) (md := .any) (Q := fun a' F => ∀ w', Ext w w' → (∀ t, F t w') → Q' .normal a' w') (fun a F F' hx hq w' he hf => hq w' he fun t => hx t w' (hf t)) hB.1 hdst l 0 (Array.replicate l.toArray.size false) a (fun _ _ => True)
    (by simp) (by simpa using hB.2) (fun _ _ _ _ _ => trivial) ⟨w, Ext.refl _, fun _ => trivial⟩ h
  simpa using this

theorem lexK_anti (hQ : ∀ a F F', (∀ t w, F' t w → F t w) → Q a F → Q a F') : ∀ (l : List Oper) (a : Act) (F F' : Facts), (∀ t w, F' t w → F t w) → lexK P ops S w0 Q l a F → lexK P ops S w0 Q l a F'
  | [], _, _, _, h, hh => hQ _ _ _ h hh
  | _ :: l, _, _, _, h, hh => kStep_anti (fun a F F' h => lexK_anti hQ l a F F' h) h hh

theorem endK_anti {Q' : Exit → Act → World → Prop} (a : Act) (F F' : Facts) (h : ∀ t w, F' t w → F t w) (hh : endK Q' w0 a F) : endK Q' w0 a F' :=
  fun w' he hf => hh w' he fun t => h t w' (hf t)

/-- A world later than w0. -/
structure Later (w0 : World) where
  val : World
  ext : Ext w0 val

/-- One of the operations that only read or reckon. -/
def plainOp (o : Oper) : Bool :=
  match o.op with
  | .move _ | .assign _ | .pick .. | .load .. | .binOp .. | .unOp .. | .convert .. | .slice .. | .fieldAddr .. | .field .. | .indexAddr .. | .index .. | .extract .. | .lookup .. | .nilCheck .. => true
  | .call c => (match c.callee with | .builtin .len => true | .builtin .cap => true | .builtin .min => true | .builtin .max => true | _ => false)
  | _ => false

variable {Q' : Exit → Act → World → Prop}

/-- One operation whose value is known. -/
theorem lexK_val {o : Oper} {rest : List Oper} {a : Act} {F : Facts} (u : Value) (hw : Region.wanted o (yielded ops a.tmps) = true)
    (hrun : ∀ w, Ext w0 w → (∀ t ∈ o.looksAt ops, F t w) → (execOp a.eval o).run P w = .ok (.value u) w)
    (hn : lexK P ops S w0 (endK Q' w0) rest (a.put o.dst u) F) : lexK P ops S w0 (endK Q' w0) (o :: rest) a F := by
  refine ⟨fun v _ => v = u, ⟨fun _ _ _ _ h => h, .inl ⟨hw, fun w he hf => by rw [hrun w he hf]; exact ⟨Ext.refl _, rfl⟩⟩⟩, ?_⟩
  rintro v ⟨_, _, _, rfl⟩
  exact lexK_anti endK_anti _ _ _ _ (fun _ _ h => h.1) hn

theorem lexK_skip {o : Oper} {rest : List Oper} {a : Act} {F : Facts} (hw : Region.wanted o (yielded ops a.tmps) = false)
    (hn : lexK P ops S w0 (endK Q' w0) rest (a.put o.dst undef) F) : lexK P ops S w0 (endK Q' w0) (o :: rest) a F := by
  refine ⟨fun v _ => v = undef, ⟨fun _ _ _ _ h => h, .inr ⟨hw, rfl⟩⟩, ?_⟩
  rintro v ⟨_, _, _, rfl⟩
  exact lexK_anti endK_anti _ _ _ _ (fun _ _ h => h.1) hn

/-- One operation that leaves something of which R holds. -/
theorem lexK_some {o : Oper} {rest : List Oper} {a : Act} {F : Facts} (R : Value → World → Prop) (hR : ∀ v, UpW (R v)) (hw : Region.wanted o (yielded ops a.tmps) = true)
    (hrun : ∀ w, Ext w0 w → (∀ t ∈ o.looksAt ops, F t w) → ∃ u w', (execOp a.eval o).run P w = .ok (.value u) w' ∧ Ext w w' ∧ R u w')
    (hn : ∀ v w, Ext w0 w → (∀ t, F t w) → R v w → lexK P ops S w0 (endK Q' w0) rest (a.put o.dst v) (F.add o.dst (R v))) : lexK P ops S w0 (endK Q' w0) (o :: rest) a F := by
  refine ⟨R, ⟨hR, .inl ⟨hw, fun w he hf => ?_⟩⟩, fun v ⟨w, h1, h2, h3⟩ => hn v w h1 h2 h3⟩
  obtain ⟨u, w', h1, h2, h3⟩ := hrun w he hf
  rw [h1]
  exact ⟨h2, h3⟩

/-- A call of a Go function. -/
theorem lexK_call {o : Oper} {rest : List Oper} {a : Act} {F : Facts} (f : FuncId) (args : Array Value) (hS : ∀ v, UpW (S f args v)) (hw : Region.wanted o (yielded ops a.tmps) = true)
    (hrun : ∀ w, (execOp a.eval o).run P w = .ok (.enter f args) w)
    (hc : ∀ w, Ext w0 w → (∀ t ∈ o.looksAt ops, F t w) → Calls P f args w fun e w'' => ∃ v, e = .returned v ∧ Ext w w'' ∧ S f args v w'')
    (hn : ∀ v w, Ext w0 w → (∀ t, F t w) → S f args v w → lexK P ops S w0 (endK Q' w0) rest (a.put o.dst v) (F.add o.dst (S f args v))) : lexK P ops S w0 (endK Q' w0) (o :: rest) a F := by
  refine ⟨S f args, ⟨hS, .inl ⟨hw, fun w he hf => ?_⟩⟩, fun v ⟨w, h1, h2, h3⟩ => hn v w h1 h2 h3⟩
  rw [hrun w]
  exact ⟨Ext.refl _, hc w he hf, fun _ _ h => h⟩

/-- A call of a Go function that hands back one known value. -/
theorem lexK_call1 {o : Oper} {rest : List Oper} {a : Act} {F : Facts} (f : FuncId) (args : Array Value) (u : Value) (hS : ∀ v w, S f args v w ↔ v = u) (hw : Region.wanted o (yielded ops a.tmps) = true)
    (hrun : ∀ w, (execOp a.eval o).run P w = .ok (.enter f args) w)
    (hc : ∀ w, Ext w0 w → (∀ t ∈ o.looksAt ops, F t w) → Calls P f args w fun e w'' => e = .returned u ∧ Ext w w'')
    (hn : lexK P ops S w0 (endK Q' w0) rest (a.put o.dst u) F) : lexK P ops S w0 (endK Q' w0) (o :: rest) a F := by
  refine lexK_call f args (fun v w w' _ h => (hS v w').2 ((hS v w).1 h)) hw hrun (fun w he hf => (hc w he hf).mono fun e w'' ⟨h1, h2⟩ => ⟨u, h1, h2, (hS u w'').2 rfl⟩) ?_
  intro v w _ _ h
  rw [(hS v w).1 h]
  exact lexK_anti endK_anti _ _ _ _ (fun _ _ h => h.1) hn

theorem bind_value_ne {s : Sem Value} {w w' : World} {f : FuncId} {args : Array Value} : (do pure (Next.value (← s)) : Sem Next).run P w ≠ .ok (.enter f args) w' := by
  simp only [Sem.run_bind]
  cases s.run P w with
  | ok a w1 => simp [Result.andThen]
  | halt x w1 => simp [Result.andThen]

theorem andThen_ne {α β : Type} {r : Result α} {g : α → World → Result β} {b : β} {w' : World} (h : ∀ a w1, g a w1 ≠ .ok b w') : r.andThen g ≠ .ok b w' := by
  cases r with
  | ok a w1 => exact h a w1
  | halt x w1 => simp [Result.andThen]

theorem run_value_of_plain {o : Oper} {ρ : Operand → Value} {w w' : World} {f : FuncId} {args : Array Value} (h : plainOp o = true) : (execOp ρ o).run P w ≠ .ok (.enter f args) w' := by
  unfold plainOp at h
  unfold execOp
  cases ho : o.op <;> simp only [ho] at h <;> simp only [] <;> first | exact bind_value_ne | (simp; done) | skip
  case call c =>
    cases hc : c.callee <;> simp only [hc] at h
    case builtin b =>
      simp only [resolve, hc, invoke]
      cases b <;> simp at h <;> simp only [builtin] <;> exact bind_value_ne
    all_goals simp at h
  case pick c a b =>
    simp only [Sem.run_bind]
    cases (asBool (ρ c)).run P w with
    | ok a w1 => simp [Result.andThen]
    | halt x w1 => simp [Result.andThen]
  case nilCheck x =>
    have hp : (runtimePanic (α := Next) .nilDeref).run P w ≠ .ok (.enter f args) w' := by simp [runtimePanic, goPanic]
    split
    · exact hp
    · exact hp
    · exact hp
    · split
      · exact hp
      · simp only [Sem.run_bind]
        refine andThen_ne fun a1 w1 => andThen_ne fun a2 w2 => ?_
        split
        · simp [unsupported]
        · simp
      · simp
    · simp
  all_goals simp at h

/-- So many operations that only read: the kit's quiet walk, over all later worlds. -/
theorem lexK_quiet {F : Facts} : ∀ (l rest : List Oper) (a : Act), l.all plainOp = true →
    wpQuiet P ops (fun w' => ∃ l : Later w0, w' = l.val) (fun a' => lexK P ops S w0 (endK Q' w0) rest a' F) l a → lexK P ops S w0 (endK Q' w0) (l ++ rest) a F
  | [], _, _, _, h => h
  | o :: l, rest, a, hp, h => by
    simp only [List.all_cons, Bool.and_eq_true] at hp
    unfold wpQuiet at h
    split at h
    · rename_i hw
      obtain ⟨u, h1, h2⟩ := h
      refine ⟨fun v _ => v = u, ⟨fun _ _ _ _ h => h, .inl ⟨hw, fun w he hf => ?_⟩⟩, fun v ⟨_, _, _, hv⟩ => by subst hv; exact lexK_anti endK_anti _ _ _ _ (fun _ _ h => h.1) (lexK_quiet l rest _ hp.2 h2)⟩
      have h3 := h1 w ⟨⟨w, he⟩, rfl⟩
      unfold Oper.quietAt at h3
      have hne := fun f args w' => run_value_of_plain (P := P) (o := o) (ρ := a.eval) (w := w) (w' := w') (f := f) (args := args) hp.1
      generalize (execOp a.eval o).run P w = r at *
      cases r with
      | halt x w' => simp only [Oper.quietUpon] at h3
      | ok n w' =>
        cases n <;> simp only [Oper.quietUpon] at h3
        case value v => obtain ⟨rfl, rfl⟩ := h3; exact ⟨Ext.refl _, rfl⟩
        case skip => obtain ⟨rfl, rfl⟩ := h3; exact ⟨Ext.refl _, rfl⟩
        case enter f args => exact absurd rfl (hne f args w')
    · rename_i hw
      exact lexK_skip (by simpa using hw) (lexK_quiet l rest _ hp.2 h)

theorem lexK_take (n : Nat) {F : Facts} {l : List Oper} {a : Act} (hp : (l.take n).all plainOp = true)
    (h : wpQuiet P ops (fun w' => ∃ l : Later w0, w' = l.val) (fun a' => lexK P ops S w0 (endK Q' w0) (l.drop n) a' F) (l.take n) a) : lexK P ops S w0 (endK Q' w0) l a F := by
  have := lexK_quiet (l.take n) (l.drop n) a hp h
  rwa [List.take_append_drop] at this

theorem lexK_nil {F : Facts} {a : Act} (h : ∀ w', Ext w0 w' → (∀ t, F t w') → Q' .normal a w') : lexK P ops S w0 (endK Q' w0) [] a F := h

end

theorem later_some (w : World) : Nonempty (Later w) := ⟨⟨w, Ext.refl _⟩⟩
theorem later_cell {w : World} {a : Addr} {v : Value} (h : w.cell? a = some v) : ∀ l : Later w, l.val.cell? a = some v :=
  fun l => (Below.cell l.ext (World.block_lt_of_cell? _ _ h)).trans h
end Go.Proofs.Ytmojnliljaefbaa
