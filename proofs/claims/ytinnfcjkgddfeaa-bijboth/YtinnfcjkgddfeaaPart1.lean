/- Texts laid together: Krip, Lib, LexMath, RepMath, LynMath, But, Byt, Ints, LynFac, FacMath, CsMath, PerMath, OmMath, RkMath, OmInMath, TurnMath, FacCut, Args, Slss. -/
import Derived.Deep.Quiet
import Derived.WalkKit
import Derived.ProofKit
import Derived.WalkLawsBesides
import Derived.WalkSpells
import Derived.Laws.BytesArg
import Derived.OpenShut
import Derived.Laws.AppendOwnNone
import Derived.Laws.BitsAllLaws
import Derived.BigQuiet
import Derived.Deep.QuietTactic
import Derived.Lib.Bytealg
import Derived.Lib.BytesEntry
import Derived.Laws.Pointers
import Derived.Test.YtinnfcjkgddfeaaRows
import Derived.Laws.OwnMore
import Derived.Deep.Matrix
import Derived.SizedLaws
/- A region that draws its order, whose operations leave all old memory as it was and may make new memory: one walk in the order of the text serves every order. Over any program; no conditions. -/
namespace Go.Proofs.Ytinnfcjkgddfeaa
set_option linter.unusedVariables false
set_option linter.unusedSimpArgs false
open Go.RowKit

/-- All that there was is as it was; there may be more. -/
def Ext (w w' : World) : Prop := Below w.heap.size w w'
theorem Ext.refl (w : World) : Ext w w := Below.refl _ _
theorem Ext.trans {a b c : World} (h : Ext a b) (k : Ext b c) : Ext a c := Below.trans h (Below.mono k h.size)
theorem Ext.drawn (w : World) : Ext w { w with drawn := w.drawn + 1 } := ⟨rfl, rfl, rfl, Nat.le_refl _, fun _ _ => rfl⟩

/-- What is known of a slot's value, in a world. -/
abbrev Facts := Tmp → World → Prop
def Facts.add (F : Facts) (d : Option Tmp) (G : World → Prop) : Facts := fun t w => F t w ∧ (d = some t → G w)
def UpW (G : World → Prop) : Prop := ∀ w w', Ext w w' → G w → G w'

section
variable {P : Program} {ops : Array Oper} {md : Region.Mode} {S : FuncId → Array Value → Value → World → Prop} {w0 : World} {Q : Act → Facts → Prop}

def kUpon (P : Program) (S : FuncId → Array Value → Value → World → Prop) (w : World) (R : Value → World → Prop) : Result Next → Prop
  | .ok (.value u) w' => Ext w w' ∧ R u w'
  | .ok .skip w' => Ext w w' ∧ R undef w'
  | .ok (.enter f args) w' => Ext w w' ∧ Calls P f args w' (fun e w'' => ∃ v, e = .returned v ∧ Ext w' w'' ∧ S f args v w'') ∧ (∀ v w'', S f args v w'' → R v w'')
  | _ => False

/-- From w0 on, whatever else has come: the operation yields a value of which R holds. -/
def KY (P : Program) (ops : Array Oper) (S : FuncId → Array Value → Value → World → Prop) (w0 : World) (o : Oper) (a : Act) (F : Facts) (R : Value → World → Prop) : Prop :=
  (∀ v, UpW (R v)) ∧
  ((Region.wanted o (yielded ops a.tmps) = true ∧ ∀ w, Ext w0 w → (∀ t ∈ o.looksAt ops, F t w) → kUpon P S w R ((execOp a.eval o).run P w)) ∨
   (Region.wanted o (yielded ops a.tmps) = false ∧ R = fun v _ => v = undef))

def kStep (P : Program) (ops : Array Oper) (S : FuncId → Array Value → Value → World → Prop) (w0 : World) (o : Oper) (a : Act) (F : Facts) (K : Act → Facts → Prop) : Prop :=
  ∃ R, KY P ops S w0 o a F R ∧ ∀ v, (∃ w, Ext w0 w ∧ (∀ t, F t w) ∧ R v w) → K (a.put o.dst v) (F.add o.dst (R v))

def lexK (P : Program) (ops : Array Oper) (S : FuncId → Array Value → Value → World → Prop) (w0 : World) (Q : Act → Facts → Prop) : List Oper → Act → Facts → Prop
  | [], a, F => Q a F
  | o :: rest, a, F => kStep P ops S w0 o a F (lexK P ops S w0 Q rest)

def kOp (P : Program) (ops : Array Oper) (S : FuncId → Array Value → Value → World → Prop) (w0 : World) (i : Nat) (K : Act → Facts → Prop) (a : Act) (F : Facts) : Prop :=
  match ops[i]? with
  | none => K a F
  | some o => kStep P ops S w0 o a F K

def anyK (P : Program) (md : Region.Mode) (ops : Array Oper) (S : FuncId → Array Value → Value → World → Prop) (w0 : World) (Q : Act → Facts → Prop) : Nat → Array Bool → Act → Facts → Prop
  | 0, listed, a, F => Region.ready md ops listed = [] ∧ Q a F
  | fuel + 1, listed, a, F =>
    (Region.ready md ops listed = [] → Q a F) ∧
    ∀ i ∈ Region.ready md ops listed, kOp P ops S w0 i (anyK P md ops S w0 Q fuel (listed.setIfInBounds i true)) a F

theorem Facts.add_anti {F F' : Facts} (h : ∀ t w, F' t w → F t w) {G G' : World → Prop} (hG : ∀ w, G' w → G w) (d : Option Tmp) : ∀ t w, F'.add d G' t w → F.add d G t w :=
  fun t w hh => ⟨h t w hh.1, fun e => hG w (hh.2 e)⟩

theorem KY.anti {o : Oper} {a : Act} {F F' : Facts} (h : ∀ t w, F' t w → F t w) {R : Value → World → Prop} (hy : KY P ops S w0 o a F R) : KY P ops S w0 o a F' R := by
  refine ⟨hy.1, ?_⟩
  rcases hy.2 with ⟨hw, hk⟩ | hn
  · exact .inl ⟨hw, fun w he hf => hk w he fun t ht => h t w (hf t ht)⟩
  · exact .inr hn

theorem kStep_anti {o : Oper} {a : Act} {F F' : Facts} {K K' : Act → Facts → Prop} (hK : ∀ a F F', (∀ t w, F' t w → F t w) → K a F → K' a F') (h : ∀ t w, F' t w → F t w)
    (hh : kStep P ops S w0 o a F K) : kStep P ops S w0 o a F' K' := by
  obtain ⟨R, hy, hn⟩ := hh
  exact ⟨R, hy.anti h, fun v ⟨w, he, hf, hr⟩ => hK _ _ _ (Facts.add_anti h (fun _ x => x) _) (hn v ⟨w, he, fun t => h t w (hf t), hr⟩)⟩

theorem kOp_anti {i : Nat} {a : Act} {F F' : Facts} {K K' : Act → Facts → Prop} (hK : ∀ a F F', (∀ t w, F' t w → F t w) → K a F → K' a F') (h : ∀ t w, F' t w → F t w)
    (hh : kOp P ops S w0 i K a F) : kOp P ops S w0 i K' a F' := by
  unfold kOp at *
  cases ho : ops[i]? with
  | none => simp only [ho] at hh ⊢; exact hK _ _ _ h hh
  | some o => simp only [ho] at hh ⊢; exact kStep_anti hK h hh

theorem anyK_anti (hQ : ∀ a F F', (∀ t w, F' t w → F t w) → Q a F → Q a F') : ∀ (fuel : Nat) (listed : Array Bool) (a : Act) (F F' : Facts), (∀ t w, F' t w → F t w) →
    anyK P md ops S w0 Q fuel listed a F → anyK P md ops S w0 Q fuel listed a F'
  | 0, _, _, _, _, h, hh => ⟨hh.1, hQ _ _ _ h hh.2⟩
  | fuel + 1, _, _, _, _, h, hh => ⟨fun e => hQ _ _ _ h (hh.1 e), fun i hi => kOp_anti (fun a F F' h => anyK_anti hQ fuel _ a F F' h) h (hh.2 i hi)⟩

theorem wpAny_of_anyK {Q' : Exit → Act → World → Prop} (hQ : ∀ a F w, Ext w0 w → (∀ t, F t w) → Q a F → Q' .normal a w) : ∀ (fuel : Nat) (listed : Array Bool) (a : Act) (F : Facts) (w : World),
    Ext w0 w → (∀ t, UpW (F t)) → (∀ t, F t w) → anyK P md ops S w0 Q fuel listed a F → wpAny P md ops Q' fuel listed a w
  | 0, _, _, _, _, he, _, hf, h => ⟨h.1, hQ _ _ _ he hf h.2⟩
  | fuel + 1, listed, a, F, w, he, hup, hf, h => by
    refine ⟨fun e => hQ _ _ _ he hf (h.1 e), fun i hi => ?_⟩
    have h1 := h.2 i hi
    unfold kOp at h1
    unfold wpOp
    cases ho : ops[i]? with
    | none => simp only [ho] at h1 ⊢; exact wpAny_of_anyK hQ fuel _ _ _ _ he hup hf h1
    | some o =>
      simp only [ho] at h1 ⊢
      obtain ⟨R, ⟨hR, hy⟩, hn⟩ := h1
      have go : ∀ v w', Ext w w' → R v w' → wpAny P md ops Q' fuel (listed.setIfInBounds i true) (a.put o.dst v) w' := fun v w' hx hr =>
        wpAny_of_anyK hQ fuel _ _ _ _ (he.trans hx) (fun t w1 w2 h12 hh => ⟨hup t w1 w2 h12 hh.1, fun e => hR v w1 w2 h12 (hh.2 e)⟩) (fun t => ⟨hup t w w' hx (hf t), fun _ => hr⟩)
          (hn v ⟨w', he.trans hx, fun t => hup t w w' hx (hf t), hr⟩)
      rcases hy with ⟨hw, hk⟩ | ⟨hw, rfl⟩
      · rw [if_pos hw]
        refine .inl ?_
        have h2 := hk w he fun t _ => hf t
        unfold Oper.wp
        generalize (execOp a.eval o).run P w = r at *
        cases r with
        | ok n w' =>
          cases n <;> simp only [kUpon] at h2 <;> simp only [Oper.upon]
          case value u => exact go _ _ h2.1 h2.2
          case skip => exact go _ _ h2.1 h2.2
          case enter f args =>
            obtain ⟨h3, h4, h5⟩ := h2
            exact h4.mono fun e w'' ⟨v, hv, h6, h7⟩ => by subst hv; exact go _ _ (h3.trans h6) (h5 _ _ h7)
        | halt x w' => simp only [kUpon] at h2
      · rw [if_neg (by rw [hw]; exact Bool.false_ne_true)]
        exact go _ _ (Ext.refl _) rfl

theorem kUpon_all {ι : Type} (i0 : ι) {w : World} {R : ι → Value → World → Prop} {r : Result Next} (h : ∀ i, kUpon P S w (R i) r) : kUpon P S w (fun v w' => ∀ i, R i v w') r := by
  cases r with
  | halt x w' => exact (h i0).elim
  | ok n w' =>
    cases n with
    | value u => exact ⟨(h i0).1, fun i => (h i).2⟩
    | skip => exact ⟨(h i0).1, fun i => (h i).2⟩
    | enter f args => exact ⟨(h i0).1, (h i0).2.1, fun v w'' hs i => (h i).2.2 v w'' hs⟩
    | _ => exact (h i0).elim

theorem KY.of_same {o : Oper} {a a' : Act} {F F' : Facts} {R : Value → World → Prop} (hy : KY P ops S w0 o a F R) (hF : ∀ w, ∀ t ∈ o.looksAt ops, F' t w → F t w) (he : execOp a'.eval o = execOp a.eval o)
    (hw : Region.wanted o (yielded ops a'.tmps) = Region.wanted o (yielded ops a.tmps)) : KY P ops S w0 o a' F' R := by
  refine ⟨hy.1, ?_⟩
  rw [he, hw]
  rcases hy.2 with ⟨h1, h2⟩ | h1
  · exact .inl ⟨h1, fun w hx hf => h2 w hx fun t ht => hF w t ht (hf t ht)⟩
  · exact .inr h1

/-- In a world where all facts hold the operation yields some value. -/
theorem KY.some {o : Oper} {a : Act} {F : Facts} {R : Value → World → Prop} (hy : KY P ops S w0 o a F R) (hup : ∀ t, UpW (F t)) {w : World} (he : Ext w0 w) (hf : ∀ t, F t w) : ∃ v w', Ext w0 w' ∧ (∀ t, F t w') ∧ R v w' := by
  rcases hy.2 with ⟨_, h2⟩ | ⟨_, rfl⟩
  · have h3 := h2 w he fun t _ => hf t
    generalize (execOp a.eval o).run P w = r at *
    cases r with
    | halt x w' => exact h3.elim
    | ok n w' =>
      cases n with
      | value u => exact ⟨u, w', he.trans h3.1, fun t => hup t _ _ h3.1 (hf t), h3.2⟩
      | skip => exact ⟨undef, w', he.trans h3.1, fun t => hup t _ _ h3.1 (hf t), h3.2⟩
      | enter f args =>
        obtain ⟨h4, h5, h6⟩ := h3
        obtain ⟨e, w'', _, ⟨v, _, h7, h8⟩, _⟩ := h5 []
        exact ⟨v, w'', he.trans (h4.trans h7), fun t => hup t _ _ (h4.trans h7) (hf t), h6 _ _ h8⟩
      | _ => exact h3.elim
  · exact ⟨undef, w, he, hf, rfl⟩

theorem anyK_first (hQ : ∀ a F F', (∀ t w, F' t w → F t w) → Q a F → Q a F') {i : Nat} {oi : Oper} (hi : ops[i]? = some oi) (hsel : ∀ (j : Nat) (o : Oper) cs b, ops[j]? = some o → o.op ≠ .select cs b)
    (hdst : ∀ (j : Nat) (o : Oper), ops[j]? = some o → ∃ d, o.dst = Option.some d) :
    ∀ (fuel : Nat) (listed : Array Bool) (a : Act) (F : Facts) (R : Value → World → Prop),
      (∀ j oj, ops[j]? = some oj → j ≠ i → listed.getD j true = false → (∀ e ∈ oj.after, Region.binds md e = true → e.on ≠ i) → oi.apart ops oj = true) →
      i ∈ Region.ready md ops listed → KY P ops S w0 oi a F R → (∀ t, UpW (F t)) → (∃ w, Ext w0 w ∧ ∀ t, F t w) →
      (∀ v, (∃ w, Ext w0 w ∧ (∀ t, F t w) ∧ R v w) → anyK P md ops S w0 Q fuel (listed.setIfInBounds i true) (a.put oi.dst v) (F.add oi.dst (R v))) →
      anyK P md ops S w0 Q (fuel + 1) listed a F := by
  intro fuel
  induction fuel with
  | zero =>
    intro listed a F R _ hr hy hup ⟨w, hw, hf⟩ H
    refine ⟨fun h => (by rw [h] at hr; cases hr), fun j hj => ?_⟩
    by_cases hji : j = i
    · subst hji; unfold kOp; simp only [hi]; exact ⟨R, hy, H⟩
    · obtain ⟨v, w', h1, h2, h3⟩ := hy.some hup hw hf
      have := ready_mono hj hji
      rw [(H v ⟨w', h1, h2, h3⟩).1] at this
      cases this
  | succ fuel ih =>
    intro listed a F R hfree hr hy hup ⟨w, hw, hf⟩ H
    refine ⟨fun h => (by rw [h] at hr; cases hr), fun j hj => ?_⟩
    by_cases hji : j = i
    · subst hji; unfold kOp; simp only [hi]; exact ⟨R, hy, H⟩
    · obtain ⟨hjun, oj, hoj, hall⟩ := mem_ready.1 hj
      have hnot : ∀ e ∈ oj.after, Region.binds md e = true → e.on ≠ i := fun e he hb heq => by
        have h1 := hall e he hb
        have h0 := (mem_ready.1 hr).1
        rw [heq] at h1
        rcases Nat.lt_or_ge i listed.size with h' | h'
        · simp [h'] at h0 h1; rw [h0] at h1; cases h1
        · simp [Array.getElem?_eq_none h'] at h1
      have hap := hfree j oj hoj hji hjun hnot
      obtain ⟨p1, p2, p3⟩ := Oper.apart_spec hap
      have hsi : ∀ cs b, oi.op ≠ .select cs b := fun cs b => hsel i oi cs b hi
      have hsj : ∀ cs b, oj.op ≠ .select cs b := fun cs b => hsel j oj cs b hoj
      -- what each value of 'oi' says of 'oj'
      have H1 : ∀ v : { v // ∃ w, Ext w0 w ∧ (∀ t, F t w) ∧ R v w }, kStep P ops S w0 oj (a.put oi.dst v.1) (F.add oi.dst (R v.1)) (anyK P md ops S w0 Q fuel ((listed.setIfInBounds i true).setIfInBounds j true)) := fun v => by
        have h1 := (H v.1 v.2).2 j (ready_mono hj hji)
        unfold kOp at h1
        simpa only [hoj] using h1
      obtain ⟨v0, w', e1, e2, e3⟩ := hy.some hup hw hf
      let i0 : { v // ∃ w, Ext w0 w ∧ (∀ t, F t w) ∧ R v w } := ⟨v0, w', e1, e2, e3⟩
      let Rj : { v // ∃ w, Ext w0 w ∧ (∀ t, F t w) ∧ R v w } → Value → World → Prop := fun v => Classical.choose (H1 v)
      have HRj : ∀ v, KY P ops S w0 oj (a.put oi.dst v.1) (F.add oi.dst (R v.1)) (Rj v) ∧ ∀ u, (∃ w, Ext w0 w ∧ (∀ t, (F.add oi.dst (R v.1)) t w) ∧ Rj v u w) →
          anyK P md ops S w0 Q fuel ((listed.setIfInBounds i true).setIfInBounds j true) ((a.put oi.dst v.1).put oj.dst u) ((F.add oi.dst (R v.1)).add oj.dst (Rj v u)) := fun v => Classical.choose_spec (H1 v)
      have hyj : ∀ v, KY P ops S w0 oj a F (Rj v) := fun v => (HRj v).1.of_same (fun w t ht hft => ⟨hft, fun e => absurd ht (p1 t e)⟩) (execOp_put oj hsj a oi.dst v.1 p1).symm (wanted_put oj a oi.dst v.1 p1).symm
      unfold kOp
      simp only [hoj]
      refine ⟨fun u w => ∀ v, Rj v u w, ⟨fun u w1 w2 h12 hh v => (hyj v).1 u w1 w2 h12 (hh v), ?_⟩, fun u hu => ?_⟩
      · by_cases hwant : Region.wanted oj (yielded ops a.tmps) = true
        · refine .inl ⟨hwant, fun w1 hx hf1 => kUpon_all i0 fun v => ?_⟩
          rcases (hyj v).2 with ⟨_, h2⟩ | ⟨h2, _⟩
          · exact h2 w1 hx hf1
          · rw [hwant] at h2; cases h2
        · have hwf : Region.wanted oj (yielded ops a.tmps) = false := by simpa using hwant
          refine .inr ⟨hwf, ?_⟩
          funext u w1
          have : ∀ v, Rj v = fun v _ => v = undef := fun v => by
            rcases (hyj v).2 with ⟨h2, _⟩ | ⟨_, h2⟩
            · rw [hwf] at h2; cases h2
            · exact h2
          simp only [this, eq_iff_iff]
          exact ⟨fun h => h i0, fun h _ => h⟩
      · obtain ⟨w1, f1, f2, f3⟩ := hu
        have hfree' : ∀ k ok, ops[k]? = some ok → k ≠ i → (listed.setIfInBounds j true).getD k true = false →
            (∀ e ∈ ok.after, Region.binds md e = true → e.on ≠ i) → oi.apart ops ok = true := fun k ok hk hki hun hno => by
          refine hfree k ok hk hki ?_ hno
          by_cases hjk : j = k
          · subst hjk; exact hjun
          · rw [getD_set_ne true hjk] at hun; exact hun
        refine ih (listed.setIfInBounds j true) (a.put oj.dst u) (F.add oj.dst fun w => ∀ v, Rj v u w) R hfree' (ready_mono hr (Ne.symm hji)) ?_ ?_ ⟨w1, f1, fun t => ⟨f2 t, fun _ => f3⟩⟩ ?_
        · exact hy.of_same (fun w t ht hft => hft.1) (execOp_put oi hsi a oj.dst u p3) (wanted_put oi a oj.dst u p3)
        · exact fun t w2 w3 h23 hh => ⟨hup t w2 w3 h23 hh.1, fun e v => (hyj v).1 u w2 w3 h23 (hh.2 e v)⟩
        · intro v ⟨w2, g1, g2, g3⟩
          have hv : ∃ w, Ext w0 w ∧ (∀ t, F t w) ∧ R v w := ⟨w2, g1, fun t => (g2 t).1, g3⟩
          obtain ⟨d, hd⟩ := hdst j oj hoj
          have h3 := (HRj ⟨v, hv⟩).2 u ⟨w2, g1, fun t => ⟨(g2 t).1, fun _ => g3⟩, (g2 d).2 hd ⟨v, hv⟩⟩
          rw [Array.setIfInBounds_comm _ _ (Ne.symm hji), Act.put_comm a v u p2] at h3
          refine anyK_anti hQ _ _ _ _ _ ?_ h3
          intro t w3 hh
          exact ⟨⟨hh.1.1, hh.2⟩, fun e => hh.1.2 e ⟨v, hv⟩⟩

theorem anyK_lex (hQ : ∀ a F F', (∀ t w, F' t w → F t w) → Q a F → Q a F') (hs : Region.noSelect ops = true) (hdst : ∀ (j : Nat) (o : Oper), ops[j]? = some o → ∃ d, o.dst = Option.some d) :
    ∀ (l : List Oper) (k : Nat) (listed : Array Bool) (a : Act) (F : Facts), (∀ j, l[j]? = ops[k + j]?) → Region.lexFrom md ops l.length k listed = true → (∀ t, UpW (F t)) → (∃ w, Ext w0 w ∧ ∀ t, F t w) →
      lexK P ops S w0 Q l a F → anyK P md ops S w0 Q l.length listed a F
  | [], _, _, _, _, _, hB, _, _, h => ⟨by simpa [Region.lexFrom] using hB, h⟩
  | o :: l, k, listed, a, F, hl, hB, hup, hcon, h => by
    have h0 : ops[k]? = Option.some o := by simpa using (hl 0).symm
    simp only [List.length_cons, Region.lexFrom, Bool.and_eq_true] at hB
    obtain ⟨⟨hr, hf⟩, hB'⟩ := hB
    obtain ⟨R, hy, hn⟩ := h
    refine anyK_first hQ h0 (Region.noSelect_spec hs) hdst l.length listed a F R (Region.free_spec h0 hf) (by simpa using hr) hy hup hcon fun v ⟨w, g1, g2, g3⟩ => ?_
    refine anyK_lex hQ hs hdst l (k + 1) _ _ _ (fun j => by have := hl (j + 1); simpa [Nat.add_assoc, Nat.add_comm 1 j] using this) hB' ?_ ⟨w, g1, fun t => ⟨g2 t, fun _ => g3⟩⟩ (hn v ⟨w, g1, g2, g3⟩)
    exact fun t w2 w3 h23 hh => ⟨hup t w2 w3 h23 hh.1, fun e => hy.1 v w2 w3 h23 (hh.2 e)⟩

/-- What stands behind a region. -/
def endK (Q' : Exit → Act → World → Prop) (w : World) (a' : Act) (F : Facts) : Prop := ∀ w', Ext w w' → (∀ t, F t w') → Q' .normal a' w'

/-- ONE WALK IN THE ORDER OF THE TEXT: what stands behind is asked in every later world in which the facts hold. -/
theorem wp_region_k (S : FuncId → Array Value → Value → World → Prop) {id : Nat} {Q' : Exit → Act → World → Prop} {a : Act} {w : World} {l : List Oper} (hm : P.follows .mixedOrders = true)
    (hB : Region.lexB .any l.toArray = true) (hd : l.all (fun o => o.dst.isSome) = true)
    (h : lexK P l.toArray S w (endK Q' w) l a (fun _ _ => True)) : (Code.region id l.toArray true).wp P Q' a w := by
  simp only [Region.lexB, Bool.and_eq_true] at hB
  refine wp_region_any hm (wpAny_of_anyK (w0 := w) (Q := fun a' F => ∀ w', Ext w w' → (∀ t, F t w') → Q' .normal a' w') (S := S) (fun a F w' he hf hq => hq w' he hf) _ _ _ (fun _ _ => True) _ (Ext.drawn w) (fun _ _ _ _ _ => trivial) (fun _ => trivial) ?_)
  have hdst : ∀ (j : Nat) (o : Oper), l.toArray[j]? = Option.some o → ∃ d, o.dst = Option.some d := fun j o ho => by
    have := List.all_eq_true.1 hd o (by simpa using Array.mem_of_getElem? ho)
    exact Option.isSome_iff_exists.1 this
  have := anyK_lex (P := P) (S := S) (w0 := w) (md := .any) (Q := fun a' F => ∀ w', Ext w w' → (∀ t, F t w') → Q' .normal a' w') (fun a F F' hx hq w' he hf => hq w' he fun t => hx t w' (hf t)) hB.1 hdst l 0 (Array.replicate l.toArray.size false) a (fun _ _ => True)
    (by simp) (by simpa using hB.2) (fun _ _ _ _ _ => trivial) ⟨w, Ext.refl _, fun _ => trivial⟩ h
  simpa using this

theorem lexK_anti (hQ : ∀ a F F', (∀ t w, F' t w → F t w) → Q a F → Q a F') : ∀ (l : List Oper) (a : Act) (F F' : Facts), (∀ t w, F' t w → F t w) → lexK P ops S w0 Q l a F → lexK P ops S w0 Q l a F'
  | [], _, _, _, h, hh => hQ _ _ _ h hh
  | _ :: l, _, _, _, h, hh => kStep_anti (fun a F F' h => lexK_anti hQ l a F F' h) h hh

theorem endK_anti {Q' : Exit → Act → World → Prop} (a : Act) (F F' : Facts) (h : ∀ t w, F' t w → F t w) (hh : endK Q' w0 a F) : endK Q' w0 a F' :=
  fun w' he hf => hh w' he fun t => h t w' (hf t)

/-- A world later than w0. -/
structure Later (w0 : World) where
  val : World
  ext : Ext w0 val

/-- One of the operations that only read or reckon. -/
def plainOp (o : Oper) : Bool :=
  match o.op with
  | .move _ | .assign _ | .pick .. | .load .. | .binOp .. | .unOp .. | .convert .. | .slice .. | .fieldAddr .. | .field .. | .indexAddr .. | .index .. | .extract .. | .lookup .. | .nilCheck .. => true
  | .call c => (match c.callee with | .builtin .len => true | .builtin .cap => true | .builtin .min => true | .builtin .max => true | _ => false)
  | _ => false

variable {Q' : Exit → Act → World → Prop}

/-- One operation whose value is known. -/
theorem lexK_val {o : Oper} {rest : List Oper} {a : Act} {F : Facts} (u : Value) (hw : Region.wanted o (yielded ops a.tmps) = true)
    (hrun : ∀ w, Ext w0 w → (∀ t ∈ o.looksAt ops, F t w) → (execOp a.eval o).run P w = .ok (.value u) w)
    (hn : lexK P ops S w0 (endK Q' w0) rest (a.put o.dst u) F) : lexK P ops S w0 (endK Q' w0) (o :: rest) a F := by
  refine ⟨fun v _ => v = u, ⟨fun _ _ _ _ h => h, .inl ⟨hw, fun w he hf => by rw [hrun w he hf]; exact ⟨Ext.refl _, rfl⟩⟩⟩, ?_⟩
  rintro v ⟨_, _, _, rfl⟩
  exact lexK_anti endK_anti _ _ _ _ (fun _ _ h => h.1) hn

theorem lexK_skip {o : Oper} {rest : List Oper} {a : Act} {F : Facts} (hw : Region.wanted o (yielded ops a.tmps) = false)
    (hn : lexK P ops S w0 (endK Q' w0) rest (a.put o.dst undef) F) : lexK P ops S w0 (endK Q' w0) (o :: rest) a F := by
  refine ⟨fun v _ => v = undef, ⟨fun _ _ _ _ h => h, .inr ⟨hw, rfl⟩⟩, ?_⟩
  rintro v ⟨_, _, _, rfl⟩
  exact lexK_anti endK_anti _ _ _ _ (fun _ _ h => h.1) hn

/-- One operation that leaves something of which R holds. -/
theorem lexK_some {o : Oper} {rest : List Oper} {a : Act} {F : Facts} (R : Value → World → Prop) (hR : ∀ v, UpW (R v)) (hw : Region.wanted o (yielded ops a.tmps) = true)
    (hrun : ∀ w, Ext w0 w → (∀ t ∈ o.looksAt ops, F t w) → ∃ u w', (execOp a.eval o).run P w = .ok (.value u) w' ∧ Ext w w' ∧ R u w')
    (hn : ∀ v w, Ext w0 w → (∀ t, F t w) → R v w → lexK P ops S w0 (endK Q' w0) rest (a.put o.dst v) (F.add o.dst (R v))) : lexK P ops S w0 (endK Q' w0) (o :: rest) a F := by
  refine ⟨R, ⟨hR, .inl ⟨hw, fun w he hf => ?_⟩⟩, fun v ⟨w, h1, h2, h3⟩ => hn v w h1 h2 h3⟩
  obtain ⟨u, w', h1, h2, h3⟩ := hrun w he hf
  rw [h1]
  exact ⟨h2, h3⟩

/-- A call of a Go function. -/
theorem lexK_call {o : Oper} {rest : List Oper} {a : Act} {F : Facts} (f : FuncId) (args : Array Value) (hS : ∀ v, UpW (S f args v)) (hw : Region.wanted o (yielded ops a.tmps) = true)
    (hrun : ∀ w, (execOp a.eval o).run P w = .ok (.enter f args) w)
    (hc : ∀ w, Ext w0 w → (∀ t ∈ o.looksAt ops, F t w) → Calls P f args w fun e w'' => ∃ v, e = .returned v ∧ Ext w w'' ∧ S f args v w'')
    (hn : ∀ v w, Ext w0 w → (∀ t, F t w) → S f args v w → lexK P ops S w0 (endK Q' w0) rest (a.put o.dst v) (F.add o.dst (S f args v))) : lexK P ops S w0 (endK Q' w0) (o :: rest) a F := by
  refine ⟨S f args, ⟨hS, .inl ⟨hw, fun w he hf => ?_⟩⟩, fun v ⟨w, h1, h2, h3⟩ => hn v w h1 h2 h3⟩
  rw [hrun w]
  exact ⟨Ext.refl _, hc w he hf, fun _ _ h => h⟩

/-- A call of a Go function that hands back one known value. -/
theorem lexK_call1 {o : Oper} {rest : List Oper} {a : Act} {F : Facts} (f : FuncId) (args : Array Value) (u : Value) (hS : ∀ v w, S f args v w ↔ v = u) (hw : Region.wanted o (yielded ops a.tmps) = true)
    (hrun : ∀ w, (execOp a.eval o).run P w = .ok (.enter f args) w)
    (hc : ∀ w, Ext w0 w → (∀ t ∈ o.looksAt ops, F t w) → Calls P f args w fun e w'' => e = .returned u ∧ Ext w w'')
    (hn : lexK P ops S w0 (endK Q' w0) rest (a.put o.dst u) F) : lexK P ops S w0 (endK Q' w0) (o :: rest) a F := by
  refine lexK_call f args (fun v w w' _ h => (hS v w').2 ((hS v w).1 h)) hw hrun (fun w he hf => (hc w he hf).mono fun e w'' ⟨h1, h2⟩ => ⟨u, h1, h2, (hS u w'').2 rfl⟩) ?_
  intro v w _ _ h
  rw [(hS v w).1 h]
  exact lexK_anti endK_anti _ _ _ _ (fun _ _ h => h.1) hn

theorem bind_value_ne {s : Sem Value} {w w' : World} {f : FuncId} {args : Array Value} : (do pure (Next.value (← s)) : Sem Next).run P w ≠ .ok (.enter f args) w' := by
  simp only [Sem.run_bind]
  cases s.run P w with
  | ok a w1 => simp [Result.andThen]
  | halt x w1 => simp [Result.andThen]

theorem andThen_ne {α β : Type} {r : Result α} {g : α → World → Result β} {b : β} {w' : World} (h : ∀ a w1, g a w1 ≠ .ok b w') : r.andThen g ≠ .ok b w' := by
  cases r with
  | ok a w1 => exact h a w1
  | halt x w1 => simp [Result.andThen]

theorem run_value_of_plain {o : Oper} {ρ : Operand → Value} {w w' : World} {f : FuncId} {args : Array Value} (h : plainOp o = true) : (execOp ρ o).run P w ≠ .ok (.enter f args) w' := by
  unfold plainOp at h
  unfold execOp
  cases ho : o.op <;> simp only [ho] at h <;> simp only [] <;> first | exact bind_value_ne | (simp; done) | skip
  case call c =>
    cases hc : c.callee <;> simp only [hc] at h
    case builtin b =>
      simp only [resolve, hc, invoke]
      cases b <;> simp at h <;> simp only [builtin] <;> exact bind_value_ne
    all_goals simp at h
  case pick c a b =>
    simp only [Sem.run_bind]
    cases (asBool (ρ c)).run P w with
    | ok a w1 => simp [Result.andThen]
    | halt x w1 => simp [Result.andThen]
  case nilCheck x =>
    have hp : (runtimePanic (α := Next) .nilDeref).run P w ≠ .ok (.enter f args) w' := by simp [runtimePanic, goPanic]
    split
    · exact hp
    · exact hp
    · exact hp
    · split
      · exact hp
      · simp only [Sem.run_bind]
        refine andThen_ne fun a1 w1 => andThen_ne fun a2 w2 => ?_
        split
        · simp [unsupported]
        · simp
      · simp
    · simp
  all_goals simp at h

/-- So many operations that only read: the kit's quiet walk, over all later worlds. -/
theorem lexK_quiet {F : Facts} : ∀ (l rest : List Oper) (a : Act), l.all plainOp = true →
    wpQuiet P ops (fun w' => ∃ l : Later w0, w' = l.val) (fun a' => lexK P ops S w0 (endK Q' w0) rest a' F) l a → lexK P ops S w0 (endK Q' w0) (l ++ rest) a F
  | [], _, _, _, h => h
  | o :: l, rest, a, hp, h => by
    simp only [List.all_cons, Bool.and_eq_true] at hp
    unfold wpQuiet at h
    split at h
    · rename_i hw
      obtain ⟨u, h1, h2⟩ := h
      refine ⟨fun v _ => v = u, ⟨fun _ _ _ _ h => h, .inl ⟨hw, fun w he hf => ?_⟩⟩, fun v ⟨_, _, _, hv⟩ => by subst hv; exact lexK_anti endK_anti _ _ _ _ (fun _ _ h => h.1) (lexK_quiet l rest _ hp.2 h2)⟩
      have h3 := h1 w ⟨⟨w, he⟩, rfl⟩
      unfold Oper.quietAt at h3
      have hne := fun f args w' => run_value_of_plain (P := P) (o := o) (ρ := a.eval) (w := w) (w' := w') (f := f) (args := args) hp.1
      generalize (execOp a.eval o).run P w = r at *
      cases r with
      | halt x w' => simp only [Oper.quietUpon] at h3
      | ok n w' =>
        cases n <;> simp only [Oper.quietUpon] at h3
        case value v => obtain ⟨rfl, rfl⟩ := h3; exact ⟨Ext.refl _, rfl⟩
        case skip => obtain ⟨rfl, rfl⟩ := h3; exact ⟨Ext.refl _, rfl⟩
        case enter f args => exact absurd rfl (hne f args w')
    · rename_i hw
      exact lexK_skip (by simpa using hw) (lexK_quiet l rest _ hp.2 h)

theorem lexK_take (n : Nat) {F : Facts} {l : List Oper} {a : Act} (hp : (l.take n).all plainOp = true)
    (h : wpQuiet P ops (fun w' => ∃ l : Later w0, w' = l.val) (fun a' => lexK P ops S w0 (endK Q' w0) (l.drop n) a' F) (l.take n) a) : lexK P ops S w0 (endK Q' w0) l a F := by
  have := lexK_quiet (l.take n) (l.drop n) a hp h
  rwa [List.take_append_drop] at this

theorem lexK_nil {F : Facts} {a : Act} (h : ∀ w', Ext w0 w' → (∀ t, F t w') → Q' .normal a w') : lexK P ops S w0 (endK Q' w0) [] a F := h

end

theorem later_some (w : World) : Nonempty (Later w) := ⟨⟨w, Ext.refl _⟩⟩
theorem later_cell {w : World} {a : Addr} {v : Value} (h : w.cell? a = some v) : ∀ l : Later w, l.val.cell? a = some v :=
  fun l => (Below.cell l.ext (World.block_lt_of_cell? _ _ h)).trans h
end Go.Proofs.Ytinnfcjkgddfeaa

/- Small laws over any program: rows of numbers that a call owns, and what lies below. No conditions. -/
namespace Go.Proofs.Ytinnfcjkgddfeaa
set_option linter.unusedVariables false
set_option linter.unusedSimpArgs false
open Go.RowKit

/-- The call's own row of numbers of kind k (element type e): the slice value s holds just zs, in blocks from B on. -/
def Own (k : IntKind) (e : TypeId) (B : Nat) (w : World) (s : Value) (zs : List Int) : Prop :=
  w.ownsRow B e 1 s zs.length (zs.map (Value.int k))

theorem Own.below {k : IntKind} {e : TypeId} {B : Nat} {w wr w1 : World} {s : Value} {zs : List Int} (h : Own k e B wr s zs) (hb : Below B w wr) (hB : B ≤ w.heap.size)
    {o : Obj} (hg : (wr.alloc o).grownBy w1 s.ownBlock) : Below B w w1 := by
  have hs := hb.size
  exact (hb.alloc (by omega) o).grown hg (by simp; omega) (fun k hk => (World.ownsRow.lt h k hk).1)

theorem Own.snoc {k : IntKind} {e : TypeId} {B : Nat} {w1 : World} {s' : Value} {zs : List Int} {z : Int}
    (h : w1.ownsRow B e 1 s' (zs.length + 1) (zs.map (Value.int k) ++ [Value.int k z])) : Own k e B w1 s' (zs ++ [z]) := by
  unfold Own
  simpa using h

theorem Own.nil (k : IntKind) (e : TypeId) (B : Nat) (w : World) : Own k e B w (.slice none 0 0) [] := World.ownsRow_nil _ _ _ _

theorem Own.made {k : IntKind} {e : TypeId} {B : Nat} {w : World} (cur : Array Value) (cap : Nat) (hb : B ≤ w.heap.size) (hm : cap ≤ maxLen) (hs : cur.size = cap) :
    Own k e B (w.alloc (.cells cur e)) (.slice (some ⟨w.heap.size, 0, none⟩) 0 cap) [] :=
  World.ownsRow_made w cur cap hb hm (by simpa using hs)

theorem one1 {k : IntKind} {z : Int} : ∀ u ∈ [Value.int k z], u.oneCell' = true := by
  intro u hu; simp at hu; subst hu; rfl

/-- 'append(s, x)', s the call's own. -/
theorem wpList_snoc {P : Program} (w : World) {ops : Array Oper} {rest : List Oper} {o : Oper} {a : Act} {Q : Exit → Act → World → Prop} (hgd : o.guard = none) (s x : Operand) (t : TypeId)
    (ho : o.op = .call { callee := .builtin .append, args := #[s, x], argTypes := #[t, t] }) (e : TypeId) (k : IntKind) (bytes : Nat) (ht : P.underlying t = some (.slice e))
    (hinfo : (P.info? e).map (fun i => (i.zero, i.size, i.bytes)) = some (some (.int k 0), 1, bytes)) (B : Nat) (v : Value) (zs : List Int) (z : Int) (ad : Addr) (hs : a.eval s = v) (hx : a.eval x = .slice (some ad) 1 1)
    (hcell : w.cell? ad = some (.int k z)) (hown : Own k e B w v zs) (hlen : (zs.length + 1) * bytes ≤ 140737488355328 ∧ zs.length + 1 ≤ maxLen) (hB : B ≤ w.heap.size)
    (h : ∀ v' w', Own k e B w' v' (zs ++ [z]) → Below B w w' → wpList P ops Q rest (a.put o.dst v') w') : wpList P ops Q (o :: rest) a w := by
  obtain ⟨i0, hi, hz0, hz1, hz2⟩ := info_parts hinfo
  refine wpList_append_own w hgd s x t ho B e i0 (.int k 0) 1 bytes ht hi hz0 hz1 hz2 rfl (by decide) v _ _ hs hown ad 1 1 [.int k z] hx rfl ?_ one1 hlen.2 hlen.1 hB ?_
  · intro j u hj
    match j, hj with
    | 0, hj => simp at hj; subst hj; simpa [Addr.add] using hcell
  · intro v' w' h1 h2 _
    exact h v' w' (Own.snoc h1) ((Below.refl _ _).grown h2 hB (fun k hk => (World.ownsRow.lt hown k hk).1))

theorem Own.alloc {k : IntKind} {e : TypeId} {B : Nat} {w : World} {s : Value} {zs : List Int} (h : Own k e B w s zs) (o : Obj) : Own k e B (w.alloc o) s zs := World.ownsRow.alloc h o

/-- The slice value v reads as the numbers zs, of kind k. -/
def Sl (k : IntKind) (w : World) (v : Value) (zs : List Int) : Prop :=
  ∃ a c, v = .slice a zs.length c ∧ zs.length ≤ c ∧ c ≤ maxLen ∧ (a = none → c = 0) ∧ (zs = [] ∨ ∃ b off, a = some ⟨b, off, none⟩ ∧ ∀ i, i < zs.length → w.cell? ⟨b, off + i, none⟩ = some (.int k (zs.getD i 0)))

theorem Ext.cellOf {w w' : World} (h : Ext w w') {a : Addr} {v : Value} (hc : w.cell? a = some v) : w'.cell? a = some v := cell_later h hc

theorem Sl.up {k : IntKind} {v : Value} {zs : List Int} : UpW (fun w => Sl k w v zs) := by
  rintro w w' he ⟨a, c, h1, h2, h3, h0, h4⟩
  refine ⟨a, c, h1, h2, h3, h0, ?_⟩
  rcases h4 with h4 | ⟨b, off, h4, h5⟩
  · exact .inl h4
  · exact .inr ⟨b, off, h4, fun i hi => he.cellOf (h5 i hi)⟩

theorem Sl.ext {k : IntKind} {w w' : World} {v : Value} {zs : List Int} (h : Sl k w v zs) (he : Ext w w') : Sl k w' v zs := Sl.up _ _ he h

theorem Own.sl {k : IntKind} {e : TypeId} {B : Nat} {w : World} {s : Value} {zs : List Int} (h : Own k e B w s zs) : Sl k w s zs := by
  obtain ⟨h1, h2⟩ := h
  rcases h2 with ⟨rfl, h2⟩ | ⟨g, cap, cur, rfl, _, hh, hn, hm, hs, ht⟩
  · exact ⟨none, 0, by rw [h2], by omega, by simp [maxLen], fun _ => rfl, .inl (List.length_eq_zero_iff.1 h2)⟩
  · refine ⟨_, cap, rfl, hn, hm, (fun h => by cases h), .inr ⟨g, 0, rfl, fun i hi => ?_⟩⟩
    have : w.cell? ⟨g, 0 + i, none⟩ = cur[i]? := by simp [World.cell?, hh]
    rw [this]
    have h5 : cur.toList[i]? = (zs.map (Value.int k))[i]? := by
      rw [← ht, List.getElem?_take, if_pos (by simpa using hi)]
    have h6 : cur[i]? = cur.toList[i]? := by simp
    rw [h6, h5]
    simp [List.getD, List.getElem?_eq_getElem hi]

/-- 'string(b)' -/
theorem Sl.str {P : Program} {w : World} {v : Value} {zs : List Int} (h : Sl .u8 w v zs) (src e dst : TypeId) (hs : P.underlying src = some (.slice e)) (he : P.underlying e = some (.int .u8)) (hd : P.underlying dst = some .string) :
    (convert src dst v).run P w = .ok (.string (strOfNums zs)) w := by
  obtain ⟨a, c, rfl, _, _, _, h4⟩ := h
  rcases h4 with rfl | ⟨b, off, rfl, h5⟩
  · rw [run_convert_bytes_string w src dst e _ _ c hs he hd]
    cases a <;> simp [Conv.bytesToString, loadCells, strOfNums]
    all_goals rfl
  · exact run_convert_bytes_arg w src e hs he b off _ c zs rfl h5 dst hd

/-- Two strings of bytes are alike just if the bytes are. -/
theorem strOfNums_inj {xs ys : List Int} (hx : ∀ x ∈ xs, 0 ≤ x ∧ x ≤ 255) (hy : ∀ y ∈ ys, 0 ≤ y ∧ y ≤ 255) : ((strOfNums xs).toList == (strOfNums ys).toList) = decide (xs = ys) := by
  have key : ∀ xs ys : List Int, (∀ x ∈ xs, 0 ≤ x ∧ x ≤ 255) → (∀ y ∈ ys, 0 ≤ y ∧ y ≤ 255) → xs.map (fun n => UInt8.ofNat n.toNat) = ys.map (fun n => UInt8.ofNat n.toNat) → xs = ys := by
    intro xs
    induction xs with
    | nil => intro ys _ _ h; cases ys with | nil => rfl | cons y ys => simp at h
    | cons x xs ih =>
      intro ys h1 h2 h
      cases ys with
      | nil => simp at h
      | cons y ys =>
        simp only [List.map_cons, List.cons.injEq] at h
        have a1 := h1 x (by simp)
        have a2 := h2 y (by simp)
        have e1 : x.toNat = y.toNat := by
          have := congrArg UInt8.toNat h.1
          simp only [UInt8.toNat_ofNat'] at this
          omega
        have e2 : x = y := by omega
        rw [e2, ih ys (fun z hz => h1 z (by simp [hz])) (fun z hz => h2 z (by simp [hz])) h.2]
  rw [Bool.eq_iff_iff, ByteArray.toList_eq, ByteArray.toList_eq, strOfNums_data, strOfNums_data]
  simp only [beq_iff_eq, decide_eq_true_eq]
  exact ⟨key xs ys hx hy, fun h => by rw [h]⟩

/-- A row just laid reads as its numbers. -/
theorem Sl.lit {k : IntKind} {e : TypeId} (w : World) (zs : List Int) (n : Nat) (hn : zs.length = n) (hm : n ≤ maxLen) : Sl k (w.alloc (.cells (zs.map (Value.int k)).toArray e)) (.slice (some ⟨w.heap.size, 0, none⟩) n n) zs := by
  subst hn
  refine ⟨_, _, rfl, Nat.le_refl _, hm, (fun h => by cases h), .inr ⟨w.heap.size, 0, rfl, fun i hi => ?_⟩⟩
  have h : (w.alloc (.cells (zs.map (Value.int k)).toArray e)).heap[w.heap.size]? = some (.cells (zs.map (Value.int k)).toArray e) := heap_alloc_new w _
  simp only [World.cell?, h]
  simp [hi]

theorem ints_one {k : IntKind} (zs : List Int) : ∀ u ∈ zs.map (Value.int k), u.oneCell' = true := by
  intro u hu
  simp only [List.mem_map] at hu
  obtain ⟨z, _, rfl⟩ := hu
  rfl

/-- 'append(s, xs...)', s the call's own, xs whatever numbers. -/
theorem wpList_join {P : Program} (w : World) {ops : Array Oper} {rest : List Oper} {o : Oper} {a : Act} {Q : Exit → Act → World → Prop} (hgd : o.guard = none) (s x : Operand) (t : TypeId)
    (ho : o.op = .call { callee := .builtin .append, args := #[s, x], argTypes := #[t, t] }) (e : TypeId) (k : IntKind) (bytes : Nat) (ht : P.underlying t = some (.slice e))
    (hinfo : (P.info? e).map (fun i => (i.zero, i.size, i.bytes)) = some (some (.int k 0), 1, bytes)) (B : Nat) (v u : Value) (zs ys : List Int) (hs : a.eval s = v) (hx : a.eval x = u)
    (hown : Own k e B w v zs) (hsl : Sl k w u ys) (hlen : (zs.length + ys.length) * bytes ≤ 140737488355328 ∧ zs.length + ys.length ≤ maxLen) (hB : B ≤ w.heap.size)
    (h : ∀ v' w', Own k e B w' v' (zs ++ ys) → Below B w w' → wpList P ops Q rest (a.put o.dst v') w') : wpList P ops Q (o :: rest) a w := by
  obtain ⟨i0, hi, hz0, hz1, hz2⟩ := info_parts hinfo
  obtain ⟨ad, c, rfl, h1, h2, h3, h4⟩ := hsl
  have fin : ∀ v' w', w'.ownsRow B e 1 v' (zs.length + ys.length) (zs.map (Value.int k) ++ ys.map (Value.int k)) → w.grownBy w' v.ownBlock → wpList P ops Q rest (a.put o.dst v') w' := fun v' w' g1 g2 =>
    h v' w' (by unfold Own; simpa using g1) ((Below.refl _ _).grown g2 hB (fun k hk => (World.ownsRow.lt hown k hk).1))
  cases ad with
  | none =>
    have hc := h3 rfl
    subst hc
    have hy : ys = [] := List.length_eq_zero_iff.1 (by omega)
    subst hy
    refine wpList_append_own_none hgd s x t ho B e i0 1 ht hi v _ _ hs hown hx ?_
    refine h v w ?_ (Below.refl _ _)
    rw [List.append_nil]; exact hown
  | some ad =>
    refine wpList_append_own w hgd s x t ho B e i0 (.int k 0) 1 bytes ht hi hz0 hz1 hz2 rfl (by decide) v _ _ hs hown ad ys.length c (ys.map (Value.int k)) hx (by simp) ?_ (ints_one ys) hlen.2 hlen.1 hB (fun v' w' g1 g2 _ => fin v' w' g1 g2)
    intro j u hj
    rcases h4 with rfl | ⟨b, off, hb, h5⟩
    · simp at hj
    · simp only [Option.some.injEq] at hb
      subst hb
      have hjl : j < ys.length := by
        rcases Nat.lt_or_ge j ys.length with g | g
        · exact g
        · simp [List.getElem?_eq_none (show (ys.map (Value.int k)).length ≤ j by simpa using g)] at hj
      rw [Go.WideShapes.add_plain, h5 j hjl]
      simp [List.getElem?_eq_getElem hjl] at hj
      subst hj
      simp [List.getD, List.getElem?_eq_getElem hjl]

/-- 's[:n]' -/
theorem Sl.take {k : IntKind} {w : World} {b off c : Nat} {zs : List Int} (n : Nat) (hn : n ≤ zs.length) (hc : zs.length ≤ c) (hm : c ≤ maxLen)
    (h : ∀ i, i < zs.length → w.cell? ⟨b, off + i, none⟩ = some (.int k (zs.getD i 0))) : Sl k w (.slice (some ⟨b, off, none⟩) n c) (zs.take n) := by
  have hl : (zs.take n).length = n := by simp; omega
  refine ⟨_, c, by rw [hl], by omega, hm, (fun h => by cases h), .inr ⟨b, off, rfl, fun i hi => ?_⟩⟩
  rw [hl] at hi
  rw [h i (by omega)]
  congr 2
  simp [List.getD, List.getElem?_take, hi]

/-- 'string(b)' in every later world. -/
theorem later_str {P : Program} {w : World} {v : Value} {zs : List Int} (h : Sl .u8 w v zs) (src e dst : TypeId) (hs : P.underlying src = some (.slice e)) (he : P.underlying e = some (.int .u8)) (hd : P.underlying dst = some .string) :
    ∀ l : Later w, (convert src dst v).run P l.val = .ok (.string (strOfNums zs)) l.val :=
  fun l => (h.ext l.ext).str src e dst hs he hd

theorem run_convert_op {P : Program} {w w' : World} {ρ : Operand → Value} {o : Oper} {src dst : TypeId} {x : Operand} {v u : Value} (ho : o.op = .convert src dst x) (hx : ρ x = v) (h : (convert src dst v).run P w = .ok u w') :
    (execOp ρ o).run P w = .ok (.value u) w' := by
  unfold execOp
  simp only [ho, hx, Sem.run_bind, h, Result.andThen, Sem.run_pure]

/-- A slice of numbers that came in. -/
theorem Sl.ofRow {k : IntKind} {w : World} {a : Option Addr} {len cap : Nat} {zs : List Int}
    (h : (a = none ∧ len = 0 ∧ cap = 0 ∧ zs = []) ∨ ∃ x, a = some x ∧ len ≤ cap ∧ cap ≤ maxLen ∧ zs.length = cap ∧ (∀ i, i < zs.length → w.cell? (x.add i) = some (.int k (zs.getD i 0))) ∧ ∀ n ∈ zs, (Lit.int k n).wf = true) :
    Sl k w (.slice a len cap) (zs.take len) ∧ (zs.take len).length = len ∧ ∀ z ∈ zs.take len, (Lit.int k z).wf = true := by
  rcases h with ⟨rfl, rfl, rfl, rfl⟩ | ⟨x, rfl, h1, h2, h3, h4, h5⟩
  · exact ⟨⟨none, 0, rfl, by simp, by simp [maxLen], fun _ => rfl, .inl rfl⟩, rfl, fun z hz => by simp at hz⟩
  · have hl : (zs.take len).length = len := by simp; omega
    refine ⟨?_, hl, fun z hz => h5 z (List.mem_of_mem_take hz)⟩
    by_cases h0 : len = 0
    · subst h0
      exact ⟨some x, cap, rfl, by simp, h2, (fun h => by cases h), .inl rfl⟩
    · obtain ⟨b, off, rfl, hc⟩ := Go.ints_at h4 (by omega)
      exact Sl.take len (by omega) (by omega) h2 hc

theorem wf_u8 {zs : List Int} (h : ∀ z ∈ zs, (Lit.int .u8 z).wf = true) : ∀ z ∈ zs, 0 ≤ z ∧ z ≤ 255 := fun z hz => Go.bounds_u8 (h z hz)

/-- 's[:m]' of whatever slice. -/
theorem Sl.take' {k : IntKind} {w : World} {a : Option Addr} {n c : Nat} {zs : List Int} (h : Sl k w (.slice a n c) zs) (m : Nat) (hm : m ≤ n) : Sl k w (.slice a m c) (zs.take m) := by
  obtain ⟨a', c', h1, h2, h3, h4, h5⟩ := h
  simp only [Value.slice.injEq] at h1
  obtain ⟨rfl, rfl, rfl⟩ := h1
  rcases h5 with rfl | ⟨b, off, rfl, h5⟩
  · simp at hm; subst hm
    exact ⟨a, c, rfl, by simp, h3, h4, .inl rfl⟩
  · exact Sl.take m hm h2 h3 h5

/-- What an owned row that is not empty looks like. -/
theorem Own.shape {k : IntKind} {e : TypeId} {B : Nat} {w : World} {s : Value} {zs : List Int} (h : Own k e B w s zs) (hn : zs ≠ []) : ∃ g cap, s = .slice (some ⟨g, 0, none⟩) zs.length cap ∧ B ≤ g ∧ zs.length ≤ cap ∧ cap ≤ maxLen := by
  rcases h.2 with ⟨_, h2⟩ | ⟨g, cap, cur, h2, h3, _, h4, h5, _⟩
  · exact absurd (List.length_eq_zero_iff.1 h2) hn
  · exact ⟨g, cap, h2, h3, h4, h5⟩

theorem Own.cell {k : IntKind} {e : TypeId} {B : Nat} {w : World} {g n cap : Nat} {zs : List Int} (h : Own k e B w (.slice (some ⟨g, 0, none⟩) n cap) zs) (hn : zs.length = n) (j : Nat) (hj : j < n) : w.cell? ⟨g, j, none⟩ = some (.int k (zs.getD j 0)) := by
  subst hn
  have := World.ownsRow.cellAt h j (by simpa using hj)
  rw [this]
  simp [List.getD, List.getElem?_eq_getElem hj]

theorem Own.frozen {k : IntKind} {e : TypeId} {B : Nat} {w : World} {g n cap : Nat} {zs : List Int} (h : Own k e B w (.slice (some ⟨g, 0, none⟩) n cap) zs) (hn : zs.length = n) (j : Nat) : w.frozen? ⟨g, j, none⟩ = false := by
  subst hn
  exact World.ownsRow.frozenAt h j

theorem Own.store {k : IntKind} {e : TypeId} {B : Nat} {w : World} {g n cap : Nat} {zs : List Int} (h : Own k e B w (.slice (some ⟨g, 0, none⟩) n cap) zs) (hn : zs.length = n) (j : Nat) (z : Int) :
    Own k e B (w.setCell ⟨g, j, none⟩ (.int k z)) (.slice (some ⟨g, 0, none⟩) n cap) (zs.set j z) := by
  subst hn
  have := (World.ownsRow.stored h j (.int k z)).1
  unfold Own
  rw [List.length_set, List.map_set]
  exact this

theorem hide' {p : Prop} (h : p) : Hid p := h

/-- 'y | d << n', no digit in both. -/
theorem or_shift_nat (y d n : Nat) (h : y < 2 ^ n) (hy : y < 18446744073709551616) (h64 : d * 2 ^ n < 18446744073709551616) : bits .or .u64 (y : Int) (IntKind.u64.wrap ((d : Int) * 2 ^ n)) = ((y + d * 2 ^ n : Nat) : Int) := by
  have e1 : (d : Int) * 2 ^ n = ((d * 2 ^ n : Nat) : Int) := by simp
  rw [e1, IntKind.wrap_u64, Int.emod_eq_of_lt (by omega) (by omega), u64_or_nat _ _ hy h64]
  have := Nat.shiftLeft_add_eq_or_of_lt h d
  rw [Nat.shiftLeft_eq] at this
  rw [Nat.or_comm, ← this, Nat.add_comm]

theorem pow128 (k : Nat) : (2 : Nat) ^ (7 * k) = 128 ^ k := by rw [Nat.pow_mul]

theorem or_shift (y d : Int) (k : Nat) (h0 : 0 ≤ y) (h1 : y < 128 ^ k) (h2 : 0 ≤ d) (hy : y < 18446744073709551616) (h64 : d * 128 ^ k < 18446744073709551616) :
    bits .or .u64 y (IntKind.u64.wrap (d * 2 ^ (7 * k))) = y + d * 128 ^ k := by
  obtain ⟨y, rfl⟩ := Int.eq_ofNat_of_zero_le h0
  obtain ⟨d, rfl⟩ := Int.eq_ofNat_of_zero_le h2
  have e := pow128 k
  have e2 : ((128 : Int) ^ k) = ((128 ^ k : Nat) : Int) := by simp
  rw [e2] at h1 h64 ⊢
  have h5 : ((d * 128 ^ k : Nat) : Int) < 18446744073709551616 := by rw [Int.natCast_mul]; exact h64
  have h3 := or_shift_nat y d (7 * k) (by rw [e]; omega) (by omega) (by rw [e]; omega)
  rw [h3, e, Int.natCast_add, Int.natCast_mul]

/-- 'y&127 | 128' -/
theorem low7 (y : Int) (h0 : 0 ≤ y) (h1 : y < 18446744073709551616) : bits .or .u64 (bits .and .u64 y 127) 128 = y % 128 + 128 := by
  obtain ⟨y, rfl⟩ := Int.eq_ofNat_of_zero_le h0
  have e1 : bits .and .u64 (y : Int) ((127 : Nat) : Int) = ((y &&& 127 : Nat) : Int) := u64_and_nat y 127 (by omega) (by omega)
  have e2 : y &&& 127 = y % 128 := Nat.and_two_pow_sub_one_eq_mod y 7
  have e3 : bits .or .u64 ((y % 128 : Nat) : Int) ((128 : Nat) : Int) = ((y % 128 ||| 128 : Nat) : Int) := u64_or_nat _ 128 (by omega) (by omega)
  have e4 : y % 128 ||| 128 = y % 128 + 128 := by
    have := Nat.shiftLeft_add_eq_or_of_lt (i := 7) (b := y % 128) (by omega) 1
    rw [Nat.or_comm]
    have h : 1 <<< 7 = 128 := rfl
    rw [h] at this
    omega
  have a1 : ((127 : Nat) : Int) = 127 := rfl
  have a2 : ((128 : Nat) : Int) = 128 := rfl
  rw [a1] at e1
  rw [a2] at e3
  rw [e1, e2, e3, e4]
  omega

theorem or128 (d : Int) (h0 : 0 ≤ d) (h1 : d < 128) : bits .or .u8 d 128 = d + 128 := by
  obtain ⟨d, rfl⟩ := Int.eq_ofNat_of_zero_le h0
  have e3 : bits .or .u8 (d : Int) ((128 : Nat) : Int) = ((d ||| 128 : Nat) : Int) := u8_or_nat _ 128 (by omega) (by omega)
  have e4 : d ||| 128 = d + 128 := by
    have := Nat.shiftLeft_add_eq_or_of_lt (i := 7) (b := d) (by omega) 1
    rw [Nat.or_comm]
    have h : 1 <<< 7 = 128 := rfl
    rw [h] at this
    omega
  have a2 : ((128 : Nat) : Int) = 128 := rfl
  rw [a2] at e3
  rw [e3, e4]
  omega
end Go.Proofs.Ytinnfcjkgddfeaa

/- Two rows of numbers, compared; how much they have alike; rotations. Plain numbers, no conditions. -/
namespace Go.Proofs.Ytinnfcjkgddfeaa
set_option linter.unusedVariables false
set_option linter.unusedSimpArgs false

/-- -1, 0, 1. -/
def cmpI : List Int → List Int → Int
  | [], [] => 0
  | [], _ :: _ => -1
  | _ :: _, [] => 1
  | a :: x, b :: y => if a < b then -1 else if b < a then 1 else cmpI x y

/-- How many are alike. -/
def comI : List Int → List Int → Nat
  | a :: x, b :: y => if a = b then comI x y + 1 else 0
  | _, _ => 0

def turnI (s : List Int) (i : Nat) : List Int := s.drop i ++ s.take i

def endL (s : List Int) (i j : Int) : Int := if (0 ≤ i ∧ i ≤ (s.length : Int)) ∧ 0 ≤ j ∧ j ≤ (s.length : Int) then cmpI (s.drop i.toNat) (s.drop j.toNat) else 0
def turnsL (s : List Int) (i j : Int) : Int := if (0 ≤ i ∧ i < (s.length : Int)) ∧ 0 ≤ j ∧ j < (s.length : Int) then cmpI (turnI s i.toNat) (turnI s j.toNat) else 0
def comL (s : List Int) (i j : Int) : Int := if (0 ≤ i ∧ i ≤ (s.length : Int)) ∧ 0 ≤ j ∧ j ≤ (s.length : Int) then (comI (s.drop i.toNat) (s.drop j.toNat) : Int) else 0

theorem endL_out {s : List Int} {i j : Int} (h : ¬ ((0 ≤ i ∧ i ≤ (s.length : Int)) ∧ 0 ≤ j ∧ j ≤ (s.length : Int))) : endL s i j = 0 := if_neg h
theorem endL_in {s : List Int} {i j : Nat} (h : i ≤ s.length) (h' : j ≤ s.length) : endL s i j = cmpI (s.drop i) (s.drop j) := by
  unfold endL; rw [if_pos (by omega)]; simp
theorem turnsL_out {s : List Int} {i j : Int} (h : ¬ ((0 ≤ i ∧ i < (s.length : Int)) ∧ 0 ≤ j ∧ j < (s.length : Int))) : turnsL s i j = 0 := if_neg h
theorem turnsL_in {s : List Int} {i j : Nat} (h : i < s.length) (h' : j < s.length) : turnsL s i j = cmpI (turnI s i) (turnI s j) := by
  unfold turnsL; rw [if_pos (by omega)]; simp
theorem comL_out {s : List Int} {i j : Int} (h : ¬ ((0 ≤ i ∧ i ≤ (s.length : Int)) ∧ 0 ≤ j ∧ j ≤ (s.length : Int))) : comL s i j = 0 := if_neg h
theorem comL_in {s : List Int} {i j : Nat} (h : i ≤ s.length) (h' : j ≤ s.length) : comL s i j = (comI (s.drop i) (s.drop j) : Int) := by
  unfold comL; rw [if_pos (by omega)]; simp

theorem drop_getD {x : List Int} {k : Nat} (h : k < x.length) : x.drop k = x.getD k 0 :: x.drop (k + 1) := by
  rw [List.drop_eq_getElem_cons h]
  simp [List.getD, List.getElem?_eq_getElem h]

theorem cmpI_same {x y : List Int} {k : Nat} (hx : k < x.length) (hy : k < y.length) (h : x.getD k 0 = y.getD k 0) : cmpI (x.drop k) (y.drop k) = cmpI (x.drop (k + 1)) (y.drop (k + 1)) := by
  rw [drop_getD hx, drop_getD hy, h, cmpI, if_neg (by omega), if_neg (by omega)]
theorem cmpI_lt {x y : List Int} {k : Nat} (hx : k < x.length) (hy : k < y.length) (h : x.getD k 0 < y.getD k 0) : cmpI (x.drop k) (y.drop k) = -1 := by
  rw [drop_getD hx, drop_getD hy, cmpI, if_pos h]
theorem cmpI_gt {x y : List Int} {k : Nat} (hx : k < x.length) (hy : k < y.length) (h : y.getD k 0 < x.getD k 0) : cmpI (x.drop k) (y.drop k) = 1 := by
  rw [drop_getD hx, drop_getD hy, cmpI, if_neg (by omega), if_pos h]
theorem cmpI_short {x y : List Int} {k : Nat} (hx : k = x.length) (hy : k < y.length) : cmpI (x.drop k) (y.drop k) = -1 := by
  rw [List.drop_of_length_le (by omega), drop_getD hy]; rfl
theorem cmpI_long {x y : List Int} {k : Nat} (hx : k < x.length) (hy : k = y.length) : cmpI (x.drop k) (y.drop k) = 1 := by
  rw [List.drop_of_length_le (l := y) (by omega), drop_getD hx]; rfl
theorem cmpI_end {x y : List Int} {k : Nat} (hx : k = x.length) (hy : k = y.length) : cmpI (x.drop k) (y.drop k) = 0 := by
  rw [List.drop_of_length_le (l := y) (by omega), List.drop_of_length_le (l := x) (by omega)]; rfl

theorem comI_same {x y : List Int} {k : Nat} (hx : k < x.length) (hy : k < y.length) (h : x.getD k 0 = y.getD k 0) : comI (x.drop k) (y.drop k) = comI (x.drop (k + 1)) (y.drop (k + 1)) + 1 := by
  rw [drop_getD hx, drop_getD hy, h, comI, if_pos rfl]
theorem comI_other {x y : List Int} {k : Nat} (hx : k < x.length) (hy : k < y.length) (h : x.getD k 0 ≠ y.getD k 0) : comI (x.drop k) (y.drop k) = 0 := by
  rw [drop_getD hx, drop_getD hy, comI, if_neg h]
theorem comI_nil_left {y : List Int} : comI [] y = 0 := by cases y <;> rfl
theorem comI_nil_right {x : List Int} : comI x [] = 0 := by cases x <;> rfl
theorem comI_left {x y : List Int} {k : Nat} (hx : x.length ≤ k) : comI (x.drop k) (y.drop k) = 0 := by
  rw [List.drop_of_length_le hx]; exact comI_nil_left
theorem comI_right {x y : List Int} {k : Nat} (hy : y.length ≤ k) : comI (x.drop k) (y.drop k) = 0 := by
  rw [List.drop_of_length_le (l := y) hy]; exact comI_nil_right

theorem cmpI_self (x : List Int) : cmpI x x = 0 := by
  induction x with
  | nil => rfl
  | cons a x ih => rw [cmpI, if_neg (by omega), if_neg (by omega), ih]
theorem cmpI_swap : ∀ (x y : List Int), cmpI y x = - cmpI x y
  | [], [] => rfl
  | [], _ :: _ => rfl
  | _ :: _, [] => rfl
  | a :: x, b :: y => by
    simp only [cmpI]
    by_cases h1 : a < b
    · rw [if_neg (by omega), if_pos h1, if_pos h1]; rfl
    · by_cases h2 : b < a
      · rw [if_pos h2, if_neg h1, if_pos h2]
      · rw [if_neg h2, if_neg h1, if_neg h1, if_neg h2, cmpI_swap x y]
theorem cmpI_zero : ∀ {x y : List Int}, cmpI x y = 0 → x = y
  | [], [], _ => rfl
  | [], _ :: _, h => by simp [cmpI] at h
  | _ :: _, [], h => by simp [cmpI] at h
  | a :: x, b :: y, h => by
    simp only [cmpI] at h
    by_cases h1 : a < b
    · rw [if_pos h1] at h; cases h
    · by_cases h2 : b < a
      · rw [if_neg h1, if_pos h2] at h; cases h
      · rw [if_neg h1, if_neg h2] at h
        rw [cmpI_zero h, show a = b by omega]
theorem cmpI_three (x y : List Int) : cmpI x y = -1 ∨ cmpI x y = 0 ∨ cmpI x y = 1 := by
  induction x generalizing y with
  | nil => cases y <;> simp [cmpI]
  | cons a x ih =>
    cases y with
    | nil => simp [cmpI]
    | cons b y =>
      simp only [cmpI]
      split
      · exact .inl rfl
      · split
        · exact .inr (.inr rfl)
        · exact ih y
theorem cmpI_trans : ∀ (x y z : List Int), cmpI x y ≤ 0 → cmpI y z ≤ 0 → cmpI x z ≤ 0
  | [], _, [], _, _ => by simp [cmpI]
  | [], _, _ :: _, _, _ => by simp [cmpI]
  | _ :: _, [], _, h, _ => by simp [cmpI] at h
  | _ :: _, _ :: _, [], _, h => by simp [cmpI] at h
  | a :: x, b :: y, c :: z, h1, h2 => by
    simp only [cmpI] at h1 h2 ⊢
    by_cases g1 : a < b
    · by_cases g2 : c < b
      · rw [if_neg (by omega), if_pos g2] at h2; omega
      · rw [if_pos (by omega)]; omega
    · by_cases g1' : b < a
      · rw [if_neg g1, if_pos g1'] at h1; omega
      · rw [if_neg g1, if_neg g1'] at h1
        have e : a = b := by omega
        subst e
        by_cases g2 : a < c
        · rw [if_pos g2]; omega
        · by_cases g3 : c < a
          · rw [if_neg g2, if_pos g3] at h2; omega
          · rw [if_neg g2, if_neg g3] at h2 ⊢
            exact cmpI_trans x y z h1 h2
theorem comI_swap : ∀ (x y : List Int), comI x y = comI y x
  | [], _ => by rw [comI_nil_left, comI_nil_right]
  | _ :: _, [] => rfl
  | a :: x, b :: y => by
    simp only [comI]
    by_cases h : a = b
    · rw [if_pos h, if_pos h.symm, comI_swap x y]
    · rw [if_neg h, if_neg (fun e => h e.symm)]
theorem comI_self (x : List Int) : comI x x = x.length := by
  induction x with
  | nil => rfl
  | cons a x ih => rw [comI, if_pos rfl, ih]; rfl
theorem comI_le : ∀ (x y : List Int), comI x y ≤ x.length ∧ comI x y ≤ y.length
  | [], _ => by rw [comI_nil_left]; omega
  | _ :: _, [] => by rw [comI_nil_right]; omega
  | a :: x, b :: y => by
    have := comI_le x y
    simp only [comI, List.length_cons]
    split <;> omega
/-- Behind what is alike the first other one tells. -/
theorem cmpI_comI : ∀ (x y : List Int), cmpI x y =
    if comI x y = x.length then (if comI x y = y.length then 0 else -1) else if comI x y = y.length then 1 else if x.getD (comI x y) 0 < y.getD (comI x y) 0 then -1 else 1
  | [], [] => by simp [cmpI, comI]
  | [], _ :: _ => by simp [cmpI, comI]
  | _ :: _, [] => by simp [cmpI, comI]
  | a :: x, b :: y => by
    by_cases h : a = b
    · subst h
      have hc : comI (a :: x) (a :: y) = comI x y + 1 := by simp [comI]
      have hm : cmpI (a :: x) (a :: y) = cmpI x y := by simp [cmpI]
      rw [hc, hm, cmpI_comI x y]
      simp
    · have hc : comI (a :: x) (b :: y) = 0 := by simp [comI, h]
      rw [hc, cmpI]
      simp only [List.length_cons, List.getD_cons_zero]
      rw [if_neg (show ¬ 0 = x.length + 1 by omega), if_neg (show ¬ 0 = y.length + 1 by omega)]
      split
      · rfl
      · rw [if_pos (by omega)]

theorem turnI_len {s : List Int} {i : Nat} (h : i ≤ s.length) : (turnI s i).length = s.length := by
  simp [turnI]; omega
theorem turnI_at {s : List Int} {i k : Nat} (hi : i < s.length) (hk : k < s.length) : (turnI s i).getD k 0 = s.getD ((i + k) % s.length) 0 := by
  unfold turnI
  by_cases h : i + k < s.length
  · rw [Nat.mod_eq_of_lt h]
    simp only [List.getD_eq_getElem?_getD]
    rw [List.getElem?_append_left (by simp; omega), List.getElem?_drop]
  · have e : (i + k) % s.length = i + k - s.length := by
      rw [Nat.mod_eq_sub_mod (by omega), Nat.mod_eq_of_lt (by omega)]
    rw [e]
    simp only [List.getD_eq_getElem?_getD]
    rw [List.getElem?_append_right (by simp; omega), List.getElem?_take, if_pos (by simp; omega)]
    congr 2
    simp; omega

theorem toUInt8_lt {a b : Int} (ha : 0 ≤ a ∧ a ≤ 255) (hb : 0 ≤ b ∧ b ≤ 255) : a.toNat.toUInt8 < b.toNat.toUInt8 ↔ a < b := by
  rw [UInt8.lt_iff_toNat_lt]
  simp only [Nat.toUInt8, UInt8.toNat_ofNat']
  omega

theorem cmpI_bytes : ∀ (x y : List Int), (∀ z ∈ x, 0 ≤ z ∧ z ≤ 255) → (∀ z ∈ y, 0 ≤ z ∧ z ≤ 255) → Go.Lib.compareBytes (Go.Lib.bytesOf x) (Go.Lib.bytesOf y) = cmpI x y
  | [], [], _, _ => rfl
  | [], _ :: _, _, _ => rfl
  | _ :: _, [], _, _ => rfl
  | a :: x, b :: y, hx, hy => by
    have ih := cmpI_bytes x y (fun z hz => hx z (by simp [hz])) (fun z hz => hy z (by simp [hz]))
    have ha := hx a (by simp)
    have hb := hy b (by simp)
    show (if a.toNat.toUInt8 < b.toNat.toUInt8 then (-1 : Int) else if b.toNat.toUInt8 < a.toNat.toUInt8 then 1 else Go.Lib.compareBytes (Go.Lib.bytesOf x) (Go.Lib.bytesOf y)) = _
    simp only [toUInt8_lt ha hb, toUInt8_lt hb ha, ih]
    rfl

/-- The model's entry bytealg.Compare at two slices of bytes. -/
theorem Sl.bytesOf {P : Program} {w : World} {v : Value} {x : List Int} (h : Sl .u8 w v x) : (Extern.Bytes.bytesOf v).run P w = .ok ⟨(Go.Lib.bytesOf x).toArray⟩ w := by
  obtain ⟨a, c, rfl, _, _, h0, h4⟩ := h
  cases a with
  | none =>
    have hx : x = [] := by
      rcases h4 with h4 | ⟨b, off, h4, _⟩
      · exact h4
      · cases h4
    subst hx
    rfl
  | some a =>
    rcases h4 with rfl | ⟨b, off, h4, h5⟩
    · rfl
    · simp only [Option.some.injEq] at h4
      subst h4
      have := Go.Lib.run_loadBytesX (P := P) w x ⟨b, off, none⟩ .empty (fun j z hj => by
        have hjl : j < x.length := (List.getElem?_eq_some_iff.1 hj).1
        rw [Go.WideShapes.add_plain, h5 j hjl]
        simp [List.getD, hj])
      show (Extern.Bytes.loadBytes ⟨b, off, none⟩ x.length .empty).run P w = _
      rw [this]
      simp [ByteArray.empty, ByteArray.emptyWithCapacity]
      rfl

theorem run_compareBytes {P : Program} {w : World} {u v : Value} {x y : List Int} (h : Sl .u8 w u x) (h' : Sl .u8 w v y) (hx : ∀ z ∈ x, 0 ≤ z ∧ z ≤ 255) (hy : ∀ z ∈ y, 0 ≤ z ∧ z ≤ 255) :
    (Extern.BytealgCompare.compare #[u, v]).run P w = .ok (.int .i64 (cmpI x y)) w := by
  change Sem.run P (do pure (goInt (Extern.BytealgCompare.cmp (← Extern.Bytes.bytesOf u) (← Extern.Bytes.bytesOf v)))) w = _
  simp only [Sem.run_bind, h.bytesOf, h'.bytesOf, Sem.run_pure, Result.andThen]
  rw [Go.Lib.cmp_eq]
  simp only [cmpI_bytes x y hx hy]
  rfl
end Go.Proofs.Ytinnfcjkgddfeaa

/- A row of numbers again and again. Plain numbers, no conditions. -/
namespace Go.Proofs.Ytinnfcjkgddfeaa
set_option linter.unusedVariables false
set_option linter.unusedSimpArgs false

def repI (x : List Int) (n : Nat) : List Int := (List.replicate n x).flatten

theorem repI_zero (x : List Int) : repI x 0 = [] := rfl
theorem repI_succ (x : List Int) (n : Nat) : repI x (n + 1) = repI x n ++ x := by
  unfold repI
  rw [List.replicate_succ', List.flatten_append]
  simp
theorem repI_cons (x : List Int) (n : Nat) : repI x (n + 1) = x ++ repI x n := by
  unfold repI
  rw [List.replicate_succ, List.flatten_cons]
theorem repI_len (x : List Int) (n : Nat) : (repI x n).length = n * x.length := by
  induction n with
  | zero => simp [repI]
  | succ n ih => rw [repI_succ, List.length_append, ih, Nat.succ_mul]
theorem repI_at (x : List Int) (n k : Nat) (h : k < n * x.length) : (repI x n).getD k 0 = x.getD (k % x.length) 0 := by
  induction n generalizing k with
  | zero => omega
  | succ n ih =>
    rw [repI_cons]
    by_cases hk : k < x.length
    · rw [Nat.mod_eq_of_lt hk]
      simp only [List.getD_eq_getElem?_getD]
      rw [List.getElem?_append_left hk]
    · have e : k % x.length = (k - x.length) % x.length := Nat.mod_eq_sub_mod (by omega)
      rw [e, ← ih (k - x.length) (by rw [Nat.succ_mul] at h; omega)]
      simp only [List.getD_eq_getElem?_getD]
      rw [List.getElem?_append_right (by omega)]
theorem getD_ext {x y : List Int} (hl : x.length = y.length) (h : ∀ k, k < x.length → x.getD k 0 = y.getD k 0) : x = y := by
  refine List.ext_getElem hl fun k h1 h2 => ?_
  have := h k h1
  simpa [List.getD, List.getElem?_eq_getElem h1, List.getElem?_eq_getElem h2] using this
/-- Rotations of a row again and again are the same, a row apart. -/
theorem turnI_rep (x : List Int) (n i : Nat) (hi : i < n * x.length) : turnI (repI x n) i = turnI (repI x n) ((i + x.length) % (n * x.length)) := by
  have hN := repI_len x n
  have hj : (i + x.length) % (n * x.length) < n * x.length := Nat.mod_lt _ (by omega)
  have hm : 0 < x.length := Nat.pos_of_ne_zero fun h => by rw [h] at hi; omega
  refine getD_ext (by rw [turnI_len (by omega), turnI_len (by omega)]) fun k hk => ?_
  rw [turnI_len (by omega), hN] at hk
  rw [turnI_at (by omega) (by omega), turnI_at (by omega) (by omega), hN, repI_at _ _ _ (Nat.mod_lt _ (by omega)), repI_at _ _ _ (Nat.mod_lt _ (by omega))]
  congr 1
  rw [Nat.mod_add_mod, Nat.mod_mul_left_mod, Nat.mod_mul_left_mod, show i + x.length + k = i + k + x.length by omega, Nat.add_mod_right]

theorem take_ext_succ {x y : List Int} {k : Nat} (h1 : k < x.length) (h2 : k < y.length) (h : x.take k = y.take k) (he : x.getD k 0 = y.getD k 0) : x.take (k + 1) = y.take (k + 1) := by
  rw [List.take_add_one, List.take_add_one, h]
  simp only [List.getD_eq_getElem?_getD, List.getElem?_eq_getElem h1, List.getElem?_eq_getElem h2, Option.getD_some] at he
  rw [List.getElem?_eq_getElem h1, List.getElem?_eq_getElem h2, he]
end Go.Proofs.Ytinnfcjkgddfeaa

/- Texts that are less than all their endings, and the row of such that a text is. Plain numbers, no conditions. -/
namespace Go.Proofs.Ytinnfcjkgddfeaa
set_option linter.unusedVariables false
set_option linter.unusedSimpArgs false

/-- Less: at a first other place, or by its end. -/
theorem cmpI_neg : ∀ (x y : List Int), cmpI x y < 0 ↔ ∃ j, j < y.length ∧ j ≤ x.length ∧ (∀ k, k < j → x.getD k 0 = y.getD k 0) ∧ (j = x.length ∨ x.getD j 0 < y.getD j 0)
  | [], [] => by simp [cmpI]
  | [], b :: y => ⟨fun _ => ⟨0, by simp, by simp, fun k hk => by omega, .inl rfl⟩, fun _ => by simp [cmpI]⟩
  | a :: x, [] => by simp [cmpI]
  | a :: x, b :: y => by
    have ih := cmpI_neg x y
    simp only [cmpI]
    by_cases h1 : a < b
    · rw [if_pos h1]
      exact ⟨fun _ => ⟨0, by simp, by simp, fun k hk => by omega, .inr (by simpa using h1)⟩, fun _ => by decide⟩
    · rw [if_neg h1]
      by_cases h2 : b < a
      · rw [if_pos h2]
        refine ⟨fun h => by omega, fun ⟨j, _, _, h3, h4⟩ => ?_⟩
        cases j with
        | zero =>
          rcases h4 with h4 | h4
          · simp at h4
          · simp at h4; omega
        | succ j => have := h3 0 (by omega); simp at this; omega
      · rw [if_neg h2, ih]
        have e : a = b := by omega
        subst e
        constructor
        · rintro ⟨j, g1, g2, g3, g4⟩
          refine ⟨j + 1, by simp; omega, by simp; omega, fun k hk => ?_, ?_⟩
          · cases k with
            | zero => simp
            | succ k => simpa using g3 k (by omega)
          · rcases g4 with g4 | g4
            · exact .inl (by simp [g4])
            · exact .inr (by simpa using g4)
        · rintro ⟨j, g1, g2, g3, g4⟩
          cases j with
          | zero =>
            rcases g4 with g4 | g4
            · simp at g4
            · simp at g4
          | succ j =>
            refine ⟨j, by simpa using g1, by simpa using g2, fun k hk => by simpa using g3 (k + 1) (by omega), ?_⟩
            rcases g4 with g4 | g4
            · exact .inl (by simpa using g4)
            · exact .inr (by simpa using g4)

theorem cmpI_lt_le {x y z : List Int} (h : cmpI x y < 0) (h' : cmpI y z ≤ 0) : cmpI x z < 0 := by
  have h1 := cmpI_trans x y z (by omega) h'
  by_cases h2 : cmpI x z = 0
  · have := cmpI_zero h2
    subst this
    have := cmpI_swap x y
    omega
  · omega
theorem cmpI_le_lt {x y z : List Int} (h : cmpI x y ≤ 0) (h' : cmpI y z < 0) : cmpI x z < 0 := by
  have h1 := cmpI_trans x y z h (by omega)
  by_cases h2 : cmpI x z = 0
  · have := cmpI_zero h2
    subst this
    have := cmpI_swap x y
    omega
  · omega
theorem cmpI_ge {x y : List Int} (h : ¬ cmpI x y < 0) : cmpI y x ≤ 0 := by
  have := cmpI_swap x y
  omega
theorem cmpI_app (p x y : List Int) : cmpI (p ++ x) (p ++ y) = cmpI x y := by
  induction p with
  | nil => rfl
  | cons a p ih => rw [List.cons_append, List.cons_append, cmpI, if_neg (by omega), if_neg (by omega), ih]
theorem cmpI_pre (x y : List Int) : cmpI x (x ++ y) ≤ 0 := by
  have h := cmpI_app x [] y
  rw [List.append_nil] at h
  rw [h]
  cases y <;> simp [cmpI]
theorem cmpI_pre_lt (x : List Int) {y : List Int} (hy : y ≠ []) : cmpI x (x ++ y) < 0 := by
  have h := cmpI_app x [] y
  rw [List.append_nil] at h
  rw [h]
  cases y with
  | nil => exact absurd rfl hy
  | cons b y => simp [cmpI]

theorem getD_left {x y : List Int} {k : Nat} (h : k < x.length) : (x ++ y).getD k 0 = x.getD k 0 := by
  simp only [List.getD_eq_getElem?_getD]
  rw [List.getElem?_append_left h]
theorem getD_right {x y : List Int} (k : Nat) : (x ++ y).getD (x.length + k) 0 = y.getD k 0 := by
  simp only [List.getD_eq_getElem?_getD]
  rw [List.getElem?_append_right (by omega)]
  congr 2; omega
theorem getD_drop (x : List Int) (i k : Nat) : (x.drop i).getD k 0 = x.getD (i + k) 0 := by
  simp only [List.getD_eq_getElem?_getD, List.getElem?_drop]
theorem getD_take {x : List Int} {n k : Nat} (h : k < n) : (x.take n).getD k 0 = x.getD k 0 := by
  simp only [List.getD_eq_getElem?_getD, List.getElem?_take]
  rw [if_pos h]

/-- Less than all its endings. -/
abbrev Lyn (s : List Int) : Prop := s.length ≠ 0 ∧ ∀ i, i < s.length → 1 ≤ i → cmpI s (s.drop i) < 0

def lynB (s : List Int) : Bool := decide (Lyn s)
theorem lynB_true {s : List Int} (h : Lyn s) : lynB s = true := decide_eq_true h
theorem lynB_false {s : List Int} (h : ¬ Lyn s) : lynB s = false := decide_eq_false h

/-- The first n of a row: less than all their endings, place by place. -/
def LynF (f : Nat → Int) (n : Nat) : Prop := 1 ≤ n ∧ ∀ i, 1 ≤ i → i < n → ∃ j, i + j < n ∧ (∀ k, k < j → f k = f (i + k)) ∧ f j < f (i + j)

theorem LynF.congr {f g : Nat → Int} {n : Nat} (h : LynF f n) (he : ∀ k, k < n → f k = g k) : LynF g n := by
  refine ⟨h.1, fun i h1 h2 => ?_⟩
  obtain ⟨j, g1, g2, g3⟩ := h.2 i h1 h2
  refine ⟨j, g1, fun k hk => ?_, ?_⟩
  · rw [← he k (by omega), ← he (i + k) (by omega)]; exact g2 k hk
  · rw [← he j (by omega), ← he (i + j) g1]; exact g3

theorem lyn_iff (s : List Int) : Lyn s ↔ LynF (fun k => s.getD k 0) s.length := by
  unfold Lyn LynF
  refine and_congr (by omega) ⟨fun h i h1 h2 => ?_, fun h i h2 h1 => ?_⟩
  · obtain ⟨j, g1, g2, g3, g4⟩ := (cmpI_neg _ _).1 (h i h2 h1)
    rw [List.length_drop] at g1
    refine ⟨j, by omega, fun k hk => ?_, ?_⟩
    · have := g3 k hk; rwa [getD_drop] at this
    · rcases g4 with g4 | g4
      · omega
      · rwa [getD_drop] at g4
  · obtain ⟨j, g1, g2, g3⟩ := h i h1 h2
    refine (cmpI_neg _ _).2 ⟨j, by rw [List.length_drop]; omega, by omega, fun k hk => ?_, .inr ?_⟩
    · rw [getD_drop]; exact g2 k hk
    · rw [getD_drop]; exact g3

theorem lyn_take {s : List Int} {n : Nat} (hn : n ≤ s.length) : Lyn (s.take n) ↔ LynF (fun k => s.getD k 0) n := by
  have hl : (s.take n).length = n := by simp; omega
  rw [lyn_iff, hl]
  exact ⟨fun h => h.congr fun k hk => getD_take hk, fun h => h.congr fun k hk => (getD_take hk).symm⟩

/-- The longest beginning that is one. -/
def downI (s : List Int) : Nat → Nat
  | 0 => 0
  | n + 1 => if Lyn (s.take (n + 1)) then n + 1 else downI s n
def longI (s : List Int) : Nat := downI s s.length
def facF : Nat → List Int → List Int
  | 0, _ => []
  | f + 1, s => if s.length = 0 then [] else (longI s : Int) :: facF f (s.drop (longI s))
/-- The lengths of the longest ones, one behind the other. -/
def facL (s : List Int) : List Int := facF s.length s

structure Long (s : List Int) (n : Nat) : Prop where
  pos : 1 ≤ n
  le : n ≤ s.length
  lyn : Lyn (s.take n)
  none : ∀ m, n < m → m ≤ s.length → ¬ Lyn (s.take m)

theorem Long.unique {s : List Int} {n m : Nat} (h : Long s n) (h' : Long s m) : n = m := by
  rcases Nat.lt_trichotomy n m with g | g | g
  · exact absurd h'.lyn (h.none m g h'.le)
  · exact g
  · exact absurd h.lyn (h'.none n g h.le)

theorem lyn_one {s : List Int} (h : s.length ≠ 0) : Lyn (s.take 1) := by
  rw [lyn_take (by omega)]
  exact ⟨Nat.le_refl _, fun i h1 h2 => by omega⟩

theorem downI_spec (s : List Int) : ∀ n, 1 ≤ n → n ≤ s.length → 1 ≤ downI s n ∧ downI s n ≤ n ∧ Lyn (s.take (downI s n)) ∧ ∀ m, downI s n < m → m ≤ n → ¬ Lyn (s.take m)
  | 0, h, _ => by omega
  | n + 1, _, hn => by
    unfold downI
    by_cases h : Lyn (s.take (n + 1))
    · rw [if_pos h]; exact ⟨by omega, Nat.le_refl _, h, fun m _ _ => by omega⟩
    · rw [if_neg h]
      by_cases h0 : n = 0
      · subst h0; exact absurd (lyn_one (by omega)) h
      · obtain ⟨h1, h2, h3, h4⟩ := downI_spec s n (by omega) (by omega)
        refine ⟨h1, by omega, h3, fun m g1 g2 => ?_⟩
        by_cases e : m = n + 1
        · subst e; exact h
        · exact h4 m g1 (by omega)
theorem longI_spec {s : List Int} (h : s.length ≠ 0) : Long s (longI s) := by
  obtain ⟨h1, h2, h3, h4⟩ := downI_spec s s.length (by omega) (Nat.le_refl _)
  exact ⟨h1, h2, h3, h4⟩
theorem longI_eq {s : List Int} {n : Nat} (h : Long s n) : longI s = n := (longI_spec (by have := h.pos; have := h.le; omega)).unique h
theorem lyn_longI {s : List Int} (h : s.length ≠ 0) : Lyn s ↔ longI s = s.length := by
  have hl := longI_spec h
  constructor
  · intro g
    refine longI_eq ⟨by omega, Nat.le_refl _, by rw [List.take_length]; exact g, fun m g1 g2 => by omega⟩
  · intro g
    have := hl.lyn
    rwa [g, List.take_length] at this

theorem facF_more : ∀ (f : Nat) (s : List Int), s.length ≤ f → facF f s = facF s.length s := by
  intro f
  induction f using Nat.strongRecOn with
  | ind f ih =>
    intro s hs
    cases f with
    | zero => have : s.length = 0 := by omega
              rw [this]
    | succ f =>
      by_cases h0 : s.length = 0
      · rw [h0]; simp [facF, h0]
      · have hl := longI_spec h0
        obtain ⟨m, hm⟩ : ∃ m, s.length = m + 1 := ⟨s.length - 1, by omega⟩
        have hp := hl.pos
        rw [hm]
        simp only [facF, if_neg h0]
        rw [ih f (by omega) (s.drop (longI s)) (by rw [List.length_drop]; omega), ih m (by omega) (s.drop (longI s)) (by rw [List.length_drop]; omega)]
theorem facL_nil {s : List Int} (h : s.length = 0) : facL s = [] := by
  unfold facL; rw [h]; rfl
theorem facL_cons {s : List Int} (h : s.length ≠ 0) : facL s = (longI s : Int) :: facL (s.drop (longI s)) := by
  have hp := (longI_spec h).pos
  obtain ⟨m, hm⟩ : ∃ m, s.length = m + 1 := ⟨s.length - 1, by omega⟩
  unfold facL
  rw [hm]
  simp only [facF, if_neg h]
  rw [facF_more m _ (by rw [List.length_drop]; omega)]
theorem facL_len : ∀ (n : Nat) (s : List Int), s.length ≤ n → (facL s).length ≤ s.length := by
  intro n
  induction n with
  | zero => intro s hs; rw [facL_nil (by omega)]; simp
  | succ n ih =>
    intro s hs
    by_cases h : s.length = 0
    · rw [facL_nil h]; simp
    · have hp := (longI_spec h).pos
      have hd : (s.drop (longI s)).length = s.length - longI s := List.length_drop
      rw [facL_cons h, List.length_cons]
      have := ih (s.drop (longI s)) (by omega)
      omega

/-- What the search keeps: the first e are the first L, which are less than all their endings, again and again, and a beginning of them. -/
structure Duv (s : List Int) (L e : Nat) : Prop where
  pos : 1 ≤ L
  le : L ≤ e
  len : e ≤ s.length
  lyn : LynF (fun k => s.getD k 0) L
  per : ∀ i, L ≤ i → i < e → s.getD i 0 = s.getD (i - L) 0

theorem Duv.start {s : List Int} (h : s.length ≠ 0) : Duv s 1 1 :=
  ⟨Nat.le_refl _, Nat.le_refl _, by omega, ⟨Nat.le_refl _, fun i h1 h2 => by omega⟩, fun i h1 h2 => by omega⟩
theorem Duv.same {s : List Int} {L e : Nat} (h : Duv s L e) (he : e < s.length) (hs : s.getD (e - L) 0 = s.getD e 0) : Duv s L (e + 1) := by
  refine ⟨h.pos, by have := h.le; omega, he, h.lyn, fun i h1 h2 => ?_⟩
  by_cases g : i = e
  · subst g; exact hs.symm
  · exact h.per i h1 (by omega)
theorem Duv.mod {s : List Int} {L e : Nat} (h : Duv s L e) : ∀ i, i < e → s.getD i 0 = s.getD (i % L) 0 := by
  intro i
  induction i using Nat.strongRecOn with
  | ind i ih =>
    intro hi
    by_cases g : i < L
    · rw [Nat.mod_eq_of_lt g]
    · have hp := h.pos
      rw [h.per i (by omega) hi, ih (i - L) (by omega) (by omega), Nat.mod_eq_sub_mod (by omega : L ≤ i)]
theorem Duv.grow {s : List Int} {L e : Nat} (h : Duv s L e) (he : e < s.length) (hs : s.getD (e - L) 0 < s.getD e 0) : Duv s (e + 1) (e + 1) := by
  have hp := h.pos
  have hle := h.le
  have hm : s.getD (e - L) 0 = s.getD (e % L) 0 := by rw [h.mod (e - L) (by omega), ← Nat.mod_eq_sub_mod (by omega : L ≤ e)]
  refine ⟨by omega, Nat.le_refl _, he, ⟨by omega, fun i h1 h2 => ?_⟩, fun i h1 h2 => by omega⟩
  show ∃ j, i + j < e + 1 ∧ (∀ k, k < j → s.getD k 0 = s.getD (i + k) 0) ∧ s.getD j 0 < s.getD (i + j) 0
  by_cases hr : i % L = 0
  · have hmm : ∀ k, (i + k) % L = k % L := fun k => by rw [Nat.add_mod, hr, Nat.zero_add, Nat.mod_mod]
    refine ⟨e - i, by omega, fun k hk => ?_, ?_⟩
    · rw [h.mod k (by omega), h.mod (i + k) (by omega), hmm]
    · have : (e - i) % L = e % L := by
        have := hmm (e - i)
        rw [show i + (e - i) = e by omega] at this
        exact this.symm
      rw [h.mod (e - i) (by omega), this, ← hm, show i + (e - i) = e by omega]
      exact hs
  · have hrl : i % L < L := Nat.mod_lt _ (by omega)
    obtain ⟨j, g1, g2, g3⟩ := h.lyn.2 (i % L) (by omega) hrl
    have g2 : ∀ k, k < j → s.getD k 0 = s.getD (i % L + k) 0 := g2
    have g3 : s.getD j 0 < s.getD (i % L + j) 0 := g3
    have hk : ∀ k, k ≤ j → (i + k) % L = i % L + k := fun k hk => by rw [Nat.add_mod, Nat.add_mod_mod, Nat.mod_eq_of_lt (by omega)]
    by_cases hij : i + j < e
    · refine ⟨j, by omega, fun k hkj => ?_, ?_⟩
      · rw [h.mod (i + k) (by omega), hk k (by omega)]; exact g2 k hkj
      · rw [h.mod (i + j) hij, hk j (Nat.le_refl _)]; exact g3
    · refine ⟨e - i, by omega, fun k hkj => ?_, ?_⟩
      · rw [h.mod (i + k) (by omega), hk k (by omega)]; exact g2 k (by omega)
      · have e1 := hk (e - i) (by omega)
        rw [show i + (e - i) = e by omega] at e1 ⊢
        have e2 : s.getD (e - i) 0 ≤ s.getD (i % L + (e - i)) 0 := by
          by_cases g : e - i = j
          · rw [g]; omega
          · have := g2 (e - i) (by omega); omega
        rw [← e1, ← hm] at e2
        omega

/-- Where it stops. -/
def Stop (s : List Int) (L e : Nat) : Prop := e = s.length ∨ (e < s.length ∧ s.getD e 0 < s.getD (e - L) 0)

theorem Duv.long {s : List Int} {L e : Nat} (h : Duv s L e) (hs : Stop s L e) : longI s = L := by
  have hp := h.pos
  have hle := h.le
  have hlen := h.len
  refine longI_eq ⟨hp, by omega, (lyn_take (by omega)).2 h.lyn, fun m h1 h2 hl => ?_⟩
  obtain ⟨j, g1, g2, g3⟩ := ((lyn_take h2).1 hl).2 L hp h1
  have g2 : ∀ k, k < j → s.getD k 0 = s.getD (L + k) 0 := g2
  have g3 : s.getD j 0 < s.getD (L + j) 0 := g3
  by_cases hj : L + j < e
  · have := h.per (L + j) (by omega) hj
    rw [show L + j - L = j by omega] at this
    omega
  · rcases hs with hs | ⟨_, hs⟩
    · omega
    · by_cases hj2 : L + j = e
      · rw [hj2] at g3
        rw [show e - L = j by omega] at hs
        omega
      · have := g2 (e - L) (by omega)
        rw [show L + (e - L) = e by omega] at this
        omega
theorem Duv.fac {L : Nat} : ∀ (t : Nat) (s : List Int) (e : Nat), Duv s L e → Stop s L e → e / L = t → facL s = List.replicate t (L : Int) ++ facL (s.drop (L * t)) := by
  intro t
  induction t with
  | zero =>
    intro s e h hs ht
    have hp := h.pos
    have hle := h.le
    have := Nat.div_pos hle (by omega)
    omega
  | succ t ih =>
    intro s e h hs ht
    have hp := h.pos
    have hle := h.le
    have hlen := h.len
    rw [facL_cons (by omega), h.long hs, List.replicate_succ, List.cons_append]
    congr 1
    by_cases h0 : t = 0
    · subst h0; simp
    · have ht2 : (e - L) / L = t := by have := Nat.div_eq_sub_div (show 0 < L by omega) hle; omega
      have h2 : L ≤ e - L := by
        rcases Nat.lt_or_ge (e - L) L with g | g
        · rw [Nat.div_eq_of_lt g] at ht2; omega
        · exact g
      have hl : (s.drop L).length = s.length - L := List.length_drop
      have hd : Duv (s.drop L) L (e - L) := by
        refine ⟨hp, h2, by omega, h.lyn.congr fun k hk => ?_, fun i h1 h3 => ?_⟩
        · show s.getD k 0 = (s.drop L).getD k 0
          rw [getD_drop, h.per (L + k) (by omega) (by omega)]
          congr 1; omega
        · rw [getD_drop, getD_drop, h.per (L + i) (by omega) (by omega)]
          congr 1; omega
      have hs2 : Stop (s.drop L) L (e - L) := by
        rcases hs with hs | ⟨hs1, hs⟩
        · exact .inl (by omega)
        · refine .inr ⟨by omega, ?_⟩
          rw [getD_drop, getD_drop, show L + (e - L) = e by omega, show L + (e - L - L) = e - L by omega]
          exact hs
      rw [ih (s.drop L) (e - L) hd hs2 ht2, List.drop_drop]
      congr 3
      rw [Nat.mul_succ, Nat.add_comm]

/-- Of two that are, the less one first, is one. -/
theorem lyn_join {u v : List Int} (hu : Lyn u) (hv : Lyn v) (h : cmpI u v < 0) : Lyn (u ++ v) := by
  have hul := hu.1
  have hvl := hv.1
  have hmid : cmpI (u ++ v) v < 0 := by
    obtain ⟨j, g1, g2, g3, g4⟩ := (cmpI_neg _ _).1 h
    by_cases hj : j < u.length
    · rcases g4 with g4 | g4
      · omega
      · refine (cmpI_neg _ _).2 ⟨j, g1, by rw [List.length_append]; omega, fun k hk => ?_, .inr ?_⟩
        · rw [getD_left (by omega)]; exact g3 k hk
        · rw [getD_left hj]; exact g4
    · have hj : j = u.length := by omega
      subst hj
      have hpre : v = u ++ v.drop u.length := by
        conv => lhs; rw [← List.take_append_drop u.length v]
        congr 1
        refine (getD_ext (by simp; omega) fun k hk => ?_).symm
        rw [getD_take hk]; exact g3 k hk
      conv => lhs; rhs; rw [hpre]
      rw [cmpI_app]
      exact hv.2 u.length g1 (by omega)
  refine ⟨by rw [List.length_append]; omega, fun i h1 h2 => ?_⟩
  rw [List.length_append] at h1
  rcases Nat.lt_trichotomy i u.length with g | g | g
  · obtain ⟨j, g1, g2, g3⟩ := ((lyn_iff u).1 hu).2 i h2 g
    refine (cmpI_neg _ _).2 ⟨j, by rw [List.length_drop, List.length_append]; omega, by rw [List.length_append]; omega, fun k hk => ?_, .inr ?_⟩
    · rw [getD_drop, getD_left (by omega), getD_left (by omega)]; exact g2 k hk
    · rw [getD_drop, getD_left (by omega), getD_left (by omega)]; exact g3
  · subst g
    rw [List.drop_left]
    exact hmid
  · have e : (u ++ v).drop i = v.drop (i - u.length) := by
      rw [List.drop_append]
      simp
      omega
    rw [e]
    exact cmpI_lt_le hmid (by have := hv.2 (i - u.length) (by omega) (by omega); omega)

/-- None is less than the next. -/
theorem falls {s : List Int} (h : s.length ≠ 0) (h' : (s.drop (longI s)).length ≠ 0) :
    ¬ cmpI (s.take (longI s)) ((s.drop (longI s)).take (longI (s.drop (longI s)))) < 0 := by
  intro hc
  have h1 := longI_spec h
  have h2 := longI_spec h'
  have hj := lyn_join h1.lyn h2.lyn hc
  have hl : (s.drop (longI s)).length = s.length - longI s := List.length_drop
  have hp := h2.pos
  have hle := h2.le
  have hle1 := h1.le
  refine h1.none (longI s + longI (s.drop (longI s))) (by omega) (by omega) ?_
  rw [List.take_add]
  exact hj

theorem long_pair {u v : List Int} (hu : Lyn u) (hv : Lyn v) (h : ¬ cmpI u v < 0) : longI (u ++ v) = u.length := by
  have hul := hu.1
  refine longI_eq ⟨by omega, by rw [List.length_append]; omega, by rw [List.take_left]; exact hu, fun m h1 h2 hl => ?_⟩
  rw [List.length_append] at h2
  have e1 : (u ++ v).take m = u ++ v.take (m - u.length) := by
    rw [List.take_append, List.take_of_length_le (by omega)]
  rw [e1] at hl
  have hz : v.take (m - u.length) ≠ [] := by
    intro g
    have := congrArg List.length g
    rw [List.length_take, List.length_nil] at this
    omega
  have a1 : cmpI (u ++ v.take (m - u.length)) (v.take (m - u.length)) < 0 := by
    have := hl.2 u.length (by rw [List.length_append, List.length_take]; omega) (by omega)
    rwa [List.drop_left] at this
  have a2 : cmpI (v.take (m - u.length)) v ≤ 0 := by
    have := cmpI_pre (v.take (m - u.length)) (v.drop (m - u.length))
    rwa [List.take_append_drop] at this
  have a3 := cmpI_ge h
  have a4 := cmpI_pre_lt u hz
  have a5 := cmpI_lt_le (cmpI_lt_le (cmpI_lt_le a1 a2) a3) (by omega : cmpI u (u ++ v.take (m - u.length)) ≤ 0)
  rw [cmpI_self] at a5
  omega

theorem facL_lyn {s : List Int} (h : Lyn s) : facL s = [(s.length : Int)] := by
  rw [facL_cons h.1, (lyn_longI h.1).1 h, List.drop_length]
  rfl
theorem facL_pair {u v : List Int} (hu : Lyn u) (hv : Lyn v) (h : ¬ cmpI u v < 0) : facL (u ++ v) = [(u.length : Int), (v.length : Int)] := by
  rw [facL_cons (by rw [List.length_append]; have := hu.1; omega), long_pair hu hv h, List.drop_left, facL_lyn hv]
theorem lyn_pair {u v : List Int} (hu : Lyn u) (hv : Lyn v) : Lyn (u ++ v) ↔ cmpI u v < 0 := by
  refine ⟨fun h => ?_, lyn_join hu hv⟩
  refine Classical.byContradiction fun g => ?_
  have h1 := long_pair hu hv g
  rw [(lyn_longI h.1).1 h, List.length_append] at h1
  have := hv.1
  omega
theorem facL_join {u v : List Int} (hu : Lyn u) (hv : Lyn v) : (facL (u ++ v)).length = if cmpI u v < 0 then 1 else 2 := by
  by_cases h : cmpI u v < 0
  · rw [if_pos h, facL_lyn (lyn_join hu hv h)]; rfl
  · rw [if_neg h, facL_pair hu hv h]; rfl

/-- Again and again. -/
theorem facL_rep {x : List Int} {n : Nat} (hx : x.length ≠ 0) (hn : 1 ≤ n) : facL (repI x n) = List.replicate n (x.length : Int) ↔ Lyn x := by
  have hN := repI_len x n
  have hge : x.length ≤ n * x.length := Nat.le_mul_of_pos_left _ (by omega)
  have htk : (repI x n).take x.length = x := by
    refine getD_ext (by simp; omega) fun k hk => ?_
    have hk' : k < x.length := by simp at hk; omega
    rw [getD_take hk', repI_at x n k (by omega), Nat.mod_eq_of_lt hk']
  constructor
  · intro h
    obtain ⟨m, rfl⟩ : ∃ m, n = m + 1 := ⟨n - 1, by omega⟩
    rw [facL_cons (by omega), List.replicate_succ] at h
    have hh := (List.cons.inj h).1
    have := (longI_spec (s := repI x (m + 1)) (by omega)).lyn
    rw [show longI (repI x (m + 1)) = x.length by omega, htk] at this
    exact this
  · intro h
    have hd : Duv (repI x n) x.length (n * x.length) := by
      refine ⟨by omega, hge, by omega, (lyn_take (by omega)).1 (by rw [htk]; exact h), fun i h1 h2 => ?_⟩
      rw [repI_at x n i h2, repI_at x n (i - x.length) (by omega), ← Nat.mod_eq_sub_mod h1]
    have := Duv.fac n _ _ hd (.inl hN.symm) (Nat.mul_div_cancel _ (by omega))
    rw [this, List.drop_of_length_le (by rw [hN, Nat.mul_comm]; omega)]
    simp [facL, facF]

theorem ab_lyn : Lyn [97, 98] := by decide
theorem aa_lyn : ¬ Lyn [97, 97] := by decide
theorem nil_lyn : ¬ Lyn [] := by decide
theorem banana_fac : facL [98, 97, 110, 97, 110, 97] = [1, 2, 2, 1] := by decide
end Go.Proofs.Ytinnfcjkgddfeaa

/- All but one block as it was; slices cut. Over any program, no conditions. -/
namespace Go.Proofs.Ytinnfcjkgddfeaa
set_option linter.unusedVariables false
set_option linter.unusedSimpArgs false
open Go.RowKit

/-- All but block b is as it was. -/
abbrev But (b : Nat) (w w' : World) : Prop := w.grownBy w' (some b)

theorem But.refl (b : Nat) (w : World) : But b w w := ⟨rfl, rfl, rfl, Nat.le_refl _, fun _ _ _ => rfl⟩
theorem But.trans {b : Nat} {x y z : World} (h : But b x y) (k : But b y z) : But b x z :=
  ⟨k.os.trans h.os, k.tape.trans h.tape, k.output.trans h.output, Nat.le_trans h.size k.size, fun i hi hne => (k.block i (Nat.lt_of_lt_of_le hi h.size) hne).trans (h.block i hi hne)⟩
theorem But.setCell {b : Nat} {x w : World} (h : But b x w) (j : Nat) (v : Value) : But b x (w.setCell ⟨b, j, none⟩ v) :=
  h.trans ⟨rfl, rfl, rfl, by simp [World.setCell], fun k _ hne => Below.heap_setCell _ _ _ _ (fun e => hne (by rw [e]))⟩
theorem But.drew {b : Nat} {x w : World} (h : But b x w) : But b x w.drew := ⟨h.os, h.tape, h.output, h.size, h.block⟩
theorem But.ofExt {b : Nat} {w w' : World} (h : Ext w w') : But b w w' := ⟨h.os, h.tape, h.output, h.size, fun k hk _ => h.block k hk⟩
theorem But.below {b B : Nat} {w w' : World} (h : But b w w') (hB : B ≤ b) (hw : B ≤ w.heap.size) : Below B w w' :=
  ⟨h.os, h.tape, h.output, h.size, fun k hk => h.block k (by omega) (fun e => by simp at e; omega)⟩

theorem ext_alloc (w : World) (o : Obj) : Ext w (w.alloc o) := (Below.refl _ _).alloc (Nat.le_refl _) _

/-- From a world in which block b is new: all that was there is as it was. -/
theorem Ext.but {b : Nat} {w w1 w2 : World} (h : Ext w w1) (hb : w.heap.size ≤ b) (k : But b w1 w2) : Ext w w2 := Below.trans h (k.below hb h.size)

theorem heap_alloc_top (w : World) (o : Obj) : (w.alloc o).heap[w.heap.size]? = some o := heap_alloc_new w o

/-- A row just laid, whatever its mark, reads as its numbers. -/
theorem Sl.lit' {k : IntKind} {e : TypeId} {fr : Nat × Nat} (w : World) (zs : List Int) (n : Nat) (hn : zs.length = n) (hm : n ≤ maxLen) : Sl k (w.alloc (.cells (zs.map (Value.int k)).toArray e fr)) (.slice (some ⟨w.heap.size, 0, none⟩) n n) zs := by
  subst hn
  refine ⟨_, _, rfl, Nat.le_refl _, hm, (fun h => by cases h), .inr ⟨w.heap.size, 0, rfl, fun i hi => ?_⟩⟩
  simp only [World.cell?, heap_alloc_top]
  simp [hi]


theorem Ext.drewN (w : World) (n : Nat) : Ext w (w.drewN n) := ⟨rfl, rfl, rfl, Nat.le_refl _, fun _ _ => rfl⟩

theorem Sl.drewN {k : IntKind} {w : World} {v : Value} {zs : List Int} (h : Sl k w v zs) (n : Nat) : Sl k (w.drewN n) v zs := h.ext (Ext.drewN w n)

/-- A call that draws and turns nothing. -/
theorem toExt {P : Program} {f : FuncId} {args : Array Value} {w : World} {v : Ending} (h : Calls P f args w fun e w' => e = v ∧ ∃ m, w' = w.drewN m) : Calls P f args w fun e w' => e = v ∧ Ext w w' :=
  h.mono fun e w' ⟨h1, m, h2⟩ => ⟨h1, by rw [h2]; exact Ext.drewN _ _⟩

/-- 'string(s)', whatever was drawn. -/
theorem Sl.strN {P : Program} {w : World} {v : Value} {zs : List Int} (h : Sl .u8 w v zs) (src e dst : TypeId) (hs : P.underlying src = some (.slice e)) (he : P.underlying e = some (.int .u8)) (hd : P.underlying dst = some .string) :
    ∀ m, (convert src dst v).run P (w.drewN m) = .ok (.string (strOfNums zs)) (w.drewN m) := fun m => (h.drewN m).str src e dst hs he hd

theorem Sl.but' {k : IntKind} {w w' : World} {b : Nat} {v : Value} {zs : List Int} (h : Sl k w v zs) (hC : ∀ j x, w.cell? ⟨b, j, none⟩ ≠ some (.int k x)) (hB : But b w w') : Sl k w' v zs := by
  obtain ⟨a, c, h1, h2, h3, h0, h4⟩ := h
  refine ⟨a, c, h1, h2, h3, h0, ?_⟩
  rcases h4 with h4 | ⟨g, off, h4, h5⟩
  · exact .inl h4
  · refine .inr ⟨g, off, h4, fun i hi => hB.cell (h5 i hi) ?_⟩
    intro e
    simp only [Option.some.injEq] at e
    subst e
    exact hC _ _ (h5 i hi)

theorem Own.low {k : IntKind} {e : TypeId} {B B' : Nat} {w : World} {s : Value} {zs : List Int} (h : Own k e B w s zs) (hB : B' ≤ B) : Own k e B' w s zs := by
  obtain ⟨h1, h2⟩ := h
  refine ⟨h1, ?_⟩
  rcases h2 with h2 | ⟨g, cap, cur, h2, h3, h4⟩
  · exact .inl h2
  · exact .inr ⟨g, cap, cur, h2, Nat.le_trans hB h3, h4⟩

theorem Own.ext {k : IntKind} {e : TypeId} {B : Nat} {w w' : World} {s : Value} {zs : List Int} (h : Own k e B w s zs) (he : Ext w w') : Own k e B w' s zs :=
  World.ownsRow.kept (row := none) h ⟨he.os, he.tape, he.output, he.size, fun i hi _ => he.block i hi⟩ (by cases hv : s.ownBlock <;> simp)

/-- 's[:n]' -/
theorem Sl.runTake {P : Program} {k : IntKind} {w : World} {a : Option Addr} {len c : Nat} {zs : List Int} (h : Sl k w (.slice a len c) zs) (t e : TypeId) (ht : P.underlying t = some (.slice e)) (hz : ∀ w, (Go.sizeOf e).run P w = .ok 1 w) (n : Nat) (hn : n ≤ zs.length) :
    (∀ W, (Instr.slice t (.slice a len c) none (some (.int .i64 (n : Int))) none).run P W = .ok (.slice a n c) W) ∧ Sl k w (.slice a n c) (zs.take n) := by
  have hl : len = zs.length := by obtain ⟨a', c', h1, _⟩ := h; simp only [Value.slice.injEq] at h1; exact h1.2.1
  have hc : zs.length ≤ c := by obtain ⟨a', c', h1, h2, _⟩ := h; simp only [Value.slice.injEq] at h1; omega
  refine ⟨fun W => ?_, h.take' n (by omega)⟩
  have ht' : P.underlying t = some (.slice (P.elem t)) := by simp [Program.elem, ht]
  have he : P.elem t = e := by simp [Program.elem, ht]
  rw [run_slice_h W t _ _ _ ht' .i64 _ (by omega) (by omega), he, hz]
  have hs : sliced a 0 n c 1 = .slice a n c := by
    unfold sliced
    by_cases h0 : c = 0
    · simp [h0]
    · cases a <;> simp [h0, Addr.add]
  simp only [Result.andThen, Int.toNat_natCast, hs]

/-- 's[n:]' -/
theorem Sl.runDrop {P : Program} {k : IntKind} {w : World} {a : Option Addr} {len c : Nat} {zs : List Int} (h : Sl k w (.slice a len c) zs) (t e : TypeId) (ht : P.underlying t = some (.slice e)) (hz : ∀ w, (Go.sizeOf e).run P w = .ok 1 w) (n : Nat) (hn : n ≤ zs.length) :
    ∃ a', (∀ W, (Instr.slice t (.slice a len c) (some (.int .i64 (n : Int))) none none).run P W = .ok (.slice a' (len - n) (c - n)) W) ∧ Sl k w (.slice a' (len - n) (c - n)) (zs.drop n) ∧ ∀ x, a' = some x → ∃ y, a = some y ∧ x.block = y.block := by
  obtain ⟨a', c', h1, h2, h3, h4, h5⟩ := h
  simp only [Value.slice.injEq] at h1
  obtain ⟨rfl, rfl, rfl⟩ := h1
  have ht' : P.underlying t = some (.slice (P.elem t)) := by simp [Program.elem, ht]
  have he : P.elem t = e := by simp [Program.elem, ht]
  refine ⟨if c = n then a else a.map (·.add n), fun W => ?_, ?_, fun x hx => ?_⟩
  · rw [run_slice_l W t _ _ _ ht' .i64 _ (by omega) (by omega), he, hz]
    simp only [Result.andThen, Int.toNat_natCast, sliced, Nat.mul_one]
  · have hl : (zs.drop n).length = zs.length - n := List.length_drop
    refine ⟨_, c - n, by rw [hl], by omega, by omega, fun h => ?_, ?_⟩
    · by_cases hcn : c = n
      · omega
      · rw [if_neg hcn] at h
        cases a with
        | none => have := h4 rfl; omega
        | some a => cases h
    · by_cases hcn : n = zs.length
      · exact .inl (by rw [hcn]; simp)
      · rcases h5 with rfl | ⟨b, off, rfl, h6⟩
        · exact .inl (by simp)
        · refine .inr ⟨b, off + n, ?_, fun i hi => ?_⟩
          · rw [if_neg (by omega)]; simp [Addr.add]
          · rw [Nat.add_assoc, h6 (n + i) (by omega)]
            simp [List.getD, List.getElem?_drop]
  · split at hx
    · exact ⟨x, hx, rfl⟩
    · cases a with
      | none => cases hx
      | some y => simp only [Option.map_some, Option.some.injEq] at hx; exact ⟨y, rfl, by rw [← hx]; unfold Addr.add; split <;> rfl⟩

/-- 's[l:n]' -/
theorem Sl.runCut {P : Program} {k : IntKind} {w : World} {a : Option Addr} {len c : Nat} {zs : List Int} (h : Sl k w (.slice a len c) zs) (t e : TypeId) (ht : P.underlying t = some (.slice e)) (hz : ∀ w, (Go.sizeOf e).run P w = .ok 1 w) (l n : Nat) (hl : l ≤ n) (hn : n ≤ zs.length) :
    ∃ a', (∀ W, (Instr.slice t (.slice a len c) (some (.int .i64 (l : Int))) (some (.int .i64 (n : Int))) none).run P W = .ok (.slice a' (n - l) (c - l)) W) ∧ Sl k w (.slice a' (n - l) (c - l)) ((zs.take n).drop l) := by
  have hlen : len = zs.length := by obtain ⟨a', c', h1, _⟩ := h; simp only [Value.slice.injEq] at h1; exact h1.2.1
  have hc : zs.length ≤ c := by obtain ⟨a', c', h1, h2, _⟩ := h; simp only [Value.slice.injEq] at h1; omega
  have ht' : P.underlying t = some (.slice (P.elem t)) := by simp [Program.elem, ht]
  have he : P.elem t = e := by simp [Program.elem, ht]
  have hT := h.take' n (by omega)
  have hnl : (zs.take n).length = n := by simp; omega
  obtain ⟨a1, r1, s1, _⟩ := hT.runDrop (P := P) t e ht hz l (by rw [hnl]; exact hl)
  have hr : ∀ W, (Instr.slice t (.slice a len c) (some (.int .i64 (l : Int))) (some (.int .i64 (n : Int))) none).run P W = (Instr.slice t (.slice a n c) (some (.int .i64 (l : Int))) none none).run P W := by
    intro W
    rw [run_slice_lh W t _ _ _ ht' .i64 .i64 _ _ (by omega) (by omega) (by omega), run_slice_l W t _ _ _ ht' .i64 _ (by omega) (by omega)]
    simp only [Int.toNat_natCast]
  exact ⟨a1, fun W => (hr W).trans (r1 W), s1⟩
end Go.Proofs.Ytinnfcjkgddfeaa

/- Bytes: what each seat of the program says of its type, and slices of bytes read at a place. -/
namespace Go.Proofs.Ytinnfcjkgddfeaa
set_option linter.unusedVariables false
set_option linter.unusedSimpArgs false
open Go.RowKit

/-- Bytes. -/
def Bytes8 (zs : List Int) : Prop := ∀ z ∈ zs, 0 ≤ z ∧ z ≤ 255

theorem Bytes8.drop {zs : List Int} (h : Bytes8 zs) (m : Nat) : Bytes8 (zs.drop m) := fun z hz => h z (List.mem_of_mem_drop hz)
theorem Bytes8.takeN {zs : List Int} (h : Bytes8 zs) (m : Nat) : Bytes8 (zs.take m) := fun z hz => h z (List.mem_of_mem_take hz)
theorem Bytes8.app {xs ys : List Int} (h : Bytes8 xs) (h' : Bytes8 ys) : Bytes8 (xs ++ ys) := fun z hz => (List.mem_append.1 hz).elim (h z) (h' z)
theorem Bytes8.get {zs : List Int} (h : Bytes8 zs) (i : Nat) : 0 ≤ zs.getD i 0 ∧ zs.getD i 0 ≤ 255 := by
  by_cases hi : i < zs.length
  · rw [List.getD_eq_getElem?_getD, List.getElem?_eq_getElem hi]; exact h _ (List.getElem_mem hi)
  · rw [List.getD_eq_getElem?_getD, List.getElem?_eq_none (by omega)]; simp

theorem Sl.in {k : IntKind} {B : Nat} {w w' : World} {v : Value} {zs : List Int} (h : Sl k w v zs) (hl : zs = [] ∨ ∀ x n c, v = .slice (some x) n c → x.block < B) (hB : Below B w w') : Sl k w' v zs := by
  obtain ⟨a, c, rfl, h2, h3, h0, h4⟩ := h
  refine ⟨a, c, rfl, h2, h3, h0, ?_⟩
  rcases h4 with h4 | ⟨g, off, rfl, h5⟩
  · exact .inl h4
  · rcases hl with hl | hl
    · exact .inl hl
    · have hg : g < B := hl _ _ _ rfl
      exact .inr ⟨g, off, rfl, fun i hi => (hB.cell (p := ⟨g, off + i, none⟩) hg).trans (h5 i hi)⟩

theorem infoU8 : (Try.prog.info? 5).map (fun i => (i.zero, i.size, i.bytes)) = some (some (.int .u8 0), 1, 1) := by kernel_rfl

theorem size8 : ∀ w, (Go.sizeOf 5).run Try.prog w = .ok 1 w := by intro w; kernel_rfl

theorem Sl.at {k : IntKind} {w : World} {a : Option Addr} {n c : Nat} {zs : List Int} (h : Sl k w (.slice a n c) zs) (hn : zs ≠ []) : zs.length = n ∧ ∃ g off, a = some ⟨g, off, none⟩ ∧ ∀ i, i < n → w.cell? ⟨g, off + i, none⟩ = some (.int k (zs.getD i 0)) := by
  obtain ⟨a', c', h1, h2, h3, h4, h5⟩ := h
  simp only [Value.slice.injEq] at h1
  obtain ⟨rfl, rfl, rfl⟩ := h1
  rcases h5 with h5 | ⟨g, off, h5, h6⟩
  · exact absurd h5 hn
  · exact ⟨rfl, g, off, h5, h6⟩

theorem Sl.cellAt {k : IntKind} {w : World} {g off n c : Nat} {zs : List Int} (h : Sl k w (.slice (some ⟨g, off, none⟩) n c) zs) (i : Nat) (hi : i < n) : w.cell? ⟨g, off + i, none⟩ = some (.int k (zs.getD i 0)) := by
  obtain ⟨a', c', h1, h2, h3, h4, h5⟩ := h
  simp only [Value.slice.injEq] at h1
  obtain ⟨rfl, rfl, rfl⟩ := h1
  rcases h5 with h5 | ⟨g', off', h5, h6⟩
  · rw [h5] at hi; simp at hi
  · simp only [Option.some.injEq, Addr.mk.injEq, and_true] at h5
    obtain ⟨rfl, rfl⟩ := h5
    exact h6 i hi
end Go.Proofs.Ytinnfcjkgddfeaa

/- Rows of ints: what each seat says of the type, and 'make([]int, n)'. -/
namespace Go.Proofs.Ytinnfcjkgddfeaa
set_option linter.unusedVariables false
set_option linter.unusedSimpArgs false
open Go.RowKit

theorem infoI64 : (Try.prog.info? 3).map (fun i => (i.zero, i.size, i.bytes)) = some (some (.int .i64 0), 1, 8) := by kernel_rfl

theorem sizeI64 : ∀ w, (Go.sizeOf 3).run Try.prog w = .ok 1 w := by intro w; kernel_rfl

/-- 'make([]int, n)' -/
theorem make_intsB (w : World) (n : Nat) (hn : n ≤ 4000000) : ∃ w', (Instr.makeSlice 37 (.int .i64 (n : Int)) (.int .i64 (n : Int))).run Try.prog w = .ok (.slice (some ⟨w.heap.size, 0, none⟩) n n) w' ∧ Own .i64 3 w.heap.size w' (.slice (some ⟨w.heap.size, 0, none⟩) n n) (List.replicate n 0) ∧ Ext w w' := by
  obtain ⟨i0, hi, hz0, hz1, hz2⟩ := info_parts infoI64
  obtain ⟨w', h1, h2, h3⟩ := run_make_full (P := Try.prog) w w.heap.size 37 3 i0 (.int .i64 0) 1 Try.underlying37 hi hz0 hz1 .i64 .i64 n (by rw [hz2]; omega) (by unfold maxLen; omega) (Nat.le_refl _)
  refine ⟨w', h1, ?_, ⟨h3.os, h3.tape, h3.output, h3.size, fun k hk => h3.block k hk (by simp)⟩⟩
  unfold Own
  have e1 : (Value.int .i64 0).cells = #[Value.int .i64 0] := rfl
  rw [e1, Nat.mul_one, toList_madeCells_one] at h2
  rw [List.length_replicate, List.map_replicate]
  exact h2
theorem make_ints (w : World) (n : Nat) (hn : n ≤ 1000000) : ∃ w', (Instr.makeSlice 37 (.int .i64 (n : Int)) (.int .i64 (n : Int))).run Try.prog w = .ok (.slice (some ⟨w.heap.size, 0, none⟩) n n) w' ∧ Own .i64 3 w.heap.size w' (.slice (some ⟨w.heap.size, 0, none⟩) n n) (List.replicate n 0) ∧ Ext w w' := make_intsB w n (by omega)

/-- 'make([]int, 0, n)' -/
theorem make_roomI (w : World) (n : Nat) (hn : n ≤ 1000000) : ∃ w', (Instr.makeSlice 37 (.int .i64 0) (.int .i64 (n : Int))).run Try.prog w = .ok (.slice (some ⟨w.heap.size, 0, none⟩) 0 n) w' ∧ Own .i64 3 w.heap.size w' (.slice (some ⟨w.heap.size, 0, none⟩) 0 n) [] ∧ Ext w w' := by
  obtain ⟨i0, hi, hz0, hz1, hz2⟩ := info_parts infoI64
  obtain ⟨w', h1, h2, h3⟩ := run_make_own (P := Try.prog) w w.heap.size 37 3 i0 (.int .i64 0) 1 Try.underlying37 hi hz0 hz1 .i64 .i64 n (by rw [hz2]; omega) (by unfold maxLen; omega) (Nat.le_refl _)
  exact ⟨w', h1, h2, ⟨h3.os, h3.tape, h3.output, h3.size, fun k hk => h3.block k hk (by simp)⟩⟩
end Go.Proofs.Ytinnfcjkgddfeaa

/- Contracts of lyndon.leading and lyndon.Factors. -/
namespace Go.Proofs.Ytinnfcjkgddfeaa
set_option linter.unusedVariables false
set_option linter.unusedSimpArgs false
open Go.RowKit

/-- The first factor, and how many times in a row. -/
structure Lead (zs : List Int) (L t : Nat) : Prop where
  pos : 1 ≤ L
  times : 1 ≤ t
  le : L * t ≤ zs.length
  long : longI zs = L
  fac : facL zs = List.replicate t (L : Int) ++ facL (zs.drop (L * t))

theorem Duv.lead {s : List Int} {L e : Nat} (h : Duv s L e) (hs : Stop s L e) : Lead s L (e / L) := by
  have hp := h.pos
  have hle := h.le
  refine ⟨hp, Nat.div_pos hle (by omega), ?_, h.long hs, Duv.fac _ s e h hs rfl⟩
  exact Nat.le_trans (Nat.mul_div_le e L) h.len

set_option maxHeartbeats 400000 in
theorem leading_any (v : Value) (zs : List Int) (w : World) (hs : Sl .u8 w v zs) (h0 : zs.length ≠ 0) (hlen : zs.length ≤ 1000000) :
    Calls Try.prog 35 #[v] w fun e w' => ∃ L t : Nat, e = .returned (.tuple #[.int .i64 (L : Int), .int .i64 (t : Int)]) ∧ Lead zs L t ∧ ∃ m, w' = w.drewN m := by
  have hne : zs ≠ [] := fun h => by rw [h] at h0; simp at h0
  have HV := hide' hs
  obtain ⟨a, c, rfl, _⟩ := hs
  obtain ⟨n, hn⟩ : ∃ n, zs.length = n := ⟨_, rfl⟩
  rw [hn] at HV h0 hlen ⊢
  have HL := hide' hn
  obtain ⟨_, b1, o1, rfl, c1⟩ := HV.out.at hne
  have C1 := hide' c1
  clear c1 hne hn HV
  go_enter Try.func35, Try.ntmps35
  go_wp2
  go_loopw [2, 4] (fun vl ve wr => ∃ (L e : Nat), 1 ≤ L ∧ L ≤ e ∧ e ≤ n ∧ vl = .int .i64 L ∧ ve = .int .i64 e ∧ Hid (Duv zs L e) ∧ ∃ m, wr = w.drewN m) (fun _ ve _ => n - (intOf ve).toNat)
  case atStart => exact ⟨1, 1, Nat.le_refl _, Nat.le_refl _, by omega, rfl, rfl, (show Duv _ _ _ from Duv.start (by rw [HL.out]; exact h0)), 0, rfl⟩
  case round =>
    obtain ⟨L, e, hL, hLe, hen, rfl, rfl, HD, m, rfl⟩ := hrel
    by_cases hlt : e < n
    · have hlt' : (e : Int) < n := by omega
      have hsub : (e : Int) - (L : Int) = ((e - L : Nat) : Int) := by omega
      have ce := C1.out e hlt
      have cj := C1.out (e - L) (by omega)
      obtain ⟨p, HP⟩ : ∃ p, Hid (zs.getD (e - L) 0 = p) := ⟨_, rfl⟩
      obtain ⟨q, HQ⟩ : ∃ q, Hid (zs.getD e 0 = q) := ⟨_, rfl⟩
      rw [HP.out] at cj
      rw [HQ.out] at ce
      obtain ⟨J, hJ⟩ : ∃ j, e - L = j := ⟨_, rfl⟩
      rw [hJ] at hsub cj
      have hJn : (J : Int) < n := by omega
      by_cases hpq : p ≤ q
      · by_cases hpq2 : p < q
        · have HD2 : Hid (Duv zs (e + 1) (e + 1)) := HD.out.grow (by rw [HL.out]; exact hlt) (by rw [HP.out, HQ.out]; exact hpq2)
          go_wp2_with fail
          go_quiet (fail)
          go_wp2_with fail
          go_quiet (fail)
          go_wp2
          go_roundw
          case rel => exact ⟨e + 1, e + 1, by omega, Nat.le_refl _, by omega, by go_num, by go_num, HD2, _, by first | rfl | rw [World.drewN_drewN, World.drewN_drewN] | rw [World.drewN_drewN]⟩
          case measure => simp [intOf]; omega
        · have HD2 : Hid (Duv zs L (e + 1)) := HD.out.same (by rw [HL.out]; exact hlt) (by rw [HP.out, HQ.out]; omega)
          have d2 : decide (p < q) = false := by simpa using hpq2
          go_wp2_with fail
          go_quiet (fail)
          go_wp2_with fail
          go_quiet (fail)
          go_wp2
          go_roundw
          case rel => exact ⟨L, e + 1, hL, by omega, by omega, rfl, by go_num, HD2, _, by first | rfl | rw [World.drewN_drewN, World.drewN_drewN] | rw [World.drewN_drewN]⟩
          case measure => simp [intOf]; omega
      · have d1 : decide (p ≤ q) = false := by simpa using hpq
        have HLd : Hid (Lead zs L (e / L)) := HD.out.lead (.inr ⟨by rw [HL.out]; exact hlt, by rw [HP.out, HQ.out]; omega⟩)
        have hd1 : (e : Int).tdiv (L : Int) = ((e / L : Nat) : Int) := by rw [Int.tdiv_eq_ediv_of_nonneg (by omega)]; simp
        have hd2 : (e : Int) / (L : Int) = ((e / L : Nat) : Int) := by simp
        have hdl : e / L ≤ e := Nat.div_le_self _ _
        obtain ⟨t, HT⟩ : ∃ t, Hid (e / L = t) := ⟨_, rfl⟩
        rw [HT.out] at hd1 hd2 hdl HLd
        have lne : (L : Int) ≠ 0 := by omega
        have lq : ((L : Int) == 0) = false := by simpa using lne
        go_wp2_with fail
        go_quiet (fail)
        go_wp2_with fail
        go_quiet (fail)
        go_wp2
        go_ret2
        exact ⟨L, t, rfl, HLd.out, _, by first | rfl | rw [World.drewN_drewN, World.drewN_drewN] | rw [World.drewN_drewN]⟩
    · have hlt' : decide ((e : Int) < n) = false := by simp; omega
      have HLd : Hid (Lead zs L (e / L)) := HD.out.lead (.inl (by rw [HL.out]; omega))
      have hd1 : (e : Int).tdiv (L : Int) = ((e / L : Nat) : Int) := by rw [Int.tdiv_eq_ediv_of_nonneg (by omega)]; simp
      have hd2 : (e : Int) / (L : Int) = ((e / L : Nat) : Int) := by simp
      have hdl : e / L ≤ e := Nat.div_le_self _ _
      obtain ⟨t, HT⟩ : ∃ t, Hid (e / L = t) := ⟨_, rfl⟩
      rw [HT.out] at hd1 hd2 hdl HLd
      have lne : (L : Int) ≠ 0 := by omega
      have lq : ((L : Int) == 0) = false := by simpa using lne
      go_wp2_with fail
      go_quiet (fail)
      go_wp2_with fail
      go_quiet (fail)
      go_wp2
      go_ret2
      exact ⟨L, t, rfl, HLd.out, _, by first | rfl | rw [World.drewN_drewN, World.drewN_drewN] | rw [World.drewN_drewN]⟩

set_option maxHeartbeats 800000 in
theorem factors_any (v : Value) (zs : List Int) (w : World) (hs : Sl .u8 w v zs) (hlen : zs.length ≤ 1000000) :
    Calls Try.prog 25 #[v] w fun e w' => ∃ s, e = .returned s ∧ Own .i64 3 w.heap.size w' s (facL zs) ∧ Ext w w' := by
  have HS := hide' hs
  have HLN : Hid ((facL zs).length ≤ 1000000) := Nat.le_trans (facL_len _ zs (Nat.le_refl _)) hlen
  obtain ⟨N, HN⟩ : ∃ n, Hid (zs.length = n) := ⟨_, rfl⟩
  rw [HN.out] at hlen
  clear hs
  go_enter Try.func25, Try.ntmps25
  go_wp2
  go_loopw [0, 3] (fun vs vo wr => ∃ (k : Nat) (out : List Int), k ≤ N ∧ Hid (Sl .u8 w vs (zs.drop k)) ∧ Hid (Own .i64 3 w.heap.size wr vo out) ∧ Hid (out ++ facL (zs.drop k) = facL zs) ∧ Hid (Ext w wr)) (fun vs _ _ => match vs with | .slice _ n _ => n | _ => 0)
  case atStart => exact ⟨0, [], Nat.zero_le _, HS, Own.nil _ _ _ _, (show _ = _ by simp), Ext.refl _⟩
  case round =>
    obtain ⟨k, out, hk, HV, HO, HF, HE⟩ := hrel
    have hv := HV.out
    obtain ⟨a, c, rfl, _⟩ := hv
    have hdl : (zs.drop k).length + k ≤ N := by rw [List.length_drop, HN.out]; omega
    obtain ⟨n, hn⟩ : ∃ n, (zs.drop k).length = n := ⟨_, rfl⟩
    have HnL := hide' hn
    rw [hn] at HV hdl ⊢
    clear hn
    by_cases h0 : n = 0
    · subst h0
      have HR : Hid (out = facL zs) := by
        show _ = _
        rw [← HF.out, facL_nil HnL.out, List.append_nil]
      go_wp2
      go_ret
      exact ⟨_, rfl, by rw [← HR.out]; exact HO.out, HE.out⟩
    · have hn0 : (0 : Int) < n := by omega
      have hn0' : 0 < n := by omega
      go_wp2_with fail
      refine (leading_any _ (zs.drop k) wr (HV.out.ext HE.out) (by rw [HnL.out]; exact h0) (by rw [HnL.out]; omega)).mono ?_
      rintro e w1 ⟨L, t, rfl, hl, m, rfl⟩
      have hL := hl.pos
      have ht := hl.times
      have hM := hl.le
      rw [HnL.out] at hM
      have HFC := hide' hl.fac
      clear hl
      have hmul : (L : Int) * (t : Int) = ((L * t : Nat) : Int) := by simp
      have hLM : L ≤ L * t := Nat.le_mul_of_pos_right _ (by omega)
      have htM : t ≤ L * t := Nat.le_mul_of_pos_left _ (by omega)
      obtain ⟨M, HM⟩ : ∃ M, Hid (L * t = M) := ⟨_, rfl⟩
      rw [HM.out] at hM hmul hLM htM HFC
      have HF2 : Hid (out ++ List.replicate t (L : Int) ++ facL (zs.drop (k + M)) = facL zs) := by
        show _ = _
        rw [← HF.out, HFC.out, List.drop_drop, List.append_assoc]
      have HOL : Hid (out.length + t ≤ 1000000) := by
        have h1 := congrArg List.length HF2.out
        have h2 := HLN.out
        simp only [List.length_append, List.length_replicate] at h1
        show _ ≤ _
        omega
      obtain ⟨a1, t1, s1, _⟩ := HV.out.runDrop (P := Try.prog) 22 5 Try.underlying22 size8 M (by rw [HnL.out]; exact hM)
      rw [List.drop_drop] at s1
      have S1 := hide' s1
      clear s1
      obtain ⟨n2, hn2⟩ : ∃ n2, n - M = n2 := ⟨_, rfl⟩
      rw [hn2] at t1 S1
      obtain ⟨c2, hc2⟩ : ∃ c2, c - M = c2 := ⟨_, rfl⟩
      rw [hc2] at t1 S1
      have hn2' : n2 < n := by omega
      clear hn2 hc2
      have HEr := hide' (HE.out.trans (Ext.drewN wr m))
      have HOr : Hid (Own .i64 3 w.heap.size (wr.drewN m) u3 out) := HO.out.ext (Ext.drewN _ _)
      go_wp2
      go_loopw [3, 15] (fun vo vi wi => ∃ (i : Nat) (xs : List Int), i ≤ t ∧ vi = .int .i64 i ∧ Hid (Own .i64 3 w.heap.size wi vo xs) ∧ Hid (xs = out ++ List.replicate i (L : Int)) ∧ Hid (Ext w wi)) (fun _ vi _ => t - (intOf vi).toNat)
      case atStart => exact ⟨0, out, Nat.zero_le _, rfl, HOr, (show _ = _ by rw [List.replicate_zero, List.append_nil]), HEr⟩
      case round =>
        obtain ⟨i, xs, hi, rfl, HOi, HXi, HEi⟩ := hrel
        by_cases hlt : i < t
        · have hlt' : (i : Int) < t := by omega
          have hsz := HEi.out.size
          have hol : Hid (xs.length + 1 ≤ 1000000) := by
            have := HOL.out
            show _ ≤ _
            rw [HXi.out]
            simp only [List.length_append, List.length_replicate]
            omega
          go_wp2_with (at_builtin; refine wpList_snoc _ rfl _ _ 37 rfl 3 .i64 8 Try.underlying37 infoI64 w.heap.size _ xs (L : Int) ⟨wr.heap.size, 0, none⟩ rfl rfl ?c4 (HOi.out.alloc _) ?c3 ?c5 ?_)
          case c4 => simp only [World.cell?, heap_alloc_top]; simp
          case c3 => have := hol.out; unfold maxLen; omega
          case c5 => simp; omega
          intro v1 w1 ho1 hb1
          have HX1 : Hid (xs ++ [(L : Int)] = out ++ List.replicate (i + 1) (L : Int)) := by
            show _ = _
            rw [HXi.out, List.append_assoc, ← List.replicate_succ']
          have HO1 := hide' ho1
          have HE1 : Hid (Ext w w1) := Below.trans (HEi.out.trans (ext_alloc _ _)) hb1
          clear ho1 hb1
          go_wp2
          go_roundw
          case rel => exact ⟨i + 1, _, by omega, by go_num, HO1, HX1, HE1⟩
          case measure => simp [intOf]; omega
        · have hlt' : decide ((i : Int) < t) = false := by simp; omega
          have hit : i = t := by omega
          subst hit
          rw [HXi.out] at HOi
          go_wp2
          go_roundw
          case rel => exact ⟨k + M, _, by omega, S1, HOi, HF2, HEi⟩
          case measure => exact hn2'
end Go.Proofs.Ytinnfcjkgddfeaa

/- Words that are less than all their endings, none less than the next: one behind the other they are just the factors. Plain numbers, no conditions. -/
namespace Go.Proofs.Ytinnfcjkgddfeaa
set_option linter.unusedVariables false
set_option linter.unusedSimpArgs false

/-- A row cut by lengths. -/
def cutFac : List Int → List Int → List (List Int)
  | [], _ => []
  | n :: l, s => s.take n.toNat :: cutFac l (s.drop n.toNat)
/-- The factors, as words. -/
def facW (s : List Int) : List (List Int) := cutFac (facL s) s
theorem facW_nil : facW [] = [] := by unfold facW; rw [facL_nil rfl]; rfl
theorem facW_cons {s : List Int} (h : s.length ≠ 0) : facW s = s.take (longI s) :: facW (s.drop (longI s)) := by
  unfold facW
  rw [facL_cons h]
  show s.take ((longI s : Int)).toNat :: cutFac _ (s.drop ((longI s : Int)).toNat) = _
  rw [Int.toNat_natCast]
/-- What begins within words that are at most u has an ending that is at most u. -/
theorem end_le {u : List Int} : ∀ {ws : List (List Int)}, (∀ w ∈ ws, cmpI w u ≤ 0) → ∀ m, 0 < m → m ≤ ws.flatten.length → ∃ i, i < m ∧ cmpI ((ws.flatten.take m).drop i) u ≤ 0 := by
  intro ws
  induction ws with
  | nil => intro _ m h1 h2; simp at h2; omega
  | cons w ws ih =>
    intro hw m h1 h2
    rw [List.flatten_cons] at h2 ⊢
    rcases Nat.lt_or_ge w.length m with g | g
    · rw [List.length_append] at h2
      obtain ⟨i, h3, h4⟩ := ih (fun x hx => hw x (List.mem_cons_of_mem _ hx)) (m - w.length) (by omega) (by omega)
      refine ⟨w.length + i, by omega, ?_⟩
      rw [List.take_append, List.take_of_length_le (by omega), List.drop_append, List.drop_of_length_le (by omega), List.nil_append, Nat.add_sub_cancel_left]
      exact h4
    · refine ⟨0, h1, ?_⟩
      rw [List.drop_zero, List.take_append_of_le_length g]
      have h3 := cmpI_pre (w.take m) (w.drop m)
      rw [List.take_append_drop] at h3
      exact cmpI_trans _ _ _ h3 (hw w List.mem_cons_self)
theorem long_words {u : List Int} {ws : List (List Int)} (hu : Lyn u) (hw : ∀ w ∈ ws, cmpI w u ≤ 0) : longI (u ++ ws.flatten) = u.length := by
  have hul := hu.1
  refine longI_eq ⟨by omega, by rw [List.length_append]; omega, by rw [List.take_append_of_le_length (Nat.le_refl _), List.take_length]; exact hu, fun m h1 h2 hl => ?_⟩
  rw [List.length_append] at h2
  obtain ⟨i, h3, h4⟩ := end_le hw (m - u.length) (by omega) (by omega)
  have e : (u ++ ws.flatten).take m = u ++ ws.flatten.take (m - u.length) := by rw [List.take_append, List.take_of_length_le (by omega)]
  rw [e] at hl
  have hlen : (u ++ ws.flatten.take (m - u.length)).length = m := by
    rw [List.length_append, List.length_take]
    omega
  have h5 := hl.2 (u.length + i) (by rw [hlen]; omega) (by omega)
  rw [List.drop_append, List.drop_of_length_le (by omega), List.nil_append, Nat.add_sub_cancel_left] at h5
  have h6 := cmpI_trans _ _ _ h4 (cmpI_pre u (ws.flatten.take (m - u.length)))
  rw [cmpI_swap] at h6
  omega
/-- There is just one such row of words. -/
theorem fac_unique : ∀ {ws : List (List Int)}, (∀ w ∈ ws, Lyn w) → ws.Pairwise (fun u v => ¬ cmpI u v < 0) → facW ws.flatten = ws := by
  intro ws
  induction ws with
  | nil => intro _ _; exact facW_nil
  | cons u ws ih =>
    intro hl hp
    rw [List.pairwise_cons] at hp
    have hu := hl u List.mem_cons_self
    have hlong := long_words hu fun w hw => cmpI_ge (hp.1 w hw)
    rw [List.flatten_cons, facW_cons (by rw [List.length_append]; have := hu.1; omega), hlong, List.take_append_of_le_length (Nat.le_refl _), List.take_length]
    rw [List.drop_append, List.drop_of_length_le (Nat.le_refl _), Nat.sub_self, List.drop_zero, List.nil_append]
    rw [ih (fun w hw => hl w (List.mem_cons_of_mem _ hw)) hp.2]
/-- Together the factors are the text. -/
theorem facW_flat : ∀ (n : Nat) (s : List Int), s.length ≤ n → (facW s).flatten = s ∧ ∀ w ∈ facW s, Lyn w := by
  intro n
  induction n with
  | zero =>
    intro s hs
    have : s = [] := List.length_eq_zero_iff.1 (by omega)
    subst this
    rw [facW_nil]
    simp
  | succ n ih =>
    intro s hs
    by_cases h : s.length = 0
    · have : s = [] := List.length_eq_zero_iff.1 h
      subst this
      rw [facW_nil]
      simp
    · have hl := longI_spec h
      have hp := hl.pos
      obtain ⟨h1, h2⟩ := ih (s.drop (longI s)) (by rw [List.length_drop]; omega)
      rw [facW_cons h, List.flatten_cons, h1, List.take_append_drop]
      refine ⟨rfl, fun w hw => ?_⟩
      rcases List.mem_cons.1 hw with g | g
      · rw [g]; exact hl.lyn
      · exact h2 w g
end Go.Proofs.Ytinnfcjkgddfeaa

/- Sorting by counting, and the order that it makes. Plain numbers, no conditions. -/
namespace Go.Proofs.Ytinnfcjkgddfeaa
set_option linter.unusedVariables false
set_option linter.unusedSimpArgs false

/-- Natural numbers as Go's. -/
def natL (l : List Nat) : List Int := l.map fun (n : Nat) => (n : Int)
theorem natL_len (l : List Nat) : (natL l).length = l.length := List.length_map _
theorem natL_at (l : List Nat) (i : Nat) : (natL l).getD i 0 = ((l.getD i 0 : Nat) : Int) := by
  simp only [natL, List.getD_eq_getElem?_getD, List.getElem?_map]
  cases l[i]? <;> rfl
theorem natL_set (l : List Nat) (i x : Nat) : natL (l.set i x) = (natL l).set i (x : Int) := by simp [natL, List.map_set]
theorem natL_ext {l l' : List Nat} (hl : l.length = l'.length) (h : ∀ i, i < l.length → l.getD i 0 = l'.getD i 0) : l = l' := by
  refine List.ext_getElem hl fun k h1 h2 => ?_
  have := h k h1
  simpa [List.getD, List.getElem?_eq_getElem h1, List.getElem?_eq_getElem h2] using this
theorem set_same {l : List Nat} {i x : Nat} (h : i < l.length) : (l.set i x).getD i 0 = x := by simp [List.getD, h]
theorem set_other {l : List Nat} {i j x : Nat} (h : i ≠ j) : (l.set i x).getD j 0 = l.getD j 0 := by
  simp only [List.getD_eq_getElem?_getD]
  rw [List.getElem?_set_ne h]
theorem getN_mem {l : List Nat} {i : Nat} (h : i < l.length) : l.getD i 0 ∈ l := by
  rw [List.getD_eq_getElem?_getD, List.getElem?_eq_getElem h]
  exact List.getElem_mem h
theorem mem_getN {l : List Nat} {x : Nat} (h : x ∈ l) : ∃ i, i < l.length ∧ l.getD i 0 = x := by
  obtain ⟨i, hi, e⟩ := List.mem_iff_getElem.1 h
  exact ⟨i, hi, by rw [List.getD_eq_getElem?_getD, List.getElem?_eq_getElem hi]; exact e⟩
theorem takeN_succ {l : List Nat} {i : Nat} (h : i < l.length) : l.take (i + 1) = l.take i ++ [l.getD i 0] := by
  rw [List.take_add_one, List.getElem?_eq_getElem h, List.getD_eq_getElem?_getD, List.getElem?_eq_getElem h]
  rfl
theorem dropN_cons {l : List Nat} {i : Nat} (h : i < l.length) : l.drop i = l.getD i 0 :: l.drop (i + 1) := by
  rw [List.drop_eq_getElem_cons h, List.getD_eq_getElem?_getD, List.getElem?_eq_getElem h]
  rfl
theorem rangeN_at {n i : Nat} (h : i < n) : (List.range n).getD i 0 = i := by simp [List.getD, h]

/-- Those of one key, as they stand. -/
def pick (ps : List Nat) (key : Nat → Nat) (k : Nat) : List Nat := ps.filter fun p => key p == k
/-- Key by key. -/
def csort (K : Nat) (ps : List Nat) (key : Nat → Nat) : List Nat := (List.range K).flatMap (pick ps key)
/-- How many have a less key. -/
def offs (ps : List Nat) (key : Nat → Nat) (k : Nat) : Nat := (csort k ps key).length

theorem csort_succ (K : Nat) (ps : List Nat) (key : Nat → Nat) : csort (K + 1) ps key = csort K ps key ++ pick ps key K := by
  unfold csort
  rw [List.range_succ, List.flatMap_append]
  simp
theorem offs_succ (ps : List Nat) (key : Nat → Nat) (k : Nat) : offs ps key (k + 1) = offs ps key k + (pick ps key k).length := by
  unfold offs
  rw [csort_succ, List.length_append]
theorem offs_zero (ps : List Nat) (key : Nat → Nat) : offs ps key 0 = 0 := rfl
theorem offs_mono (ps : List Nat) (key : Nat → Nat) : ∀ {k l : Nat}, k ≤ l → offs ps key k ≤ offs ps key l := by
  intro k l h
  induction h with
  | refl => exact Nat.le_refl _
  | step _ ih => rw [offs_succ]; omega
theorem offs_in (ps : List Nat) (key : Nat → Nat) {k l t : Nat} (h : k < l) (ht : t < (pick ps key k).length) : offs ps key k + t < offs ps key l := by
  have := offs_mono ps key (show k + 1 ≤ l from h)
  rw [offs_succ] at this
  omega
/-- No two places of the keys' rows are one. -/
theorem offs_inj (ps : List Nat) (key : Nat → Nat) {k l t u : Nat} (ht : t < (pick ps key k).length) (hu : u < (pick ps key l).length) (h : offs ps key k + t = offs ps key l + u) : k = l ∧ t = u := by
  rcases Nat.lt_trichotomy k l with g | g | g
  · have := offs_in ps key g ht; omega
  · subst g; omega
  · have := offs_in ps key g hu; omega
theorem csort_at (ps : List Nat) (key : Nat → Nat) : ∀ {K k t : Nat}, k < K → t < (pick ps key k).length → (csort K ps key).getD (offs ps key k + t) 0 = (pick ps key k).getD t 0 := by
  intro K
  induction K with
  | zero => intro k t h _; omega
  | succ K ih =>
    intro k t hk ht
    rw [csort_succ]
    by_cases h : k < K
    · have hlt : offs ps key k + t < (csort K ps key).length := offs_in ps key h ht
      rw [← ih h ht]
      simp only [List.getD_eq_getElem?_getD]
      rw [List.getElem?_append_left hlt]
    · have e : k = K := by omega
      subst e
      simp only [List.getD_eq_getElem?_getD]
      rw [List.getElem?_append_right (by unfold offs; omega)]
      congr 2
      unfold offs; omega
theorem csort_split (ps : List Nat) (key : Nat → Nat) : ∀ {K j : Nat}, j < (csort K ps key).length → ∃ k t, k < K ∧ t < (pick ps key k).length ∧ j = offs ps key k + t := by
  intro K
  induction K with
  | zero => intro j h; simp [csort] at h
  | succ K ih =>
    intro j hj
    by_cases h : j < (csort K ps key).length
    · obtain ⟨k, t, h1, h2, h3⟩ := ih h
      exact ⟨k, t, by omega, h2, h3⟩
    · refine ⟨K, j - offs ps key K, by omega, ?_, by unfold offs; omega⟩
      rw [csort_succ, List.length_append] at hj
      unfold offs; omega
theorem csort_perm_lt (ps : List Nat) (key : Nat → Nat) : ∀ K, (csort K ps key).Perm (ps.filter fun p => decide (key p < K)) := by
  intro K
  induction K with
  | zero =>
    have : (ps.filter fun p => decide (key p < 0)) = [] := by rw [List.filter_eq_nil_iff]; intro a _; simp
    rw [this]
    exact List.Perm.refl _
  | succ K ih =>
    rw [csort_succ]
    have h := List.filter_append_perm (fun p => decide (key p < K)) (ps.filter fun p => decide (key p < K + 1))
    rw [List.filter_filter, List.filter_filter] at h
    have e1 : (ps.filter fun a => decide (key a < K) && decide (key a < K + 1)) = ps.filter fun p => decide (key p < K) := by
      congr 1; funext a; rw [Bool.eq_iff_iff]; simp; omega
    have e2 : (ps.filter fun a => !decide (key a < K) && decide (key a < K + 1)) = pick ps key K := by
      unfold pick; congr 1; funext a; rw [Bool.eq_iff_iff]; simp; omega
    rw [e1, e2] at h
    exact (ih.append_right _).trans h
theorem csort_perm {K : Nat} {ps : List Nat} {key : Nat → Nat} (h : ∀ p ∈ ps, key p < K) : (csort K ps key).Perm ps := by
  have := csort_perm_lt ps key K
  have e : (ps.filter fun p => decide (key p < K)) = ps := by
    rw [List.filter_eq_self]; intro a ha; simpa using h a ha
  rwa [e] at this
theorem csort_len {K : Nat} {ps : List Nat} {key : Nat → Nat} (h : ∀ p ∈ ps, key p < K) : offs ps key K = ps.length := (csort_perm h).length_eq
/-- By key; those of one key as they stood. -/
theorem csort_sorted (K : Nat) {ps : List Nat} (key : Nat → Nat) {Q : Nat → Nat → Prop} (h : ps.Pairwise Q) : (csort K ps key).Pairwise fun p q => key p < key q ∨ (key p = key q ∧ Q p q) := by
  unfold csort
  rw [List.pairwise_flatMap]
  have hk : ∀ {k p}, p ∈ pick ps key k → key p = k := fun hp => by
    have := (List.mem_filter.1 hp).2
    simpa using this
  constructor
  · intro k _
    refine (List.Pairwise.imp_of_mem ?_ (h.filter (p := fun p => key p == k)))
    intro a b ha hb hq
    exact .inr ⟨(hk ha).trans (hk hb).symm, hq⟩
  · refine List.pairwise_lt_range.imp ?_
    intro a b hab x hx y hy
    rw [hk hx, hk hy]
    exact .inl hab

/-- How many of the first i have key k. -/
def cntN (ks : List Nat) (i k : Nat) : Nat := (pick (List.range i) (fun p => ks.getD p 0) k).length
theorem cntN_zero (ks : List Nat) (k : Nat) : cntN ks 0 k = 0 := rfl
theorem cntN_same {ks : List Nat} {i k : Nat} (h : ks.getD i 0 = k) : cntN ks (i + 1) k = cntN ks i k + 1 := by
  unfold cntN pick
  rw [List.range_succ, List.filter_append, List.length_append, List.filter_cons_of_pos (by simpa using h)]
  rfl
theorem cntN_other {ks : List Nat} {i k : Nat} (h : ks.getD i 0 ≠ k) : cntN ks (i + 1) k = cntN ks i k := by
  unfold cntN pick
  rw [List.range_succ, List.filter_append, List.length_append]
  have : ([i].filter fun p => ks.getD p 0 == k) = [] := by
    rw [List.filter_eq_nil_iff]; intro a ha; simp only [List.mem_singleton] at ha; subst ha; simpa using h
  rw [this]; rfl
theorem cntN_all {ks ps : List Nat} {n : Nat} (h : ps.Perm (List.range n)) (k : Nat) : cntN ks n k = (pick ps (fun p => ks.getD p 0) k).length := ((h.filter _).length_eq).symm

theorem pick_snoc_same {ps : List Nat} {key : Nat → Nat} {p k : Nat} (h : key p = k) : pick (ps ++ [p]) key k = pick ps key k ++ [p] := by
  unfold pick
  rw [List.filter_append]
  congr 1
  simp [h]
theorem pick_snoc_other {ps : List Nat} {key : Nat → Nat} {p k : Nat} (h : key p ≠ k) : pick (ps ++ [p]) key k = pick ps key k := by
  unfold pick
  rw [List.filter_append]
  have : ([p].filter fun q => key q == k) = [] := by
    rw [List.filter_eq_nil_iff]; intro a ha; simp only [List.mem_singleton] at ha; subst ha; simpa using h
  rw [this, List.append_nil]
theorem pick_split (ps : List Nat) (key : Nat → Nat) (i k : Nat) : pick ps key k = pick (ps.take i) key k ++ pick (ps.drop i) key k := by
  unfold pick
  rw [← List.filter_append, List.take_append_drop]
theorem pick_le (ps : List Nat) (key : Nat → Nat) (i k : Nat) : (pick (ps.take i) key k).length ≤ (pick ps key k).length := by
  rw [pick_split ps key i k, List.length_append]; omega
/-- The next of a key's row. -/
theorem pick_next {ps : List Nat} {key : Nat → Nat} {i : Nat} (hi : i < ps.length) : (pick (ps.take i) key (key (ps.getD i 0))).length < (pick ps key (key (ps.getD i 0))).length ∧
    (pick ps key (key (ps.getD i 0))).getD (pick (ps.take i) key (key (ps.getD i 0))).length 0 = ps.getD i 0 := by
  have e : pick (ps.drop i) key (key (ps.getD i 0)) = ps.getD i 0 :: pick (ps.drop (i + 1)) key (key (ps.getD i 0)) := by
    rw [dropN_cons hi]
    unfold pick
    rw [List.filter_cons_of_pos (by simp)]
  have e2 := pick_split ps key i (key (ps.getD i 0))
  rw [e] at e2
  constructor
  · rw [e2, List.length_append, List.length_cons]; omega
  · conv => lhs; rw [e2]
    simp only [List.getD_eq_getElem?_getD]
    rw [List.getElem?_append_right (Nat.le_refl _)]
    simp

/-- What the last loop of the sort keeps. -/
def Fill (ps : List Nat) (key : Nat → Nat) (K i : Nat) (fr row : List Nat) : Prop :=
  (∀ k, k < K → fr.getD k 0 = offs ps key k + (pick (ps.take i) key k).length) ∧
  ∀ k t, k < K → t < (pick (ps.take i) key k).length → row.getD (offs ps key k + t) 0 = (pick ps key k).getD t 0

theorem Fill.start {ps : List Nat} {key : Nat → Nat} {K : Nat} {fr row : List Nat} (h : ∀ k, k < K → fr.getD k 0 = offs ps key k) : Fill ps key K 0 fr row :=
  ⟨fun k hk => by rw [h k hk]; simp [pick], fun k t _ ht => by simp [pick] at ht⟩
theorem Fill.at {ps : List Nat} {key : Nat → Nat} {K i : Nat} {fr row : List Nat} (h : Fill ps key K i fr row) (hK : ∀ p ∈ ps, key p < K) (hi : i < ps.length) : fr.getD (key (ps.getD i 0)) 0 < ps.length := by
  have hk := hK _ (getN_mem hi)
  rw [h.1 _ hk, ← csort_len hK]
  exact offs_in ps key hk (pick_next hi).1
theorem Fill.next {ps : List Nat} {key : Nat → Nat} {K i : Nat} {fr row : List Nat} (h : Fill ps key K i fr row) (hK : ∀ p ∈ ps, key p < K) (hi : i < ps.length) (hr : row.length = ps.length) (hf : K ≤ fr.length) :
    Fill ps key K (i + 1) (fr.set (key (ps.getD i 0)) (fr.getD (key (ps.getD i 0)) 0 + 1)) (row.set (fr.getD (key (ps.getD i 0)) 0) (ps.getD i 0)) := by
  have hk := hK _ (getN_mem hi)
  have hat := h.at hK hi
  obtain ⟨n1, n2⟩ := pick_next (key := key) hi
  generalize hp : ps.getD i 0 = p at *
  have hs : ∀ k, key p = k → pick (ps.take (i + 1)) key k = pick (ps.take i) key k ++ [p] := fun k e => by rw [takeN_succ hi, hp, pick_snoc_same e]
  have ho : ∀ k, key p ≠ k → pick (ps.take (i + 1)) key k = pick (ps.take i) key k := fun k e => by rw [takeN_succ hi, hp, pick_snoc_other e]
  constructor
  · intro k hk2
    by_cases e : key p = k
    · rw [hs k e, ← e, set_same (by omega), h.1 _ hk, List.length_append]
      simp; omega
    · rw [ho k e, set_other e, h.1 k hk2]
  · intro k t hk2 ht
    by_cases e : key p = k
    · rw [hs k e, List.length_append] at ht
      simp at ht
      by_cases et : t = (pick (ps.take i) key k).length
      · have : offs ps key k + t = fr.getD (key p) 0 := by rw [h.1 _ hk, e, et]
        rw [this, set_same (by omega), et, ← e, n2]
      · rw [set_other ?_]
        · exact h.2 k t hk2 (by omega)
        · rw [h.1 _ hk]
          intro e2
          have := offs_inj ps key (k := key p) (l := k) n1 (by have := pick_le ps key i k; omega) e2
          rw [e] at this
          omega
    · rw [ho k e] at ht
      rw [set_other ?_]
      · exact h.2 k t hk2 ht
      · rw [h.1 _ hk]
        intro e2
        exact e (offs_inj ps key (k := key p) (l := k) n1 (by have := pick_le ps key i k; omega) e2).1
theorem Fill.done {ps : List Nat} {key : Nat → Nat} {K : Nat} {fr row : List Nat} (h : Fill ps key K ps.length fr row) (hK : ∀ p ∈ ps, key p < K) (hr : row.length = ps.length) : row = csort K ps key := by
  have hl : (csort K ps key).length = ps.length := csort_len hK
  refine natL_ext (by omega) fun j hj => ?_
  obtain ⟨k, t, h1, h2, rfl⟩ := csort_split ps key (K := K) (j := j) (by omega)
  rw [csort_at ps key h1 h2, h.2 k t h1 (by rwa [List.take_length])]
theorem nodup_getN {l : List Nat} (h : l.Nodup) {i j : Nat} (hi : i < l.length) (hj : j < l.length) (e : l.getD i 0 = l.getD j 0) : i = j := by
  rw [List.getD_eq_getElem?_getD, List.getD_eq_getElem?_getD, List.getElem?_eq_getElem hi, List.getElem?_eq_getElem hj] at e
  exact (List.getElem_inj h).1 e
theorem natL_snoc (l : List Nat) (i : Nat) : natL l ++ [(i : Int)] = natL (l ++ [i]) := by simp [natL]
end Go.Proofs.Ytinnfcjkgddfeaa

/- Borders, periods and roots of a row of numbers. Plain numbers, no conditions. -/
namespace Go.Proofs.Ytinnfcjkgddfeaa
set_option linter.unusedVariables false
set_option linter.unusedSimpArgs false

/-- Among the first n of s each is the one d behind it. -/
def Per (s : List Int) (n d : Nat) : Prop := ∀ i, i + d < n → s.getD i 0 = s.getD (i + d) 0
/-- The first k of s are also the last of its first n. -/
def Bord (s : List Int) (n k : Nat) : Prop := k < n ∧ Per s n (n - k)
/-- The longest such. -/
def Bor (s : List Int) (n b : Nat) : Prop := Bord s n b ∧ ∀ k, Bord s n k → k ≤ b

def bdown (s : List Int) (n : Nat) : Nat → Nat
  | 0 => 0
  | k + 1 => if s.take (k + 1) = (s.take n).drop (n - (k + 1)) then k + 1 else bdown s n k
def borI (s : List Int) (n : Nat) : Nat := bdown s n (n - 1)

theorem cut_getD (s : List Int) (n m k j : Nat) (hj : j < k) (hm : m + k = n) : ((s.take n).drop m).getD j 0 = s.getD (m + j) 0 := by
  simp only [List.getD_eq_getElem?_getD, List.getElem?_drop, List.getElem?_take]
  rw [if_pos (by omega)]
theorem take_getD (s : List Int) (k j : Nat) (hj : j < k) : (s.take k).getD j 0 = s.getD j 0 := by
  simp only [List.getD_eq_getElem?_getD, List.getElem?_take]
  rw [if_pos hj]
theorem bord_iff {s : List Int} {n k : Nat} (hk : k ≤ n) (hn : n ≤ s.length) : s.take k = (s.take n).drop (n - k) ↔ Per s n (n - k) := by
  constructor
  · intro h i hi
    have h1 : (s.take k).getD i 0 = ((s.take n).drop (n - k)).getD i 0 := congrArg (fun l => l.getD i 0) h
    rw [take_getD _ _ _ (by omega), cut_getD s n (n - k) k i (by omega) (by omega)] at h1
    rw [h1, Nat.add_comm]
  · intro h
    refine getD_ext (by simp; omega) fun i hi => ?_
    have hi' : i < k := by simp at hi; omega
    rw [take_getD _ _ _ hi', cut_getD s n (n - k) k i hi' (by omega), h i (by omega), Nat.add_comm]

theorem bdown_spec (s : List Int) (n : Nat) (hn : n ≤ s.length) : ∀ m, m < n → Bord s n (bdown s n m) ∧ ∀ k, k ≤ m → Bord s n k → k ≤ bdown s n m := by
  intro m
  induction m with
  | zero => intro hm; exact ⟨⟨hm, fun i hi => by simp only [bdown] at hi; omega⟩, fun k hk _ => hk⟩
  | succ m ih =>
    intro hm
    unfold bdown
    by_cases h : s.take (m + 1) = (s.take n).drop (n - (m + 1))
    · rw [if_pos h]
      exact ⟨⟨hm, (bord_iff (by omega) hn).1 h⟩, fun k hk _ => hk⟩
    · rw [if_neg h]
      obtain ⟨h1, h2⟩ := ih (by omega)
      refine ⟨h1, fun k hk hb => ?_⟩
      by_cases hkm : k = m + 1
      · subst hkm
        exact absurd ((bord_iff (by omega) hn).2 hb.2) h
      · exact h2 k (by omega) hb

theorem borI_spec {s : List Int} {n : Nat} (h0 : 0 < n) (hn : n ≤ s.length) : Bor s n (borI s n) := by
  obtain ⟨h1, h2⟩ := bdown_spec s n hn (n - 1) (by omega)
  exact ⟨h1, fun k hk => h2 k (by have := hk.1; omega) hk⟩
theorem borI_eq {s : List Int} {n b : Nat} (hn : n ≤ s.length) (h : Bor s n b) : borI s n = b := by
  have h1 := borI_spec (s := s) (n := n) (by have := h.1.1; omega) hn
  have := h1.2 b h.1
  have := h.2 _ h1.1
  omega
theorem borI_lt {s : List Int} {n : Nat} (h0 : 0 < n) (hn : n ≤ s.length) : borI s n < n := (borI_spec h0 hn).1.1

/-- What the search for the next border keeps. -/
def Srch (s : List Int) (i n : Nat) : Prop := Bord s i n ∧ ∀ k, n < k → Bord s i k → s.getD k 0 ≠ s.getD i 0

theorem Srch.start {s : List Int} {i : Nat} (h0 : 0 < i) (hi : i ≤ s.length) : Srch s i (borI s i) := by
  have h := borI_spec h0 hi
  exact ⟨h.1, fun k hk hb => by have := h.2 k hb; omega⟩
theorem Bord.trans {s : List Int} {i n m : Nat} (h : Bord s i n) (k : Bord s n m) : Bord s i m := by
  obtain ⟨h1, h2⟩ := h
  obtain ⟨k1, k2⟩ := k
  refine ⟨by omega, fun j hj => ?_⟩
  rw [k2 j (by omega), h2 (j + (n - m)) (by omega)]
  congr 1
  omega
theorem Bord.inner {s : List Int} {i n m : Nat} (h : Bord s i n) (k : Bord s i m) (hm : m < n) : Bord s n m := by
  obtain ⟨h1, h2⟩ := h
  obtain ⟨k1, k2⟩ := k
  refine ⟨hm, fun j hj => ?_⟩
  rw [k2 j (by omega), h2 (j + (n - m)) (by omega)]
  congr 1
  omega
theorem Srch.down {s : List Int} {i n : Nat} (hi : i ≤ s.length) (h : Srch s i n) (h0 : 0 < n) (hne : s.getD n 0 ≠ s.getD i 0) : Srch s i (borI s n) := by
  have hn : n < i := h.1.1
  have hb := borI_spec (s := s) h0 (by omega)
  refine ⟨h.1.trans hb.1, fun k hk hk2 => ?_⟩
  by_cases h1 : k = n
  · subst h1; exact hne
  · by_cases h2 : n < k
    · exact h.2 k h2 hk2
    · have := hb.2 k (h.1.inner hk2 (by omega))
      omega
theorem Bord.longer {s : List Int} {i n : Nat} (h : Bord s i n) (he : s.getD n 0 = s.getD i 0) : Bord s (i + 1) (n + 1) := by
  obtain ⟨h1, h2⟩ := h
  refine ⟨by omega, fun j hj => ?_⟩
  by_cases hjn : j = n
  · subst hjn
    rw [he]
    congr 1
    omega
  · rw [h2 j (by omega)]
    congr 1
    omega
theorem Bord.shorter {s : List Int} {i n : Nat} (h : Bord s (i + 1) (n + 1)) : Bord s i n ∧ s.getD n 0 = s.getD i 0 := by
  obtain ⟨h1, h2⟩ := h
  refine ⟨⟨by omega, fun j hj => ?_⟩, ?_⟩
  · rw [h2 j (by omega)]
    congr 1
    omega
  · rw [h2 n (by omega)]
    congr 1
    omega
theorem Srch.found {s : List Int} {i n : Nat} (hi : i < s.length) (h : Srch s i n) (he : s.getD n 0 = s.getD i 0) : borI s (i + 1) = n + 1 := by
  refine borI_eq (by omega) ⟨h.1.longer he, fun k hk => ?_⟩
  cases k with
  | zero => omega
  | succ k =>
    obtain ⟨h1, h2⟩ := hk.shorter
    by_cases hkn : n < k
    · exact absurd h2 (h.2 k hkn h1)
    · omega
theorem Srch.none {s : List Int} {i : Nat} (hi : i < s.length) (h : Srch s i 0) (he : s.getD 0 0 ≠ s.getD i 0) : borI s (i + 1) = 0 := by
  refine borI_eq (by omega) ⟨⟨by omega, fun j hj => by omega⟩, fun k hk => ?_⟩
  cases k with
  | zero => omega
  | succ k =>
    obtain ⟨h1, h2⟩ := hk.shorter
    by_cases hkn : k = 0
    · subst hkn; exact absurd h2 he
    · exact absurd h2 (h.2 k (by omega) h1)

/-- All borders. -/
def borsL (s : List Int) : List Int := (List.range s.length).map fun i => (borI s (i + 1) : Int)
theorem borsL_len (s : List Int) : (borsL s).length = s.length := by simp [borsL]
theorem borsL_at {s : List Int} {i : Nat} (hi : i < s.length) : (borsL s).getD i 0 = (borI s (i + 1) : Int) := by
  simp [borsL, List.getD, List.getElem?_eq_getElem, hi]

/-- The least period. -/
def leastI (s : List Int) : Nat := s.length - borI s s.length
theorem leastI_spec {s : List Int} (h : 0 < s.length) : 1 ≤ leastI s ∧ leastI s ≤ s.length ∧ Per s s.length (leastI s) ∧ ∀ d, 1 ≤ d → Per s s.length d → leastI s ≤ d := by
  obtain ⟨h1, h2⟩ := borI_spec (s := s) h (Nat.le_refl _)
  have := h1.1
  unfold leastI
  refine ⟨by omega, by omega, h1.2, fun d hd hp => ?_⟩
  by_cases hdl : d ≤ s.length
  · have := h2 (s.length - d) ⟨by omega, by rwa [show s.length - (s.length - d) = d by omega]⟩
    omega
  · omega
theorem leastI_eq {s : List Int} {p : Nat} (h : 0 < s.length) (h1 : 1 ≤ p) (h2 : Per s s.length p) (h3 : ∀ d, 1 ≤ d → d < p → ¬ Per s s.length d) : leastI s = p := by
  obtain ⟨a1, a2, a3, a4⟩ := leastI_spec h
  have := a4 p h1 h2
  by_cases hlt : leastI s < p
  · exact absurd a3 (h3 _ a1 hlt)
  · omega

theorem Per.sub {s : List Int} {n p q : Nat} (hp : Per s n p) (hq : Per s n q) (h : p + q ≤ n) (hle : p ≤ q) : Per s n (q - p) := by
  intro i hi
  by_cases hiq : i + q < n
  · rw [hq i hiq]
    have := hp (i + (q - p)) (by omega)
    rw [this]
    congr 1
    omega
  · have h1 := hp (i - p) (by omega)
    have h2 := hq (i - p) (by omega)
    rw [show i - p + p = i by omega] at h1
    rw [show i - p + q = i + (q - p) by omega] at h2
    rw [← h1, h2]
theorem Per.gcd {s : List Int} {n : Nat} : ∀ (m p q : Nat), p + q ≤ m → p + q ≤ n → Per s n p → Per s n q → Per s n (Nat.gcd p q) := by
  intro m
  induction m with
  | zero =>
    intro p q h _ hp _
    have e1 : p = 0 := by omega
    have e2 : q = 0 := by omega
    subst e1 e2
    exact hp
  | succ m ih =>
    intro p q h hn hp hq
    by_cases h1 : p = 0
    · subst h1; rw [Nat.gcd_zero_left]; exact hq
    by_cases h2 : q = 0
    · subst h2; rw [Nat.gcd_zero_right]; exact hp
    by_cases hle : p ≤ q
    · have := ih p (q - p) (by omega) (by omega) hp (hp.sub hq hn hle)
      rwa [Nat.gcd_sub_self_right hle] at this
    · have := ih (p - q) q (by omega) (by omega) (hq.sub hp (by omega) (by omega)) hq
      rwa [Nat.gcd_sub_self_left (by omega)] at this
theorem Per.mod {s : List Int} {n d : Nat} (h : Per s n d) (hd : 0 < d) (i : Nat) (hi : i < n) : s.getD i 0 = s.getD (i % d) 0 := by
  induction i using Nat.strongRecOn with
  | ind i ih =>
    by_cases hlt : i < d
    · rw [Nat.mod_eq_of_lt hlt]
    · have h1 := h (i - d) (by omega)
      rw [show i - d + d = i by omega] at h1
      rw [← h1, ih (i - d) (by omega) (by omega)]
      congr 1
      exact (Nat.mod_eq_sub_mod (by omega)).symm
theorem Per.ofMod {s : List Int} {n d : Nat} (h : ∀ i, i < n → s.getD i 0 = s.getD (i % d) 0) : Per s n d := by
  intro i hi
  rw [h i (by omega), h (i + d) hi, Nat.add_mod_right]

/-- How long the root is. -/
def rootN (s : List Int) : Nat := if s.length % leastI s = 0 then leastI s else s.length
theorem rootN_spec {s : List Int} (h : 0 < s.length) : 1 ≤ rootN s ∧ rootN s ≤ s.length ∧ rootN s ∣ s.length ∧ Per s s.length (rootN s) ∧ ∀ d, 1 ≤ d → d ∣ s.length → Per s s.length d → rootN s ≤ d := by
  obtain ⟨a1, a2, a3, a4⟩ := leastI_spec h
  have base : 1 ≤ rootN s ∧ rootN s ≤ s.length ∧ rootN s ∣ s.length ∧ Per s s.length (rootN s) := by
    unfold rootN
    by_cases hm : s.length % leastI s = 0
    · rw [if_pos hm]
      exact ⟨a1, a2, Nat.dvd_of_mod_eq_zero hm, a3⟩
    · rw [if_neg hm]
      exact ⟨h, Nat.le_refl _, Nat.dvd_refl _, fun i hi => by omega⟩
  refine ⟨base.1, base.2.1, base.2.2.1, base.2.2.2, fun d hd hdv hp => ?_⟩
  have hpd := a4 d hd hp
  by_cases hdl : d = s.length
  · rw [hdl]; exact base.2.1
  · obtain ⟨c, hc⟩ := hdv
    have h2 : 2 * d ≤ s.length := by
      have hc0 : c ≠ 0 := fun e => by rw [e] at hc; omega
      have hc1 : c ≠ 1 := fun e => by rw [e] at hc; omega
      have : d * 2 ≤ d * c := Nat.mul_le_mul_left d (by omega)
      omega
    have hg := Per.gcd _ _ _ (Nat.le_refl _) (show leastI s + d ≤ s.length by omega) a3 hp
    have hgp : 0 < Nat.gcd (leastI s) d := Nat.gcd_pos_of_pos_left _ (by omega)
    have hge := a4 _ hgp hg
    have hgl : Nat.gcd (leastI s) d ≤ leastI s := Nat.le_of_dvd (by omega) (Nat.gcd_dvd_left _ _)
    have hgg : Nat.gcd (leastI s) d = leastI s := by omega
    have hdd : leastI s ∣ d := by rw [← hgg]; exact Nat.gcd_dvd_right _ _
    have hsl : leastI s ∣ s.length := by rw [hc]; exact Nat.dvd_mul_right_of_dvd hdd c
    have : rootN s = leastI s := by unfold rootN; rw [if_pos (Nat.mod_eq_zero_of_dvd hsl)]
    omega

/-- A row so many times has its root. -/
theorem rootN_rep {s : List Int} {n : Nat} (h : 0 < s.length) (hn : 0 < n) : rootN (repI s n) = rootN s := by
  obtain ⟨a1, a2, a3, a4, a5⟩ := rootN_spec h
  have hL := repI_len s n
  have hN : 0 < n * s.length := Nat.mul_pos hn h
  have hle : s.length ≤ n * s.length := Nat.le_mul_of_pos_left _ hn
  obtain ⟨b1, b2, b3, b4, b5⟩ := rootN_spec (s := repI s n) (by omega)
  have hp : Per (repI s n) (repI s n).length (rootN s) := by
    refine Per.ofMod fun i hi => ?_
    have hm1 : i % s.length < s.length := Nat.mod_lt _ h
    have hm2 : i % rootN s < rootN s := Nat.mod_lt _ a1
    rw [repI_at _ _ _ (by omega), repI_at _ _ _ (by omega), a4.mod a1 _ hm1, Nat.mod_mod_of_dvd _ a3, Nat.mod_eq_of_lt (show i % rootN s < s.length by omega)]
  have hdv : rootN s ∣ (repI s n).length := by rw [hL]; exact Nat.dvd_mul_left_of_dvd a3 n
  have hq := b5 _ a1 hdv hp
  by_cases h1 : n = 1
  · subst h1
    have : repI s 1 = s := by simp [repI]
    rw [this]
  · by_cases hql : rootN (repI s n) = (repI s n).length
    · omega
    · have e2 : 2 * s.length ≤ n * s.length := Nat.mul_le_mul_right _ (by omega)
      have hqq : 2 * rootN (repI s n) ≤ (repI s n).length := by
        obtain ⟨c, hc⟩ := b3
        have hc0 : c ≠ 0 := fun e => by rw [e] at hc; omega
        have hc1 : c ≠ 1 := fun e => by rw [e] at hc; omega
        have : rootN (repI s n) * 2 ≤ rootN (repI s n) * c := Nat.mul_le_mul_left _ (by omega)
        omega
      have hg := Per.gcd _ _ _ (Nat.le_refl _) (show rootN s + rootN (repI s n) ≤ (repI s n).length by omega) hp b4
      have hgp : 0 < Nat.gcd (rootN s) (rootN (repI s n)) := Nat.gcd_pos_of_pos_left _ (by omega)
      have hgs : Per s s.length (Nat.gcd (rootN s) (rootN (repI s n))) := by
        intro i hi
        have := hg i (by omega)
        rw [repI_at _ _ _ (by omega), repI_at _ _ _ (by omega), Nat.mod_eq_of_lt (by omega), Nat.mod_eq_of_lt hi] at this
        exact this
      have hge := a5 _ hgp (Nat.dvd_trans (Nat.gcd_dvd_left _ _) a3) hgs
      have hgl : Nat.gcd (rootN s) (rootN (repI s n)) ≤ rootN (repI s n) := Nat.le_of_dvd (by omega) (Nat.gcd_dvd_right _ _)
      omega
theorem root_rep {s : List Int} {n : Nat} (h : 0 < s.length) (hn : 0 < n) : (repI s n).take (rootN (repI s n)) = s.take (rootN s) := by
  rw [rootN_rep h hn]
  obtain ⟨a1, a2, _⟩ := rootN_spec h
  cases n with
  | zero => omega
  | succ n => rw [repI_cons, List.take_append_of_le_length a2]

/-- A root has none but itself. -/
theorem rootN_root {s : List Int} (h : 0 < s.length) : rootN (s.take (rootN s)) = rootN s := by
  obtain ⟨a1, a2, a3, a4, a5⟩ := rootN_spec h
  have hl : (s.take (rootN s)).length = rootN s := by rw [List.length_take]; omega
  obtain ⟨b1, b2, b3, b4, _⟩ := rootN_spec (s := s.take (rootN s)) (by omega)
  rw [hl] at b2 b3 b4
  have hp : Per s s.length (rootN (s.take (rootN s))) := by
    refine Per.ofMod fun i hi => ?_
    have hm1 : i % rootN s < rootN s := Nat.mod_lt _ a1
    have h1 := b4.mod b1 (i % rootN s) hm1
    have hm2 : i % rootN s % rootN (s.take (rootN s)) < rootN (s.take (rootN s)) := Nat.mod_lt _ b1
    rw [take_getD _ _ _ hm1, take_getD _ _ _ (by omega), Nat.mod_mod_of_dvd _ b3] at h1
    rw [a4.mod a1 i hi, h1]
  have := a5 _ b1 (Nat.dvd_trans b3 a3) hp
  omega
theorem rootN_nil : rootN [] = 0 := by unfold rootN leastI; simp
end Go.Proofs.Ytinnfcjkgddfeaa

/- Words without end, compared. Plain numbers, no conditions. -/
namespace Go.Proofs.Ytinnfcjkgddfeaa
set_option linter.unusedVariables false
set_option linter.unusedSimpArgs false

/-- The k-th of a word without end. -/
def atW (u : List Int) (k : Nat) : Int := u.getD (k % u.length) 0
/-- The first n of a word without end; of the empty one nothing. -/
def infI (u : List Int) (n : Nat) : List Int := (repI u n).take n
/-- -1, 0, 1. -/
def omI (u v : List Int) : Int := cmpI (infI u (u.length + v.length)) (infI v (u.length + v.length))

theorem infI_nil (n : Nat) : infI [] n = [] := by
  have : (repI [] n).length = 0 := by rw [repI_len]; simp
  unfold infI
  rw [List.length_eq_zero_iff.1 this]; simp
theorem infI_len {u : List Int} (n : Nat) (h : 0 < u.length) : (infI u n).length = n := by
  unfold infI
  rw [List.length_take, repI_len]
  have : n * 1 ≤ n * u.length := Nat.mul_le_mul_left n h
  omega
theorem infI_at {u : List Int} {n k : Nat} (h : 0 < u.length) (hk : k < n) : (infI u n).getD k 0 = atW u k := by
  have : n * 1 ≤ n * u.length := Nat.mul_le_mul_left n h
  unfold infI
  rw [take_getD _ _ _ hk, repI_at _ _ _ (by omega)]
  rfl

theorem atW_per (u : List Int) (k : Nat) : atW u (k + u.length) = atW u k := by unfold atW; rw [Nat.add_mod_right]

/-- Words that are alike for as many as both have together are alike without end. -/
theorem atW_same {u v : List Int} (hu : 0 < u.length) (hv : 0 < v.length) (h : ∀ k, k < u.length + v.length → atW u k = atW v k) : ∀ k, atW u k = atW v k := by
  obtain ⟨x, hx⟩ : ∃ x, x = infI u (u.length + v.length) := ⟨_, rfl⟩
  have hl : x.length = u.length + v.length := by rw [hx, infI_len _ hu]
  have hxa : ∀ k, k < u.length + v.length → x.getD k 0 = atW u k := fun k hk => by rw [hx]; exact infI_at hu hk
  have p1 : Per x (u.length + v.length) u.length := fun i hi => by rw [hxa i (by omega), hxa _ hi, atW_per]
  have p2 : Per x (u.length + v.length) v.length := fun i hi => by rw [hxa i (by omega), hxa _ hi, h i (by omega), h _ hi, atW_per]
  have pg := Per.gcd _ _ _ (Nat.le_refl _) (Nat.le_refl _) p1 p2
  have hg : 0 < Nat.gcd u.length v.length := Nat.gcd_pos_of_pos_left _ hu
  intro k
  have h1 : atW u k = x.getD (k % Nat.gcd u.length v.length) 0 := by
    have hm : k % u.length < u.length := Nat.mod_lt _ hu
    have e : atW u k = atW u (k % u.length) := by unfold atW; rw [Nat.mod_mod]
    rw [e, ← hxa _ (by omega), pg.mod hg _ (by omega), Nat.mod_mod_of_dvd _ (Nat.gcd_dvd_left _ _)]
  have h2 : atW v k = x.getD (k % Nat.gcd u.length v.length) 0 := by
    have hm : k % v.length < v.length := Nat.mod_lt _ hv
    have e : atW v k = atW v (k % v.length) := by unfold atW; rw [Nat.mod_mod]
    rw [e, ← h _ (by omega), ← hxa _ (by omega), pg.mod hg _ (by omega), Nat.mod_mod_of_dvd _ (Nat.gcd_dvd_right _ _)]
  rw [h1, h2]

/-- Less, place by place. -/
def LtF (f g : Nat → Int) : Prop := ∃ m, (∀ k, k < m → f k = g k) ∧ f m < g m
theorem LtF.irr {f g : Nat → Int} (h : LtF f g) (k : LtF g f) : False := by
  obtain ⟨m, h1, h2⟩ := h
  obtain ⟨n, k1, k2⟩ := k
  rcases Nat.lt_trichotomy m n with g | g | g
  · have := k1 m g; omega
  · subst g; omega
  · have := h1 n g; omega
theorem LtF.trans {f g h : Nat → Int} (a : LtF f g) (b : LtF g h) : LtF f h := by
  obtain ⟨m, h1, h2⟩ := a
  obtain ⟨n, k1, k2⟩ := b
  rcases Nat.lt_trichotomy m n with q | q | q
  · exact ⟨m, fun k hk => (h1 k hk).trans (k1 k (by omega)), by rw [← k1 m q]; exact h2⟩
  · subst q; exact ⟨m, fun k hk => (h1 k hk).trans (k1 k hk), by omega⟩
  · exact ⟨n, fun k hk => (h1 k (by omega)).trans (k1 k hk), by rw [h1 n q]; exact k2⟩
theorem first_other {f g : Nat → Int} : ∀ n, (∀ k, k < n → f k = g k) ∨ ∃ m, m < n ∧ (∀ k, k < m → f k = g k) ∧ f m ≠ g m
  | 0 => .inl fun k hk => by omega
  | n + 1 => by
    rcases first_other (f := f) (g := g) n with h | ⟨m, h1, h2, h3⟩
    · by_cases e : f n = g n
      · refine .inl fun k hk => ?_
        by_cases hk2 : k = n
        · subst hk2; exact e
        · exact h k (by omega)
      · exact .inr ⟨n, by omega, h, e⟩
    · exact .inr ⟨m, by omega, h2, h3⟩

/-- As the first other one tells. -/
theorem cmpI_first {x y : List Int} {m : Nat} (hx : m < x.length) (hy : m < y.length) (h : ∀ k, k < m → x.getD k 0 = y.getD k 0) (hne : x.getD m 0 ≠ y.getD m 0) : cmpI x y = if x.getD m 0 < y.getD m 0 then -1 else 1 := by
  have key : ∀ k, k ≤ m → cmpI x y = cmpI (x.drop k) (y.drop k) := by
    intro k
    induction k with
    | zero => intro _; simp
    | succ k ih => intro hk; rw [ih (by omega), cmpI_same (by omega) (by omega) (h k (by omega))]
  rw [key m (Nat.le_refl _)]
  by_cases hlt : x.getD m 0 < y.getD m 0
  · rw [if_pos hlt, cmpI_lt hx hy hlt]
  · rw [if_neg hlt, cmpI_gt hx hy (by omega)]

/-- However much is looked at, if it is enough. -/
theorem omI_eq (u v : List Int) (N : Nat) (hN : u.length + v.length ≤ N) : cmpI (infI u N) (infI v N) = omI u v := by
  unfold omI
  by_cases hu : u = []
  · subst hu
    by_cases hv : v = []
    · subst hv; simp only [infI_nil]
    · have hv' : 0 < v.length := List.length_pos_iff.2 hv
      have e : ∀ n, 0 < n → cmpI [] (infI v n) = -1 := fun n hn => by
        have hl := infI_len n hv'
        cases hc : infI v n with
        | nil => rw [hc] at hl; simp at hl; omega
        | cons a l => rfl
      simp only [infI_nil]
      simp at hN
      rw [e _ (by omega), e _ (by simp; omega)]
  · have hu' : 0 < u.length := List.length_pos_iff.2 hu
    by_cases hv : v = []
    · subst hv
      have e : ∀ n, 0 < n → cmpI (infI u n) [] = 1 := fun n hn => by
        have hl := infI_len n hu'
        cases hc : infI u n with
        | nil => rw [hc] at hl; simp at hl; omega
        | cons a l => rfl
      simp only [infI_nil]
      simp at hN
      rw [e _ (by omega), e _ (by simp; omega)]
    · have hv' : 0 < v.length := List.length_pos_iff.2 hv
      have e : ∀ n, u.length + v.length ≤ n → (∀ k, k < u.length + v.length → atW u k = atW v k) → cmpI (infI u n) (infI v n) = 0 := fun n hn h => by
        have : infI u n = infI v n := getD_ext (by rw [infI_len _ hu', infI_len _ hv']) fun k hk => by
          rw [infI_len _ hu'] at hk
          rw [infI_at hu' hk, infI_at hv' hk, atW_same hu' hv' h k]
        rw [this, cmpI_self]
      have e2 : ∀ n m, m < n → (∀ k, k < m → atW u k = atW v k) → atW u m ≠ atW v m → cmpI (infI u n) (infI v n) = if atW u m < atW v m then -1 else 1 := fun n m hm h hne => by
        have := cmpI_first (x := infI u n) (y := infI v n) (m := m) (by rw [infI_len _ hu']; exact hm) (by rw [infI_len _ hv']; exact hm)
          (fun k hk => by rw [infI_at hu' (by omega), infI_at hv' (by omega)]; exact h k hk) (by rw [infI_at hu' hm, infI_at hv' hm]; exact hne)
        rw [infI_at hu' hm, infI_at hv' hm] at this
        exact this
      rcases first_other (f := atW u) (g := atW v) (u.length + v.length) with h | ⟨m, h1, h2, h3⟩
      · rw [e _ hN h, e _ (Nat.le_refl _) h]
      · rw [e2 N m (by omega) h2 h3, e2 _ m h1 h2 h3]

theorem omI_none_left {v : List Int} (hv : 0 < v.length) : omI [] v = -1 := by
  unfold omI
  rw [infI_nil]
  have hl := infI_len (([] : List Int).length + v.length) hv
  cases hc : infI v (([] : List Int).length + v.length) with
  | nil => rw [hc] at hl; simp at hl; omega
  | cons a l => rfl
theorem omI_swap (u v : List Int) : omI v u = - omI u v := by
  unfold omI
  rw [Nat.add_comm v.length, cmpI_swap]
theorem omI_none_right {v : List Int} (hv : 0 < v.length) : omI v [] = 1 := by rw [omI_swap, omI_none_left hv]; rfl
theorem omI_nil : omI [] [] = 0 := by decide
theorem omI_other {u v : List Int} (hu : 0 < u.length) (hv : 0 < v.length) {m : Nat} (hm : m < u.length + v.length) (h : ∀ k, k < m → atW u k = atW v k) (hne : atW u m ≠ atW v m) : omI u v = if atW u m < atW v m then -1 else 1 := by
  unfold omI
  have := cmpI_first (x := infI u (u.length + v.length)) (y := infI v (u.length + v.length)) (m := m) (by rw [infI_len _ hu]; exact hm) (by rw [infI_len _ hv]; exact hm)
    (fun k hk => by rw [infI_at hu (by omega), infI_at hv (by omega)]; exact h k hk) (by rw [infI_at hu hm, infI_at hv hm]; exact hne)
  rw [infI_at hu hm, infI_at hv hm] at this
  exact this
theorem omI_same {u v : List Int} (hu : 0 < u.length) (hv : 0 < v.length) (h : ∀ k, k < u.length + v.length → atW u k = atW v k) : omI u v = 0 := by
  have : infI u (u.length + v.length) = infI v (u.length + v.length) := getD_ext (by rw [infI_len _ hu, infI_len _ hv]) fun k hk => by
    rw [infI_len _ hu] at hk
    rw [infI_at hu hk, infI_at hv hk, h k hk]
  unfold omI
  rw [this, cmpI_self]
theorem omI_zero {u v : List Int} (hu : 0 < u.length) (hv : 0 < v.length) : omI u v = 0 ↔ ∀ k, atW u k = atW v k := by
  constructor
  · intro h
    have := cmpI_zero h
    refine atW_same hu hv fun k hk => ?_
    rw [← infI_at hu hk, this, infI_at hv hk]
  · exact fun h => omI_same hu hv fun k _ => h k
theorem omI_neg {u v : List Int} (hu : 0 < u.length) (hv : 0 < v.length) : omI u v < 0 ↔ LtF (atW u) (atW v) := by
  rcases first_other (f := atW u) (g := atW v) (u.length + v.length) with h | ⟨m, h1, h2, h3⟩
  · rw [omI_same hu hv h]
    constructor
    · intro h; omega
    · rintro ⟨m, _, h2⟩
      have := atW_same hu hv h m
      omega
  · rw [omI_other hu hv h1 h2 h3]
    by_cases hlt : atW u m < atW v m
    · rw [if_pos hlt]
      exact ⟨fun _ => ⟨m, h2, hlt⟩, fun _ => by omega⟩
    · rw [if_neg hlt]
      refine ⟨fun h => by omega, fun h => absurd h fun h => ?_⟩
      have hgt : LtF (atW v) (atW u) := ⟨m, fun k hk => (h2 k hk).symm, by omega⟩
      exact (LtF.irr h hgt).elim

theorem omI_three (u v : List Int) : omI u v = -1 ∨ omI u v = 0 ∨ omI u v = 1 := cmpI_three _ _

/-- Of three, through the middle one. -/
theorem omI_trans (u v w : List Int) (h : omI u v ≤ 0) (h' : omI v w ≤ 0) : omI u w ≤ 0 := by
  have hN : ∀ a b : List Int, a.length + b.length ≤ u.length + v.length + w.length → cmpI (infI a (u.length + v.length + w.length)) (infI b (u.length + v.length + w.length)) = omI a b := fun a b h => omI_eq a b _ h
  rw [← hN u v (by omega)] at h
  rw [← hN v w (by omega)] at h'
  rw [← hN u w (by omega)]
  exact cmpI_trans _ _ _ h h'
theorem omI_alike (u v w : List Int) (h : omI u v = 0) : omI v w = omI u w := by
  have hN : ∀ a b : List Int, a.length + b.length ≤ u.length + v.length + w.length → cmpI (infI a (u.length + v.length + w.length)) (infI b (u.length + v.length + w.length)) = omI a b := fun a b h => omI_eq a b _ h
  rw [← hN u v (by omega)] at h
  rw [← hN v w (by omega), ← hN u w (by omega), cmpI_zero h]

/-- A word again and again is the same without end. -/
theorem atW_rep {u : List Int} {n : Nat} (hn : 0 < n) (hu : 0 < u.length) (k : Nat) : atW (repI u n) k = atW u k := by
  unfold atW
  rw [repI_at _ _ _ (by rw [repI_len]; exact Nat.mod_lt _ (Nat.mul_pos hn hu)), repI_len, Nat.mod_mul_left_mod]
theorem omI_rep {u : List Int} {a b : Nat} (hu : 0 < u.length) (ha : 0 < a) (hb : 0 < b) : omI (repI u a) (repI u b) = 0 :=
  (omI_zero (by rw [repI_len]; exact Nat.mul_pos ha hu) (by rw [repI_len]; exact Nat.mul_pos hb hu)).2 fun k => by rw [atW_rep ha hu, atW_rep hb hu]
theorem repI_root {u : List Int} (hu : 0 < u.length) : repI (u.take (rootN u)) (u.length / rootN u) = u := by
  obtain ⟨a1, a2, a3, a4, _⟩ := rootN_spec hu
  have hl : (u.take (rootN u)).length = rootN u := by rw [List.length_take]; omega
  have hm : u.length / rootN u * rootN u = u.length := Nat.div_mul_cancel a3
  refine getD_ext (by rw [repI_len, hl, hm]) fun k hk => ?_
  rw [repI_len, hl, hm] at hk
  rw [repI_at _ _ _ (by rw [hl, hm]; exact hk), hl, take_getD _ _ _ (Nat.mod_lt _ a1), ← a4.mod a1 k hk]
/-- The same without end just if there is one root. -/
theorem omI_root {u v : List Int} (hu : 0 < u.length) (hv : 0 < v.length) : omI u v = 0 ↔ u.take (rootN u) = v.take (rootN v) := by
  constructor
  · intro h
    have h1 := (omI_zero hu hv).1 h
    have e : repI u v.length = repI v u.length := by
      refine getD_ext (by rw [repI_len, repI_len, Nat.mul_comm]) fun k hk => ?_
      rw [repI_len] at hk
      rw [repI_at _ _ _ hk, repI_at _ _ _ (by rw [Nat.mul_comm]; exact hk)]
      exact h1 k
    rw [← root_rep hu hv, ← root_rep hv hu, e]
  · intro h
    obtain ⟨a1, a2, a3, _⟩ := rootN_spec hu
    obtain ⟨b1, b2, b3, _⟩ := rootN_spec hv
    have := omI_rep (u := u.take (rootN u)) (a := u.length / rootN u) (b := v.length / rootN v) (by rw [List.length_take]; omega) (Nat.div_pos a2 a1) (Nat.div_pos b2 b1)
    rw [repI_root hu, h, repI_root hv] at this
    exact this
/-- As what is long enough of both tells. -/
theorem omI_long {u v : List Int} (hu : 0 < u.length) (hv : 0 < v.length) : cmpI (repI u (2 * v.length)) (repI v (2 * u.length)) = omI u v := by
  have hL : 2 * v.length * u.length = 2 * u.length * v.length := by rw [Nat.mul_assoc, Nat.mul_assoc, Nat.mul_comm v.length]
  have g : ∀ {x : List Int} {n N : Nat}, 0 < x.length → n * x.length = N → repI x n = infI x N := by
    intro x n N hx hN
    refine getD_ext (by rw [repI_len, infI_len _ hx, hN]) fun k hk => ?_
    rw [repI_len] at hk
    rw [repI_at _ _ _ hk, infI_at hx (by omega)]
    rfl
  rw [g hu hL, g hv rfl, omI_eq]
  have e1 : 1 * u.length ≤ v.length * u.length := Nat.mul_le_mul_right _ hv
  have e2 : v.length * 1 ≤ v.length * u.length := Nat.mul_le_mul_left _ hu
  rw [Nat.mul_assoc, Nat.mul_comm u.length]
  omega
end Go.Proofs.Ytinnfcjkgddfeaa

/- Ranks, and the order of endless rows by doubling. Plain numbers, no conditions. -/
namespace Go.Proofs.Ytinnfcjkgddfeaa
set_option linter.unusedVariables false
set_option linter.unusedSimpArgs false

/-- How many times the pair of keys turns, up to the i-th. -/
def cls (ord : List Nat) (f s : Nat → Nat) : Nat → Nat
  | 0 => 0
  | i + 1 => cls ord f s i + (if f (ord.getD (i + 1) 0) = f (ord.getD i 0) ∧ s (ord.getD (i + 1) 0) = s (ord.getD i 0) then 0 else 1)

/-- Less by the first key, then by the second. -/
def Lt2 (f s : Nat → Nat) (p q : Nat) : Prop := f p < f q ∨ (f p = f q ∧ s p < s q)

theorem cls_le (ord : List Nat) (f s : Nat → Nat) : ∀ i, cls ord f s i ≤ i
  | 0 => Nat.le_refl _
  | i + 1 => by have := cls_le ord f s i; unfold cls; split <;> omega

theorem pair_at {R : Nat → Nat → Prop} {l : List Nat} (h : l.Pairwise R) {i j : Nat} (hij : i < j) (hj : j < l.length) : R (l.getD i 0) (l.getD j 0) := by
  have := List.pairwise_iff_getElem.1 h i j (by omega) hj hij
  simpa [List.getD, List.getElem?_eq_getElem hj, List.getElem?_eq_getElem (show i < l.length by omega)] using this

theorem cls_up {ord : List Nat} {f s : Nat → Nat} (h : ord.Pairwise fun p q => ¬ Lt2 f s q p) {i : Nat} : ∀ {j : Nat}, i ≤ j → j < ord.length →
    (cls ord f s i = cls ord f s j ∧ f (ord.getD i 0) = f (ord.getD j 0) ∧ s (ord.getD i 0) = s (ord.getD j 0)) ∨ (cls ord f s i < cls ord f s j ∧ Lt2 f s (ord.getD i 0) (ord.getD j 0)) := by
  intro j hij
  induction hij with
  | refl => intro _; exact .inl ⟨rfl, rfl, rfl⟩
  | step hm ih =>
    rename_i m
    intro hj
    have hj' : m + 1 < ord.length := hj
    have hs := pair_at h (show m < m + 1 by omega) hj'
    have ih' := ih (by omega)
    have hc : cls ord f s (m + 1) = cls ord f s m + (if f (ord.getD (m + 1) 0) = f (ord.getD m 0) ∧ s (ord.getD (m + 1) 0) = s (ord.getD m 0) then 0 else 1) := rfl
    unfold Lt2 at *
    show (cls ord f s i = cls ord f s (m + 1) ∧ _ = f (ord.getD (m + 1) 0) ∧ _ = s (ord.getD (m + 1) 0)) ∨ (cls ord f s i < cls ord f s (m + 1) ∧ (_ < f (ord.getD (m + 1) 0) ∨ _ = f (ord.getD (m + 1) 0) ∧ _ < s (ord.getD (m + 1) 0)))
    rw [hc]
    generalize ord.getD (m + 1) 0 = q at *
    generalize ord.getD m 0 = p at *
    generalize ord.getD i 0 = o at *
    split
    · rename_i e; omega
    · rename_i e; omega

/-- What the ranks of an order are. -/
theorem rank_iff {ord : List Nat} {f s rk : Nat → Nat} {M : Nat} (hp : ord.Perm (List.range M)) (h : ord.Pairwise fun p q => ¬ Lt2 f s q p) (hr : ∀ i, i < M → rk (ord.getD i 0) = cls ord f s i) :
    ∀ p q, p < M → q < M → (rk p < rk q ↔ Lt2 f s p q) := by
  have hl : ord.length = M := by rw [hp.length_eq, List.length_range]
  have key : ∀ i j, i ≤ j → j < M → (rk (ord.getD i 0) = rk (ord.getD j 0) ∧ f (ord.getD i 0) = f (ord.getD j 0) ∧ s (ord.getD i 0) = s (ord.getD j 0)) ∨ (rk (ord.getD i 0) < rk (ord.getD j 0) ∧ Lt2 f s (ord.getD i 0) (ord.getD j 0)) := fun i j hij hj => by
    rw [hr i (by omega), hr j hj]
    exact cls_up h hij (by omega)
  intro p q hpM hqM
  obtain ⟨i, hi, rfl⟩ := mem_getN (hp.mem_iff.2 (List.mem_range.2 hpM))
  obtain ⟨j, hj, rfl⟩ := mem_getN (hp.mem_iff.2 (List.mem_range.2 hqM))
  unfold Lt2 at *
  rcases Nat.le_total i j with g | g
  · have := key i j g (by omega); omega
  · have := key j i g (by omega); omega

theorem cls_onto (ord : List Nat) (f s : Nat → Nat) : ∀ i r, r ≤ cls ord f s i → ∃ j, j ≤ i ∧ cls ord f s j = r
  | 0, r, h => ⟨0, Nat.le_refl _, by have : cls ord f s 0 = 0 := rfl; omega⟩
  | i + 1, r, h => by
    by_cases e : r = cls ord f s (i + 1)
    · exact ⟨i + 1, Nat.le_refl _, e.symm⟩
    · have hc : cls ord f s (i + 1) = cls ord f s i + (if f (ord.getD (i + 1) 0) = f (ord.getD i 0) ∧ s (ord.getD (i + 1) 0) = s (ord.getD i 0) then 0 else 1) := rfl
      have : r ≤ cls ord f s i := by
        rw [hc] at h e
        split at h <;> split at e <;> omega
      obtain ⟨j, h1, h2⟩ := cls_onto ord f s i r this
      exact ⟨j, by omega, h2⟩
theorem cls_mono {ord : List Nat} {f s : Nat → Nat} {i j : Nat} (h : i ≤ j) : cls ord f s i ≤ cls ord f s j := by
  induction h with
  | refl => exact Nat.le_refl _
  | step _ ih =>
    rename_i m _
    have hc : cls ord f s (m + 1) = cls ord f s m + (if f (ord.getD (m + 1) 0) = f (ord.getD m 0) ∧ s (ord.getD (m + 1) 0) = s (ord.getD m 0) then 0 else 1) := rfl
    show _ ≤ cls ord f s (m + 1)
    omega

/-- How many ranks there are. -/
def clsT (ord : List Nat) (f s : Nat → Nat) (i : Nat) : Nat := match i with | 0 => 0 | i + 1 => cls ord f s i + 1

theorem rank_dense {ord : List Nat} {f s rk : Nat → Nat} {M : Nat} (hp : ord.Perm (List.range M)) (hr : ∀ i, i < M → rk (ord.getD i 0) = cls ord f s i) :
    (∀ p, p < M → rk p < clsT ord f s M) ∧ ∀ r, r < clsT ord f s M → ∃ p, p < M ∧ rk p = r := by
  have hl : ord.length = M := by rw [hp.length_eq, List.length_range]
  cases M with
  | zero => exact ⟨fun p h => by omega, fun r h => by simp [clsT] at h⟩
  | succ M =>
    constructor
    · intro p hpM
      obtain ⟨i, hi, rfl⟩ := mem_getN (hp.mem_iff.2 (List.mem_range.2 hpM))
      rw [hr i (by omega)]
      have := cls_mono (ord := ord) (f := f) (s := s) (show i ≤ M by omega)
      show _ < cls ord f s M + 1
      omega
    · intro r h
      obtain ⟨j, h1, h2⟩ := cls_onto ord f s M r (by simp only [clsT] at h; omega)
      refine ⟨ord.getD j 0, ?_, by rw [hr j (by omega), h2]⟩
      exact List.mem_range.1 (hp.mem_iff.1 (getN_mem (by omega)))

/-- Ranks that part no more than others did are the same ones. -/
theorem dense_up {M n : Nat} {a b : Nat → Nat} (hon : ∀ r, r < n → ∃ p, p < M ∧ a p = r) (hab : ∀ p q, p < M → q < M → a p < a q → b p < b q) : ∀ r p, p < M → a p = r → a p < n → r ≤ b p := by
  intro r
  induction r with
  | zero => intro p _ _ _; omega
  | succ r ih =>
    intro p hp e hn
    obtain ⟨q, hq, eq⟩ := hon r (by omega)
    have h1 := ih q hq eq (by omega)
    have h2 := hab q p hq hp (by omega)
    omega
theorem dense_same {M n : Nat} {a b : Nat → Nat} (hon : ∀ r, r < n → ∃ p, p < M ∧ a p = r) (han : ∀ p, p < M → a p < n) (hbn : ∀ p, p < M → b p < n) (hab : ∀ p q, p < M → q < M → a p < a q → b p < b q) : ∀ p, p < M → b p = a p := by
  have up : ∀ d p, p < M → a p + d + 1 = n → b p ≤ a p := by
    intro d
    induction d with
    | zero => intro p hp e; have := hbn p hp; omega
    | succ d ih =>
      intro p hp e
      obtain ⟨q, hq, eq⟩ := hon (a p + 1) (by omega)
      have h1 := ih q hq (by omega)
      have h2 := hab p q hp hq (by omega)
      omega
  intro p hp
  have h1 := dense_up hon hab _ p hp rfl (han p hp)
  have h2 := up (n - 1 - a p) p hp (by have := han p hp; omega)
  omega
theorem dense_more {M n m : Nat} {a b : Nat → Nat} (hon : ∀ r, r < n → ∃ p, p < M ∧ a p = r) (hbm : ∀ p, p < M → b p < m) (hab : ∀ p q, p < M → q < M → a p < a q → b p < b q) : n ≤ m := by
  cases n with
  | zero => omega
  | succ n =>
    obtain ⟨p, hp, e⟩ := hon n (by omega)
    have h1 := dense_up hon hab _ p hp rfl (by omega)
    have := hbm p hp
    omega

/-- So many steps on. -/
def itN (nx : Nat → Nat) : Nat → Nat → Nat
  | 0, p => p
  | k + 1, p => itN nx k (nx p)
theorem itN_add (nx : Nat → Nat) : ∀ (a b p : Nat), itN nx (a + b) p = itN nx b (itN nx a p)
  | 0, b, p => by rw [Nat.zero_add]; rfl
  | a + 1, b, p => by
    rw [show a + 1 + b = (a + b) + 1 by omega]
    exact itN_add nx a b (nx p)
theorem itN_lt {nx : Nat → Nat} {M : Nat} (h : ∀ p, p < M → nx p < M) : ∀ k p, p < M → itN nx k p < M
  | 0, p, hp => hp
  | k + 1, p, hp => itN_lt h k (nx p) (h p hp)
/-- What is read from p on. -/
def seqN (b : Nat → Int) (nx : Nat → Nat) (p k : Nat) : Int := b (itN nx k p)
theorem seqN_on (b : Nat → Int) (nx : Nat → Nat) (L p k : Nat) : seqN b nx (itN nx L p) k = seqN b nx p (L + k) := by
  unfold seqN; rw [itN_add]

/-- Less within the first L. -/
def LtN (L : Nat) (f g : Nat → Int) : Prop := ∃ m, m < L ∧ (∀ k, k < m → f k = g k) ∧ f m < g m
theorem LtN.irr {L : Nat} {f g : Nat → Int} (h : LtN L f g) (k : LtN L g f) : False := by
  obtain ⟨m, _, h1, h2⟩ := h
  obtain ⟨n, _, k1, k2⟩ := k
  exact LtF.irr ⟨m, h1, h2⟩ ⟨n, k1, k2⟩
theorem LtN.three {L : Nat} (f g : Nat → Int) : LtN L f g ∨ LtN L g f ∨ ∀ k, k < L → f k = g k := by
  rcases first_other (f := f) (g := g) L with h | ⟨m, h1, h2, h3⟩
  · exact .inr (.inr h)
  · by_cases hlt : f m < g m
    · exact .inl ⟨m, h1, h2, hlt⟩
    · exact .inr (.inl ⟨m, h1, fun k hk => (h2 k hk).symm, by omega⟩)
theorem LtN.ne {L : Nat} {f g : Nat → Int} (h : LtN L f g) (k : ∀ k, k < L → f k = g k) : False := by
  obtain ⟨m, hm, _, h2⟩ := h
  have := k m hm
  omega
/-- By both halves. -/
theorem LtN.twice {L : Nat} {f g : Nat → Int} : LtN (L + L) f g ↔ LtN L f g ∨ ((∀ k, k < L → f k = g k) ∧ LtN L (fun k => f (L + k)) (fun k => g (L + k))) := by
  constructor
  · rintro ⟨m, hm, h1, h2⟩
    by_cases h : m < L
    · exact .inl ⟨m, h, h1, h2⟩
    · refine .inr ⟨fun k hk => h1 k (by omega), m - L, by omega, fun k hk => h1 (L + k) (by omega), ?_⟩
      show f (L + (m - L)) < g (L + (m - L))
      rw [show L + (m - L) = m by omega]; exact h2
  · rintro (⟨m, hm, h1, h2⟩ | ⟨h0, m, hm, h1, h2⟩)
    · exact ⟨m, by omega, h1, h2⟩
    · refine ⟨L + m, by omega, fun k hk => ?_, h2⟩
      by_cases h : k < L
      · exact h0 k h
      · have := h1 (k - L) (by omega)
        simp only [show L + (k - L) = k by omega] at this
        exact this

/-- The ranks tell the order by the first L. -/
def Rk (M : Nat) (b : Nat → Int) (nx : Nat → Nat) (L : Nat) (rk : Nat → Nat) : Prop := ∀ p q, p < M → q < M → (rk p < rk q ↔ LtN L (seqN b nx p) (seqN b nx q))
theorem Rk.same {M L : Nat} {b : Nat → Int} {nx rk : Nat → Nat} (h : Rk M b nx L rk) {p q : Nat} (hp : p < M) (hq : q < M) : rk p = rk q ↔ ∀ k, k < L → seqN b nx p k = seqN b nx q k := by
  have h1 := h p q hp hq
  have h2 := h q p hq hp
  rcases LtN.three (L := L) (seqN b nx p) (seqN b nx q) with g | g | g
  · have := h1.2 g
    exact ⟨fun e => by omega, fun e => (LtN.ne g e).elim⟩
  · have := h2.2 g
    exact ⟨fun e => by omega, fun e => (LtN.ne g (fun k hk => (e k hk).symm)).elim⟩
  · refine ⟨fun _ => g, fun _ => ?_⟩
    have a1 : ¬ rk p < rk q := fun e => LtN.ne (h1.1 e) g
    have a2 : ¬ rk q < rk p := fun e => LtN.ne (h2.1 e) (fun k hk => (g k hk).symm)
    omega
theorem Rk.start {M : Nat} {b : Nat → Int} {nx rk : Nat → Nat} (h : ∀ p, p < M → b p = (rk p : Int)) : Rk M b nx 1 rk := by
  intro p q hp hq
  have e1 : seqN b nx p 0 = (rk p : Int) := h p hp
  have e2 : seqN b nx q 0 = (rk q : Int) := h q hq
  constructor
  · intro e
    exact ⟨0, by omega, fun k hk => by omega, by rw [e1, e2]; omega⟩
  · rintro ⟨m, hm, _, h2⟩
    have : m = 0 := by omega
    subst this
    rw [e1, e2] at h2
    omega
theorem Rk.twice {M L : Nat} {b : Nat → Int} {nx rk : Nat → Nat} (hn : ∀ p, p < M → nx p < M) (h : Rk M b nx L rk) {p q : Nat} (hp : p < M) (hq : q < M) :
    Lt2 rk (fun p => rk (itN nx L p)) p q ↔ LtN (L + L) (seqN b nx p) (seqN b nx q) := by
  rw [LtN.twice]
  unfold Lt2
  have e1 : (fun k => seqN b nx p (L + k)) = seqN b nx (itN nx L p) := by funext k; exact (seqN_on b nx L p k).symm
  have e2 : (fun k => seqN b nx q (L + k)) = seqN b nx (itN nx L q) := by funext k; exact (seqN_on b nx L q k).symm
  rw [e1, e2, ← h p q hp hq, ← h _ _ (itN_lt hn L p hp) (itN_lt hn L q hq), h.same hp hq]

/-- Ranks that twice as many do not part are parted by none. -/
theorem Rk.whole {M L : Nat} {b : Nat → Int} {nx rk : Nat → Nat} (hL : 0 < L) (hn : ∀ p, p < M → nx p < M) (h : Rk M b nx L rk) (hs : ∀ p q, p < M → q < M → rk p = rk q → rk (itN nx L p) = rk (itN nx L q)) {p q : Nat} (hp : p < M) (hq : q < M) :
    (rk p = rk q → ∀ k, seqN b nx p k = seqN b nx q k) := by
  intro e k
  induction k using Nat.strongRecOn generalizing p q with
  | ind k ih =>
    by_cases hk : k < L
    · exact (h.same hp hq).1 e k hk
    · have h1 := ih (k - L) (by omega) (itN_lt hn L p hp) (itN_lt hn L q hq) (hs p q hp hq e)
      rw [seqN_on, seqN_on, show L + (k - L) = k by omega] at h1
      exact h1

/-- Less without end; of the same ones by place. -/
def RR (b : Nat → Int) (nx : Nat → Nat) (p q : Nat) : Prop := LtF (seqN b nx p) (seqN b nx q) ∨ ((∀ k, seqN b nx p k = seqN b nx q k) ∧ p < q)

theorem Rk.order {M L : Nat} {b : Nat → Int} {nx rk : Nat → Nat} (hL : 0 < L) (hn : ∀ p, p < M → nx p < M) (h : Rk M b nx L rk) (hs : ∀ p q, p < M → q < M → rk p = rk q → rk (itN nx L p) = rk (itN nx L q)) {p q : Nat} (hp : p < M) (hq : q < M)
    (ho : rk p < rk q ∨ (rk p = rk q ∧ (rk (itN nx L p) < rk (itN nx L q) ∨ (rk (itN nx L p) = rk (itN nx L q) ∧ p < q)))) : RR b nx p q := by
  rcases ho with ho | ⟨h1, ho⟩
  · obtain ⟨m, _, h1, h2⟩ := (h p q hp hq).1 ho
    exact .inl ⟨m, h1, h2⟩
  · have := hs p q hp hq h1
    exact .inr ⟨h.whole hL hn hs hp hq h1, by omega⟩
end Go.Proofs.Ytinnfcjkgddfeaa

/- What omega.inOrder keeps from round to round. Plain numbers, no conditions. -/
namespace Go.Proofs.Ytinnfcjkgddfeaa
set_option linter.unusedVariables false
set_option linter.unusedSimpArgs false

def thL (rs ah : List Nat) : List Nat := ah.map fun p => rs.getD p 0
def ordL (M : Nat) (rs ah : List Nat) : List Nat := csort (max 256 M) (csort (max 256 M) (List.range M) fun p => (thL rs ah).getD p 0) fun p => rs.getD p 0
abbrev clsL (M : Nat) (rs ah : List Nat) (i : Nat) : Nat := cls (ordL M rs ah) (fun p => rs.getD p 0) (fun p => (thL rs ah).getD p 0) i
abbrev numL (M : Nat) (rs ah : List Nat) : Nat := clsT (ordL M rs ah) (fun p => rs.getD p 0) (fun p => (thL rs ah).getD p 0) M

structure InO (M : Nat) (b : Nat → Int) (nx : Nat → Nat) (num : Nat) (rs ah : List Nat) : Prop where
  lr : rs.length = M
  la : ah.length = M
  cl : ∀ p, p < M → nx p < M
  ex : ∃ L, 0 < L ∧ (∀ p, p < M → ah.getD p 0 = itN nx L p) ∧ Rk M b nx L fun p => rs.getD p 0
  bd : ∀ p, p < M → rs.getD p 0 < max 256 M
  dn : num = 0 ∨ ((∀ p, p < M → rs.getD p 0 < num) ∧ ∀ r, r < num → ∃ p, p < M ∧ rs.getD p 0 = r)

section
variable {M num : Nat} {b : Nat → Int} {nx : Nat → Nat} {rs ah : List Nat}

theorem mapN_at {l : List Nat} {f : Nat → Nat} {p : Nat} (h : p < l.length) : (l.map f).getD p 0 = f (l.getD p 0) := by
  simp [List.getD, List.getElem?_eq_getElem h]
theorem InO.asLt (h : InO M b nx num rs ah) {p : Nat} (hp : p < M) : ah.getD p 0 < M := by
  obtain ⟨L, _, h1, _⟩ := h.ex
  rw [h1 p hp]
  exact itN_lt h.cl L p hp
theorem InO.asIn (h : InO M b nx num rs ah) : ∀ p ∈ ah, p < M := fun p hp => by
  obtain ⟨i, hi, rfl⟩ := mem_getN hp
  exact h.asLt (by rw [h.la] at hi; exact hi)
theorem InO.thLen (h : InO M b nx num rs ah) : (thL rs ah).length = M := by unfold thL; rw [List.length_map, h.la]
theorem InO.thAt (h : InO M b nx num rs ah) {p : Nat} (hp : p < M) : (thL rs ah).getD p 0 = rs.getD (ah.getD p 0) 0 := by
  unfold thL; rw [mapN_at (by rw [h.la]; exact hp)]
theorem InO.thBd (h : InO M b nx num rs ah) : ∀ p, p < M → (thL rs ah).getD p 0 < max 256 M := fun p hp => by
  rw [h.thAt hp]; exact h.bd _ (h.asLt hp)
theorem InO.perm1 (h : InO M b nx num rs ah) : (csort (max 256 M) (List.range M) fun p => (thL rs ah).getD p 0).Perm (List.range M) :=
  csort_perm fun p hp => h.thBd p (List.mem_range.1 hp)
theorem InO.perm (h : InO M b nx num rs ah) : (ordL M rs ah).Perm (List.range M) :=
  (csort_perm fun p hp => h.bd p (List.mem_range.1 (h.perm1.mem_iff.1 hp))).trans h.perm1
theorem InO.sorted (h : InO M b nx num rs ah) : (ordL M rs ah).Pairwise fun p q => rs.getD p 0 < rs.getD q 0 ∨ (rs.getD p 0 = rs.getD q 0 ∧ ((thL rs ah).getD p 0 < (thL rs ah).getD q 0 ∨ ((thL rs ah).getD p 0 = (thL rs ah).getD q 0 ∧ p < q))) :=
  csort_sorted _ _ (csort_sorted _ _ List.pairwise_lt_range)
theorem InO.sorted2 (h : InO M b nx num rs ah) : (ordL M rs ah).Pairwise fun p q => ¬ Lt2 (fun p => rs.getD p 0) (fun p => (thL rs ah).getD p 0) q p := by
  refine h.sorted.imp ?_
  intro p q hpq
  simp only [Lt2]
  omega
theorem InO.lt2 (h : InO M b nx num rs ah) {L : Nat} (h1 : ∀ p, p < M → ah.getD p 0 = itN nx L p) {p q : Nat} (hp : p < M) (hq : q < M) :
    Lt2 (fun p => rs.getD p 0) (fun p => (thL rs ah).getD p 0) p q ↔ Lt2 (fun p => rs.getD p 0) (fun p => (fun p => rs.getD p 0) (itN nx L p)) p q := by
  simp only [Lt2]
  rw [h.thAt hp, h.thAt hq, h1 p hp, h1 q hq]

/-- No more were parted: it is in order. -/
theorem InO.stop (h : InO M b nx num rs ah) {bs : List Nat} (hb : ∀ i, i < M → bs.getD ((ordL M rs ah).getD i 0) 0 = clsL M rs ah i) (he : numL M rs ah = num) : (ordL M rs ah).Pairwise (RR b nx) := by
  obtain ⟨L, hL, h1, hR⟩ := h.ex
  rcases h.dn with h0 | ⟨hlt, hon⟩
  · have hM : M = 0 := by
      cases M with
      | zero => rfl
      | succ M => exfalso; rw [h0] at he; simp [numL, clsT] at he
    have hl : (ordL M rs ah).length = 0 := by rw [h.perm.length_eq, List.length_range, hM]
    rw [List.length_eq_zero_iff.1 hl]
    exact List.Pairwise.nil
  · have hi := rank_iff (rk := fun p => bs.getD p 0) h.perm h.sorted2 hb
    obtain ⟨d1, d2⟩ := rank_dense (rk := fun p => bs.getD p 0) h.perm hb
    have hsame := dense_same (M := M) (n := num) (a := fun p => rs.getD p 0) (b := fun p => bs.getD p 0) hon hlt (fun p hp => by rw [← he]; exact d1 p hp)
      (fun p q hp hq hpq => (hi p q hp hq).2 (.inl hpq))
    have hs : ∀ p q, p < M → q < M → rs.getD p 0 = rs.getD q 0 → rs.getD (itN nx L p) 0 = rs.getD (itN nx L q) 0 := fun p q hp hq e => by
      have e2 : bs.getD p 0 = bs.getD q 0 := by rw [hsame p hp, hsame q hq]; exact e
      have n1 : ¬ Lt2 (fun p => rs.getD p 0) (fun p => (thL rs ah).getD p 0) p q := fun hh => by have := (hi p q hp hq).2 hh; omega
      have n2 : ¬ Lt2 (fun p => rs.getD p 0) (fun p => (thL rs ah).getD p 0) q p := fun hh => by have := (hi q p hq hp).2 hh; omega
      simp only [Lt2] at n1 n2
      rw [h.thAt hp, h.thAt hq, h1 p hp, h1 q hq] at n1 n2
      omega
    refine List.Pairwise.imp_of_mem ?_ h.sorted
    intro p q hp hq hpq
    have hp' := List.mem_range.1 (h.perm.mem_iff.1 hp)
    have hq' := List.mem_range.1 (h.perm.mem_iff.1 hq)
    rw [h.thAt hp', h.thAt hq', h1 p hp', h1 q hq'] at hpq
    exact hR.order hL h.cl hs hp' hq' hpq

theorem numL_le (M : Nat) (rs ah : List Nat) : numL M rs ah ≤ M := by
  cases M with
  | zero => exact Nat.le_refl _
  | succ M => have := cls_le (ordL (M + 1) rs ah) (fun p => rs.getD p 0) (fun p => (thL rs ah).getD p 0) M; show cls _ _ _ _ + 1 ≤ _; omega

/-- Some were: on with twice as many. -/
theorem InO.next (h : InO M b nx num rs ah) {bs : List Nat} (hl : bs.length = M) (hb : ∀ i, i < M → bs.getD ((ordL M rs ah).getD i 0) 0 = clsL M rs ah i) (he : numL M rs ah ≠ num) : InO M b nx (numL M rs ah) bs (thL ah ah) ∧ num < numL M rs ah := by
  obtain ⟨L, hL, h1, hR⟩ := h.ex
  have hi := rank_iff (rk := fun p => bs.getD p 0) h.perm h.sorted2 hb
  obtain ⟨d1, d2⟩ := rank_dense (rk := fun p => bs.getD p 0) h.perm hb
  have hn := numL_le M rs ah
  refine ⟨⟨hl, ?_, h.cl, ⟨L + L, by omega, fun p hp => ?_, fun p q hp hq => ?_⟩, fun p hp => ?_, .inr ⟨d1, d2⟩⟩, ?_⟩
  · unfold thL; rw [List.length_map, h.la]
  · unfold thL
    rw [mapN_at (by rw [h.la]; exact hp), h1 _ (h.asLt hp), h1 p hp, itN_add]
  · rw [hi p q hp hq, h.lt2 h1 hp hq]
    exact hR.twice h.cl hp hq
  · have := d1 p hp
    have h2 : clsT (ordL M rs ah) (fun p => rs.getD p 0) (fun p => (thL rs ah).getD p 0) M ≤ M := hn
    omega
  · rcases h.dn with h0 | ⟨hlt, hon⟩
    · omega
    · have := dense_more (M := M) (n := num) (m := numL M rs ah) (a := fun p => rs.getD p 0) (b := fun p => bs.getD p 0) hon d1 (fun p q hp hq hpq => (hi p q hp hq).2 (.inl hpq))
      omega

theorem InO.start {M : Nat} {b : Nat → Int} {nx : Nat → Nat} {rs ah : List Nat} (lr : rs.length = M) (la : ah.length = M) (hnx : ∀ p, p < M → nx p < M) (hr : ∀ p, p < M → b p = (rs.getD p 0 : Nat)) (hb : ∀ p, p < M → rs.getD p 0 < 256) (ha : ∀ p, p < M → ah.getD p 0 = nx p) : InO M b nx 0 rs ah :=
  ⟨lr, la, hnx, ⟨1, by omega, fun p hp => by rw [ha p hp]; rfl, Rk.start hr⟩, fun p hp => by have := hb p hp; omega, .inl rfl⟩
end
end Go.Proofs.Ytinnfcjkgddfeaa

/- All rotations of words, listed and in order. Plain numbers, no conditions. -/
namespace Go.Proofs.Ytinnfcjkgddfeaa
set_option linter.unusedVariables false
set_option linter.unusedSimpArgs false

def wordAt (zss : List (List Int)) (i : Nat) : List Int := zss.getD i []
def rowP (i n : Nat) : List (Nat × Nat) := (List.range n).map fun j => (i, j)
/-- All rotations of the first so many words. -/
def listK (zss : List (List Int)) (k : Nat) : List (Nat × Nat) := (List.range k).flatMap fun i => rowP i (wordAt zss i).length
def listP (zss : List (List Int)) : List (Nat × Nat) := listK zss zss.length
def offP (zss : List (List Int)) (k : Nat) : Nat := (listK zss k).length

theorem rowP_len (i n : Nat) : (rowP i n).length = n := by simp [rowP]
theorem rowP_at {i n j : Nat} (h : j < n) : (rowP i n).getD j (0, 0) = (i, j) := by simp [rowP, List.getD, h]
theorem rowP_succ (i n : Nat) : rowP i (n + 1) = rowP i n ++ [(i, n)] := by simp [rowP, List.range_succ]
theorem listK_succ (zss : List (List Int)) (k : Nat) : listK zss (k + 1) = listK zss k ++ rowP k (wordAt zss k).length := by
  unfold listK
  rw [List.range_succ, List.flatMap_append]
  simp
theorem offP_succ (zss : List (List Int)) (k : Nat) : offP zss (k + 1) = offP zss k + (wordAt zss k).length := by
  unfold offP
  rw [listK_succ, List.length_append, rowP_len]
theorem offP_mono (zss : List (List Int)) : ∀ {k l : Nat}, k ≤ l → offP zss k ≤ offP zss l := by
  intro k l h
  induction h with
  | refl => exact Nat.le_refl _
  | step _ ih => rw [offP_succ]; omega
theorem offP_in (zss : List (List Int)) {k l t : Nat} (h : k < l) (ht : t < (wordAt zss k).length) : offP zss k + t < offP zss l := by
  have := offP_mono zss (show k + 1 ≤ l from h)
  rw [offP_succ] at this
  omega
theorem listK_at (zss : List (List Int)) : ∀ {K k t : Nat}, k < K → t < (wordAt zss k).length → (listK zss K).getD (offP zss k + t) (0, 0) = (k, t) := by
  intro K
  induction K with
  | zero => intro k t h _; omega
  | succ K ih =>
    intro k t hk ht
    rw [listK_succ]
    by_cases h : k < K
    · have hlt : offP zss k + t < (listK zss K).length := offP_in zss h ht
      rw [← ih h ht]
      simp only [List.getD_eq_getElem?_getD]
      rw [List.getElem?_append_left hlt]
    · have e : k = K := by omega
      subst e
      rw [← rowP_at (i := k) ht]
      simp only [List.getD_eq_getElem?_getD]
      rw [List.getElem?_append_right (by unfold offP; omega)]
      congr 2
      unfold offP; omega
theorem listK_split (zss : List (List Int)) : ∀ {K j : Nat}, j < offP zss K → ∃ k t, k < K ∧ t < (wordAt zss k).length ∧ j = offP zss k + t := by
  intro K
  induction K with
  | zero => intro j h; simp [offP, listK] at h
  | succ K ih =>
    intro j hj
    by_cases h : j < offP zss K
    · obtain ⟨k, t, h1, h2, h3⟩ := ih h
      exact ⟨k, t, by omega, h2, h3⟩
    · rw [offP_succ] at hj
      exact ⟨K, j - offP zss K, by omega, by omega, by omega⟩
theorem offP_flat (zss : List (List Int)) : ∀ {k : Nat}, k ≤ zss.length → offP zss k = (zss.take k).flatten.length := by
  intro k
  induction k with
  | zero => intro _; simp [offP, listK]
  | succ k ih =>
    intro h
    rw [offP_succ, ih (by omega), List.take_add_one, List.getElem?_eq_getElem (by omega), Option.toList_some, List.flatten_append, List.length_append]
    simp [wordAt, List.getD, List.getElem?_eq_getElem (show k < zss.length by omega)]

/-- What is read from a rotation's beginning on, without end. -/
def sqP (zss : List (List Int)) (t : Nat × Nat) (k : Nat) : Int := (wordAt zss t.1).getD ((t.2 + k) % (wordAt zss t.1).length) 0
theorem sqP_turn {zss : List (List Int)} {t : Nat × Nat} (h : t.2 < (wordAt zss t.1).length) (k : Nat) : atW (turnI (wordAt zss t.1) t.2) k = sqP zss t k := by
  unfold atW sqP
  rw [turnI_len (by omega), turnI_at h (Nat.mod_lt _ (by omega)), Nat.add_mod_mod]
/-- Ahead in the list. -/
def Bef (t u : Nat × Nat) : Prop := t.1 < u.1 ∨ (t.1 = u.1 ∧ t.2 < u.2)
/-- Less without end; of the same ones by the word's place, then the rotation's. -/
def RP (zss : List (List Int)) (t u : Nat × Nat) : Prop := LtF (sqP zss t) (sqP zss u) ∨ ((∀ k, sqP zss t k = sqP zss u k) ∧ Bef t u)

theorem RP.asymm {zss : List (List Int)} {t u : Nat × Nat} (h : RP zss t u) (k : RP zss u t) : False := by
  rcases h with h | ⟨h1, h2⟩ <;> rcases k with k | ⟨k1, k2⟩
  · exact LtF.irr h k
  · obtain ⟨m, _, h2⟩ := h; have := k1 m; omega
  · obtain ⟨m, _, h3⟩ := k; have := h1 m; omega
  · unfold Bef at *; omega

def bP (zss : List (List Int)) (p : Nat) : Int := sqP zss ((listP zss).getD p (0, 0)) 0
def nxP (zss : List (List Int)) (p : Nat) : Nat := p - ((listP zss).getD p (0, 0)).2 + (((listP zss).getD p (0, 0)).2 + 1) % (wordAt zss ((listP zss).getD p (0, 0)).1).length

theorem listP_at {zss : List (List Int)} {i j : Nat} (hi : i < zss.length) (hj : j < (wordAt zss i).length) : (listP zss).getD (offP zss i + j) (0, 0) = (i, j) := listK_at zss hi hj
theorem nxP_at {zss : List (List Int)} {i j : Nat} (hi : i < zss.length) (hj : j < (wordAt zss i).length) : nxP zss (offP zss i + j) = offP zss i + (j + 1) % (wordAt zss i).length := by
  unfold nxP
  rw [listP_at hi hj]
  show offP zss i + j - j + (j + 1) % (wordAt zss i).length = _
  omega
theorem itP_at {zss : List (List Int)} {i : Nat} (hi : i < zss.length) : ∀ (k : Nat) {j : Nat}, j < (wordAt zss i).length → itN (nxP zss) k (offP zss i + j) = offP zss i + (j + k) % (wordAt zss i).length
  | 0, j, hj => by rw [Nat.add_zero, Nat.mod_eq_of_lt hj]; rfl
  | k + 1, j, hj => by
    show itN (nxP zss) k (nxP zss (offP zss i + j)) = _
    rw [nxP_at hi hj, itP_at hi k (Nat.mod_lt _ (by omega)), Nat.mod_add_mod]
    congr 2
    omega
theorem seqP_at {zss : List (List Int)} {i j : Nat} (hi : i < zss.length) (hj : j < (wordAt zss i).length) (k : Nat) : seqN (bP zss) (nxP zss) (offP zss i + j) k = sqP zss (i, j) k := by
  have hm : (j + k) % (wordAt zss i).length < (wordAt zss i).length := Nat.mod_lt _ (by omega)
  unfold seqN bP
  rw [itP_at hi k hj, listP_at hi hm]
  simp only [sqP, Nat.add_zero, Nat.mod_mod]
theorem nxP_lt {zss : List (List Int)} : ∀ p, p < (listP zss).length → nxP zss p < (listP zss).length := fun p hp => by
  obtain ⟨i, j, hi, hj, rfl⟩ := listK_split zss (K := zss.length) hp
  rw [nxP_at hi hj]
  exact offP_in zss hi (Nat.mod_lt _ (by omega))
theorem RR_RP {zss : List (List Int)} {p q : Nat} (hp : p < (listP zss).length) (hq : q < (listP zss).length) (h : RR (bP zss) (nxP zss) p q) : RP zss ((listP zss).getD p (0, 0)) ((listP zss).getD q (0, 0)) := by
  obtain ⟨i, j, hi, hj, rfl⟩ := listK_split zss (K := zss.length) hp
  obtain ⟨i', j', hi', hj', rfl⟩ := listK_split zss (K := zss.length) hq
  rw [listP_at hi hj, listP_at hi' hj']
  have e1 : seqN (bP zss) (nxP zss) (offP zss i + j) = sqP zss (i, j) := by funext k; exact seqP_at hi hj k
  have e2 : seqN (bP zss) (nxP zss) (offP zss i' + j') = sqP zss (i', j') := by funext k; exact seqP_at hi' hj' k
  unfold RR at h
  rw [e1, e2] at h
  rcases h with h | ⟨h1, h2⟩
  · exact .inl h
  · refine .inr ⟨h1, ?_⟩
    show i < i' ∨ (i = i' ∧ j < j')
    rcases Nat.lt_trichotomy i i' with g | g | g
    · exact .inl g
    · subst g; exact .inr ⟨rfl, by omega⟩
    · have := offP_in zss g hj'; omega

theorem map_range_getD {α : Type} (l : List α) (d : α) : (List.range l.length).map (fun p => l.getD p d) = l := by
  refine List.ext_getElem (by simp) fun k h1 h2 => ?_
  simp [List.getD, List.getElem?_eq_getElem h2]
/-- The order that omega makes, as pairs. -/
theorem turns_sorted {zss : List (List Int)} {ord : List Nat} (hp : ord.Perm (List.range (listP zss).length)) (hr : ord.Pairwise (RR (bP zss) (nxP zss))) :
    (ord.map fun p => (listP zss).getD p (0, 0)).Perm (listP zss) ∧ (ord.map fun p => (listP zss).getD p (0, 0)).Pairwise (RP zss) := by
  constructor
  · have := hp.map fun p => (listP zss).getD p (0, 0)
    rwa [map_range_getD] at this
  · rw [List.pairwise_map]
    refine List.Pairwise.imp_of_mem ?_ hr
    intro p q h1 h2 h
    exact RR_RP (List.mem_range.1 (hp.mem_iff.1 h1)) (List.mem_range.1 (hp.mem_iff.1 h2)) h
theorem sorted_unique {zss : List (List Int)} {l l' : List (Nat × Nat)} (h1 : l.Perm (listP zss)) (h2 : l'.Perm (listP zss)) (k1 : l.Pairwise (RP zss)) (k2 : l'.Pairwise (RP zss)) : l = l' :=
  List.Perm.eq_of_pairwise (le := RP zss) (fun a b _ _ h k => (h.asymm k).elim) k1 k2 (h1.trans h2.symm)

/-- What the document's search for the place keeps. -/
def Ins (zss : List (List Int)) (out : List (Nat × Nat)) (t : Nat × Nat) (j : Nat) : Prop := ∀ m, j ≤ m → m < out.length → LtF (sqP zss t) (sqP zss (out.getD m (0, 0)))
theorem getP_mem {l : List (Nat × Nat)} {i : Nat} (h : i < l.length) : l.getD i (0, 0) ∈ l := by
  rw [List.getD_eq_getElem?_getD, List.getElem?_eq_getElem h]
  exact List.getElem_mem h
theorem mem_getP {l : List (Nat × Nat)} {x : Nat × Nat} (h : x ∈ l) : ∃ i, i < l.length ∧ l.getD i (0, 0) = x := by
  obtain ⟨i, hi, e⟩ := List.mem_iff_getElem.1 h
  exact ⟨i, hi, by rw [List.getD_eq_getElem?_getD, List.getElem?_eq_getElem hi]; exact e⟩
theorem pairP_at {R : Nat × Nat → Nat × Nat → Prop} {l : List (Nat × Nat)} (h : l.Pairwise R) {i j : Nat} (hij : i < j) (hj : j < l.length) : R (l.getD i (0, 0)) (l.getD j (0, 0)) := by
  have := List.pairwise_iff_getElem.1 h i j (by omega) hj hij
  simpa [List.getD, List.getElem?_eq_getElem hj, List.getElem?_eq_getElem (show i < l.length by omega)] using this
/-- In its place: what is ahead of it is not greater, what is behind it is. -/
theorem Ins.place {zss : List (List Int)} {out : List (Nat × Nat)} {t : Nat × Nat} {j : Nat} (hj : j ≤ out.length) (h : Ins zss out t j) (hs : out.Pairwise (RP zss)) (hb : ∀ u ∈ out, Bef u t)
    (he : j = 0 ∨ ¬ LtF (sqP zss t) (sqP zss (out.getD (j - 1) (0, 0)))) : (out.take j ++ [t] ++ out.drop j).Pairwise (RP zss) := by
  have hahead : ∀ x ∈ out.take j, RP zss x t := fun x hx => by
    have hx' : x ∈ out := List.mem_of_mem_take hx
    obtain ⟨m, hm, rfl⟩ := mem_getP hx
    rw [List.length_take] at hm
    have e0 : (out.take j).getD m (0, 0) = out.getD m (0, 0) := by
      simp only [List.getD_eq_getElem?_getD, List.getElem?_take]
      rw [if_pos (by omega)]
    rw [e0] at hx' ⊢
    have hne : ¬ LtF (sqP zss t) (sqP zss (out.getD m (0, 0))) := fun hlt => by
      rcases he with he | he
      · omega
      · by_cases hmj : m = j - 1
        · subst hmj; exact he hlt
        · rcases pairP_at hs (show m < j - 1 by omega) (by omega) with g | ⟨g, _⟩
          · exact he (LtF.trans hlt g)
          · obtain ⟨n, n1, n2⟩ := hlt
            exact he ⟨n, fun k hk => (n1 k hk).trans (g k), by rw [← g n]; exact n2⟩
    by_cases hlt : LtF (sqP zss (out.getD m (0, 0))) (sqP zss t)
    · exact .inl hlt
    · refine .inr ⟨fun k => ?_, hb _ hx'⟩
      rcases first_other (f := sqP zss (out.getD m (0, 0))) (g := sqP zss t) (k + 1) with g | ⟨n, _, g1, g2⟩
      · exact g k (by omega)
      · exfalso
        by_cases g3 : sqP zss (out.getD m (0, 0)) n < sqP zss t n
        · exact hlt ⟨n, g1, g3⟩
        · exact hne ⟨n, fun k hk => (g1 k hk).symm, by omega⟩
  have hbehind : ∀ y ∈ out.drop j, RP zss t y := fun y hy => by
    obtain ⟨m, hm, rfl⟩ := mem_getP hy
    rw [List.length_drop] at hm
    have e0 : (out.drop j).getD m (0, 0) = out.getD (j + m) (0, 0) := by
      simp only [List.getD_eq_getElem?_getD, List.getElem?_drop]
    rw [e0]
    exact .inl (h (j + m) (by omega) (by omega))
  have hs' : (out.take j ++ out.drop j).Pairwise (RP zss) := by rw [List.take_append_drop]; exact hs
  rw [List.pairwise_append] at hs' ⊢
  obtain ⟨p1, p2, p3⟩ := hs'
  refine ⟨?_, p2, ?_⟩
  · rw [List.pairwise_append]
    exact ⟨p1, List.pairwise_singleton _ _, fun a ha b hb => by rw [List.mem_singleton] at hb; subst hb; exact hahead a ha⟩
  · intro a ha y hy
    rcases List.mem_append.1 ha with ha | ha
    · exact p3 a ha y hy
    · rw [List.mem_singleton] at ha; subst ha; exact hbehind y hy
theorem ins_perm {out l : List (Nat × Nat)} {t : Nat × Nat} {j : Nat} (h : out.Perm l) : (out.take j ++ [t] ++ out.drop j).Perm (l ++ [t]) := by
  have h1 : (out.take j ++ [t] ++ out.drop j).Perm (out.take j ++ (out.drop j ++ [t])) := by
    rw [List.append_assoc]
    exact List.perm_append_comm.append_left _
  refine h1.trans ?_
  rw [← List.append_assoc, List.take_append_drop]
  exact h.append_right _
/-- All that were listed ahead of a rotation are ahead of it. -/
theorem listed_bef {zss : List (List Int)} {i j : Nat} {u : Nat × Nat} (h : u ∈ listK zss i ++ rowP i j) : Bef u (i, j) := by
  rcases List.mem_append.1 h with h | h
  · obtain ⟨k, hk, hu⟩ := List.mem_flatMap.1 h
    obtain ⟨m, hm, rfl⟩ := List.mem_map.1 hu
    exact .inl (List.mem_range.1 hk)
  · obtain ⟨m, hm, rfl⟩ := List.mem_map.1 h
    exact .inr ⟨rfl, List.mem_range.1 hm⟩
theorem listed_in {zss : List (List Int)} {i j : Nat} {u : Nat × Nat} (hi : i < zss.length) (hj : j ≤ (wordAt zss i).length) (h : u ∈ listK zss i ++ rowP i j) : u.1 < zss.length ∧ u.2 < (wordAt zss u.1).length := by
  rcases List.mem_append.1 h with h | h
  · obtain ⟨k, hk, hu⟩ := List.mem_flatMap.1 h
    obtain ⟨m, hm, rfl⟩ := List.mem_map.1 hu
    have := List.mem_range.1 hk
    have := List.mem_range.1 hm
    exact ⟨by show k < _; omega, by show m < _; omega⟩
  · obtain ⟨m, hm, rfl⟩ := List.mem_map.1 h
    have := List.mem_range.1 hm
    exact ⟨hi, by show m < (wordAt zss i).length; omega⟩
end Go.Proofs.Ytinnfcjkgddfeaa

/- A text's factors, cut off one by one. No conditions. -/
namespace Go.Proofs.Ytinnfcjkgddfeaa
set_option linter.unusedVariables false
set_option linter.unusedSimpArgs false
open Go.RowKit

theorem cutFac_len : ∀ (l s : List Int), (cutFac l s).length = l.length
  | [], _ => rfl
  | _ :: l, s => by rw [cutFac, List.length_cons, List.length_cons, cutFac_len l]
theorem facW_len (s : List Int) : (facW s).length ≤ s.length := by
  unfold facW
  rw [cutFac_len]
  exact facL_len _ s (Nat.le_refl _)
theorem facW_off (s : List Int) : offP (facW s) (facW s).length = s.length := by
  rw [offP_flat (facW s) (Nat.le_refl _), List.take_length, (facW_flat s.length s (Nat.le_refl _)).1]
/-- What is left, a factor on. -/
theorem fac_next {F rest : List Int} {i : Nat} (hi : i < F.length) (h : F.drop i = facL rest) : rest.length ≠ 0 ∧ F.getD i 0 = (longI rest : Int) ∧ F.drop (i + 1) = facL (rest.drop (longI rest)) := by
  have hd := List.drop_eq_getElem_cons hi
  have h0 : rest.length ≠ 0 := fun e => by rw [facL_nil e, hd] at h; cases h
  rw [facL_cons h0, hd, List.cons.injEq] at h
  refine ⟨h0, ?_, h.2⟩
  rw [List.getD_eq_getElem?_getD, List.getElem?_eq_getElem hi]
  exact h.1
theorem sl_slice {k : IntKind} {w : World} {v : Value} {zs : List Int} (h : Sl k w v zs) : ∃ a c, v = .slice a zs.length c := by
  obtain ⟨a, c, rfl, _⟩ := h
  exact ⟨a, c, rfl⟩
end Go.Proofs.Ytinnfcjkgddfeaa

/- Arguments opened: a slice of slices of bytes. Over any program; no conditions. -/
namespace Go.Proofs.Ytinnfcjkgddfeaa
set_option linter.unusedVariables false
set_option linter.unusedSimpArgs false
open Go.RowKit Go.ChangeShapes Go.WideShapes Go.Deep

/-- A row of rows of bytes. -/
def Sls (w : World) (v : Value) (zss : List (List Int)) : Prop :=
  ∃ a c, v = .slice a zss.length c ∧ zss.length ≤ maxLen ∧ (zss = [] ∨ ∃ b off, a = some ⟨b, off, none⟩ ∧ ∀ i, i < zss.length → ∃ s, w.cell? ⟨b, off + i, none⟩ = some s ∧ Sl .u8 w s (zss.getD i []))

theorem mem_weightsAll {H : Type} {P : Program} {e : TypeId} {n : Nat} {d : DataW H} (hn : n ∈ d.weights P e) : ∀ {l : List (DataW H)}, d ∈ l → n ∈ DataW.weightsAll P e l
  | d0 :: l, h => by
    simp only [DataW.weightsAll, List.mem_append]
    rcases List.mem_cons.1 h with rfl | h
    · exact .inl hn
    · exact .inr (mem_weightsAll hn h)

/-- A slice of slices of bytes that came in: its rows, each byte in its bounds, each row within the reach. -/
theorem open_bytess {H : Type} {enc : TypeId × Value → H} {P : Program} {w : World} {t e q : TypeId} {a : Option Addr} {len cap : Nat} {d : DataW H} {ps : List MemPlace}
    (ht : P.underlying t = some (.slice e)) (he : P.underlying e = some (.slice q)) (hq : P.underlying q = some (.int .u8)) (ce : P.cellsOf e = 1) (cq : P.cellsOf q = 1) (bq : P.bytesOf q = 1)
    (h : DataW.Trod enc P w 0 (fun _ => true) true t (.slice a len cap) d ps) (hsz : ∀ n ∈ d.weights P t, n ≤ reachBytes) :
    ∃ zss, Sls w (.slice a len cap) zss ∧ (∀ zs ∈ zss, ∀ z ∈ zs, 0 ≤ z ∧ z ≤ 255) ∧ ∀ zs ∈ zss, zs.length ≤ 140737488351232 := by
  obtain ⟨fuel, hf⟩ := h
  rcases open_int_rows ht he hq ce cq hf with ⟨hcs, _⟩ | ⟨x, len', cap', A, L, C, Z, hcs, _, hl, hm, hx, hrows⟩
  · simp [Value.cells] at hcs
    obtain ⟨rfl, rfl, rfl⟩ := hcs
    exact ⟨[], ⟨_, 0, rfl, by simp, .inl rfl⟩, by simp, by simp⟩
  simp [Value.cells] at hcs
  obtain ⟨rfl, rfl, rfl⟩ := hcs
  simp only [Prod.mk.injEq] at hx
  obtain ⟨rfl, _⟩ := hx
  have hmem : ∀ zs, zs ∈ ((List.range len).map fun r => (Z r).take (L r)) → ∃ r, r < len ∧ zs = (Z r).take (L r) := fun zs hz => by
    obtain ⟨r, hr, e⟩ := List.mem_map.1 hz
    exact ⟨r, List.mem_range.1 hr, e.symm⟩
  refine ⟨(List.range len).map fun r => (Z r).take (L r), ?_, ?_, ?_⟩
  · refine ⟨some x, cap, by simp, by simp; omega, ?_⟩
    by_cases h0 : len = 0
    · subst h0; exact .inl rfl
    obtain ⟨b, off, spot⟩ := x
    have hspot : spot = none := by simpa [Addr.add] using World.cell?_spot (hrows 0 (by omega)).1
    subst hspot
    refine .inr ⟨b, off, rfl, fun i hi => ?_⟩
    have hi' : i < len := by simpa using hi
    obtain ⟨h1, h2, h3, h4, h5, h6, h7⟩ := hrows i (by omega)
    refine ⟨_, by rw [← add_plain]; exact h1, ?_⟩
    have e1 : ((List.range len).map fun r => (Z r).take (L r)).getD i [] = (Z i).take (L i) := by simp [List.getD, hi']
    rw [e1]
    refine (Sl.ofRow (zs := Z i) ?_).1
    cases hA : A i with
    | none =>
      have hc := h6 hA
      exact .inl ⟨rfl, by omega, hc, List.length_eq_zero_iff.1 (by omega)⟩
    | some a' => exact .inr ⟨a', rfl, h2, h3, h4, fun j hj => (h7 a' hA).2 j (by omega), h5⟩
  · intro zs hz z hzz
    obtain ⟨r, hr, rfl⟩ := hmem zs hz
    exact Go.bounds_u8 ((hrows r (by omega)).2.2.2.2.1 z (List.mem_of_mem_take hzz))
  · intro zs hz
    obtain ⟨r, hr, rfl⟩ := hmem zs hz
    obtain ⟨h1, h2, h3, h4, h5, h6, h7⟩ := hrows r (by omega)
    have hlen : ((Z r).take (L r)).length ≤ C r := by simp; omega
    refine Nat.le_trans hlen ?_
    cases hA : A r with
    | none => rw [h6 hA]; omega
    | some a' =>
      have hw : C r ∈ (intRow (H := H) .u8 (A r) (L r) (Z r)).weights P e := by
        rw [hA]
        simp only [intRow, DataW.weights, he, bq, lits, List.length_map, List.length_take, List.length_drop, Nat.mul_one, List.mem_cons]
        left; omega
      have hd : intRow (H := H) .u8 (A r) (L r) (Z r) ∈ (List.range len).map fun r => intRow .u8 (A r) (L r) (Z r) := List.mem_map.2 ⟨r, List.mem_range.2 hr, rfl⟩
      have := hsz (C r) (by
        simp only [DataW.weights, ht, List.mem_cons, List.mem_append]
        exact .inr (.inl (mem_weightsAll hw hd)))
      exact this
end Go.Proofs.Ytinnfcjkgddfeaa

/- Rows of rows of bytes: what stays, and some that are laid. Over any program; no conditions. -/
namespace Go.Proofs.Ytinnfcjkgddfeaa
set_option linter.unusedVariables false
set_option linter.unusedSimpArgs false
open Go.RowKit

theorem Sls.ext {w w' : World} {v : Value} {zss : List (List Int)} (h : Sls w v zss) (he : Ext w w') : Sls w' v zss := by
  obtain ⟨a, c, h1, h2, h4⟩ := h
  refine ⟨a, c, h1, h2, ?_⟩
  rcases h4 with h4 | ⟨g, off, h4, h5⟩
  · exact .inl h4
  · refine .inr ⟨g, off, h4, fun i hi => ?_⟩
    obtain ⟨s, h6, h7⟩ := h5 i hi
    exact ⟨s, he.cellOf h6, h7.ext he⟩

theorem drop_cons' {α : Type} (zs : List α) (k : Nat) (d x : α) (h : k < zs.length) (hx : zs.getD k d = x) : zs.drop k = x :: zs.drop (k + 1) := by
  rw [List.getD_eq_getElem?_getD, List.getElem?_eq_getElem h, Option.getD_some] at hx
  rw [← hx, ← List.getElem_cons_drop h]

theorem Sls.one {w : World} {s : Value} {zs : List Int} {e : TypeId} (h : Sl .u8 w s zs) (g : Nat) (hg : g = w.heap.size) : Sls (w.alloc (.cells #[s] e)) (.slice (some ⟨g, 0, none⟩) 1 1) [zs] := by
  subst hg
  refine ⟨_, 1, rfl, by simp [maxLen], .inr ⟨w.heap.size, 0, rfl, fun i hi => ?_⟩⟩
  have he : Ext w (w.alloc (.cells #[s] e)) := (Below.refl _ _).alloc (Nat.le_refl _) _
  match i, hi with
  | 0, _ => exact ⟨s, by simp, h.ext he⟩
theorem Sls.two {w : World} {s u : Value} {zs ys : List Int} {e : TypeId} (h : Sl .u8 w s zs) (h' : Sl .u8 w u ys) (g : Nat) (hg : g = w.heap.size) : Sls (w.alloc (.cells #[s, u] e)) (.slice (some ⟨g, 0, none⟩) 2 2) [zs, ys] := by
  subst hg
  refine ⟨_, 2, rfl, by simp [maxLen], .inr ⟨w.heap.size, 0, rfl, fun i hi => ?_⟩⟩
  have he : Ext w (w.alloc (.cells #[s, u] e)) := (Below.refl _ _).alloc (Nat.le_refl _) _
  match i, hi with
  | 0, _ => exact ⟨s, by simp, h.ext he⟩
  | 1, _ => exact ⟨u, by simp, h'.ext he⟩
theorem Sls.none (w : World) : Sls w (.slice .none 0 0) [] := ⟨_, 0, rfl, by simp, .inl rfl⟩

theorem flatten_take {zss : List (List Int)} {k : Nat} {zs : List Int} (hk : k < zss.length) (h : zss.getD k [] = zs) : (zss.take (k + 1)).flatten = (zss.take k).flatten ++ zs := by
  rw [List.getD_eq_getElem?_getD, List.getElem?_eq_getElem hk, Option.getD_some] at h
  rw [List.take_add_one, List.getElem?_eq_getElem hk, Option.toList_some, List.flatten_append, h]
  simp
theorem flatten_take_le (zss : List (List Int)) (k : Nat) : (zss.take k).flatten.length ≤ zss.flatten.length := by
  have h : (zss.take k).flatten ++ (zss.drop k).flatten = zss.flatten := by rw [← List.flatten_append, List.take_append_drop]
  rw [← h, List.length_append]
  omega

/-- The row at place k. -/
theorem Sls.row {w : World} {a : Option Addr} {n c : Nat} {zss : List (List Int)} (h : Sls w (.slice a n c) zss) {k : Nat} (hk : k < zss.length) :
    ∃ g off a2 c2, a = some ⟨g, off, .none⟩ ∧ w.cell? ⟨g, off + k, .none⟩ = some (.slice a2 (zss.getD k []).length c2) ∧ c2 ≤ maxLen ∧ (zss.getD k []).length ≤ c2 ∧ Sl .u8 w (.slice a2 (zss.getD k []).length c2) (zss.getD k []) := by
  obtain ⟨a', c', hv, _, h4⟩ := h
  simp only [Value.slice.injEq] at hv
  obtain ⟨rfl, _, rfl⟩ := hv
  rcases h4 with h4 | ⟨g, off, rfl, h5⟩
  · rw [h4] at hk; exact absurd hk (by simp)
  obtain ⟨s, h6, h7⟩ := h5 k hk
  have h8 := h7
  obtain ⟨a2, c2, rfl, h9, h10, _⟩ := h7
  exact ⟨g, off, a2, c2, rfl, h6, h10, h9, h8⟩
end Go.Proofs.Ytinnfcjkgddfeaa
