/- Texts laid together: Krip, Lib, LexMath, RepMath, CsMath, KinMath, BktMath, IndMath, IndOrd, IndFold, OrdMath, IndAll, SaMath, PermMath. -/
import Derived.Deep.Quiet
import Derived.WalkKit
import Derived.ProofKit
import Derived.WalkLawsBesides
import Derived.WalkSpells
import Derived.Laws.BytesArg
import Derived.OpenShut
import Derived.Laws.AppendOwnNone
import Derived.Laws.BitsAllLaws
import Derived.BigQuiet
import Derived.Deep.QuietTactic
import Derived.Lib.Bytealg
import Derived.Lib.BytesEntry
/- A region that draws its order, whose operations leave all old memory as it was and may make new memory: one walk in the order of the text serves every order. Over any program; no conditions. -/
namespace Go.Proofs.YtlmbdafilboblaaGreat
set_option linter.unusedVariables false
set_option linter.unusedSimpArgs false
open Go.RowKit

/-- All that there was is as it was; there may be more. -/
def Ext (w w' : World) : Prop := Below w.heap.size w w'
theorem Ext.refl (w : World) : Ext w w := Below.refl _ _
theorem Ext.trans {a b c : World} (h : Ext a b) (k : Ext b c) : Ext a c := Below.trans h (Below.mono k h.size)
theorem Ext.drawn (w : World) : Ext w { w with drawn := w.drawn + 1 } := ⟨rfl, rfl, rfl, Nat.le_refl _, fun _ _ => rfl⟩

/-- What is known of a slot's value, in a world. -/
abbrev Facts := Tmp → World → Prop
def Facts.add (F : Facts) (d : Option Tmp) (G : World → Prop) : Facts := fun t w => F t w ∧ (d = some t → G w)
def UpW (G : World → Prop) : Prop := ∀ w w', Ext w w' → G w → G w'

section
variable {P : Program} {ops : Array Oper} {md : Region.Mode} {S : FuncId → Array Value → Value → World → Prop} {w0 : World} {Q : Act → Facts → Prop}

def kUpon (P : Program) (S : FuncId → Array Value → Value → World → Prop) (w : World) (R : Value → World → Prop) : Result Next → Prop
  | .ok (.value u) w' => Ext w w' ∧ R u w'
  | .ok .skip w' => Ext w w' ∧ R undef w'
  | .ok (.enter f args) w' => Ext w w' ∧ Calls P f args w' (fun e w'' => ∃ v, e = .returned v ∧ Ext w' w'' ∧ S f args v w'') ∧ (∀ v w'', S f args v w'' → R v w'')
  | _ => False

/-- From w0 on, whatever else has come: the operation yields a value of which R holds. -/
def KY (P : Program) (ops : Array Oper) (S : FuncId → Array Value → Value → World → Prop) (w0 : World) (o : Oper) (a : Act) (F : Facts) (R : Value → World → Prop) : Prop :=
  (∀ v, UpW (R v)) ∧
  ((Region.wanted o (yielded ops a.tmps) = true ∧ ∀ w, Ext w0 w → (∀ t ∈ o.looksAt ops, F t w) → kUpon P S w R ((execOp a.eval o).run P w)) ∨
   (Region.wanted o (yielded ops a.tmps) = false ∧ R = fun v _ => v = undef))

def kStep (P : Program) (ops : Array Oper) (S : FuncId → Array Value → Value → World → Prop) (w0 : World) (o : Oper) (a : Act) (F : Facts) (K : Act → Facts → Prop) : Prop :=
  ∃ R, KY P ops S w0 o a F R ∧ ∀ v, (∃ w, Ext w0 w ∧ (∀ t, F t w) ∧ R v w) → K (a.put o.dst v) (F.add o.dst (R v))

def lexK (P : Program) (ops : Array Oper) (S : FuncId → Array Value → Value → World → Prop) (w0 : World) (Q : Act → Facts → Prop) : List Oper → Act → Facts → Prop
  | [], a, F => Q a F
  | o :: rest, a, F => kStep P ops S w0 o a F (lexK P ops S w0 Q rest)

def kOp (P : Program) (ops : Array Oper) (S : FuncId → Array Value → Value → World → Prop) (w0 : World) (i : Nat) (K : Act → Facts → Prop) (a : Act) (F : Facts) : Prop :=
  match ops[i]? with
  | none => K a F
  | some o => kStep P ops S w0 o a F K

def anyK (P : Program) (md : Region.Mode) (ops : Array Oper) (S : FuncId → Array Value → Value → World → Prop) (w0 : World) (Q : Act → Facts → Prop) : Nat → Array Bool → Act → Facts → Prop
  | 0, listed, a, F => Region.ready md ops listed = [] ∧ Q a F
  | fuel + 1, listed, a, F =>
    (Region.ready md ops listed = [] → Q a F) ∧
    ∀ i ∈ Region.ready md ops listed, kOp P ops S w0 i (anyK P md ops S w0 Q fuel (listed.setIfInBounds i true)) a F

theorem Facts.add_anti {F F' : Facts} (h : ∀ t w, F' t w → F t w) {G G' : World → Prop} (hG : ∀ w, G' w → G w) (d : Option Tmp) : ∀ t w, F'.add d G' t w → F.add d G t w :=
  fun t w hh => ⟨h t w hh.1, fun e => hG w (hh.2 e)⟩

theorem KY.anti {o : Oper} {a : Act} {F F' : Facts} (h : ∀ t w, F' t w → F t w) {R : Value → World → Prop} (hy : KY P ops S w0 o a F R) : KY P ops S w0 o a F' R := by
  refine ⟨hy.1, ?_⟩
  rcases hy.2 with ⟨hw, hk⟩ | hn
  · exact .inl ⟨hw, fun w he hf => hk w he fun t ht => h t w (hf t ht)⟩
  · exact .inr hn

theorem kStep_anti {o : Oper} {a : Act} {F F' : Facts} {K K' : Act → Facts → Prop} (hK : ∀ a F F', (∀ t w, F' t w → F t w) → K a F → K' a F') (h : ∀ t w, F' t w → F t w)
    (hh : kStep P ops S w0 o a F K) : kStep P ops S w0 o a F' K' := by
  obtain ⟨R, hy, hn⟩ := hh
  exact ⟨R, hy.anti h, fun v ⟨w, he, hf, hr⟩ => hK _ _ _ (Facts.add_anti h (fun _ x => x) _) (hn v ⟨w, he, fun t => h t w (hf t), hr⟩)⟩

theorem kOp_anti {i : Nat} {a : Act} {F F' : Facts} {K K' : Act → Facts → Prop} (hK : ∀ a F F', (∀ t w, F' t w → F t w) → K a F → K' a F') (h : ∀ t w, F' t w → F t w)
    (hh : kOp P ops S w0 i K a F) : kOp P ops S w0 i K' a F' := by
  unfold kOp at *
  cases ho : ops[i]? with
  | none => simp only [ho] at hh ⊢; exact hK _ _ _ h hh
  | some o => simp only [ho] at hh ⊢; exact kStep_anti hK h hh

theorem anyK_anti (hQ : ∀ a F F', (∀ t w, F' t w → F t w) → Q a F → Q a F') : ∀ (fuel : Nat) (listed : Array Bool) (a : Act) (F F' : Facts), (∀ t w, F' t w → F t w) →
    anyK P md ops S w0 Q fuel listed a F → anyK P md ops S w0 Q fuel listed a F'
  | 0, _, _, _, _, h, hh => ⟨hh.1, hQ _ _ _ h hh.2⟩
  | fuel + 1, _, _, _, _, h, hh => ⟨fun e => hQ _ _ _ h (hh.1 e), fun i hi => kOp_anti (fun a F F' h => anyK_anti hQ fuel _ a F F' h) h (hh.2 i hi)⟩

theorem wpAny_of_anyK {Q' : Exit → Act → World → Prop} (hQ : ∀ a F w, Ext w0 w → (∀ t, F t w) → Q a F → Q' .normal a w) : ∀ (fuel : Nat) (listed : Array Bool) (a : Act) (F : Facts) (w : World),
    Ext w0 w → (∀ t, UpW (F t)) → (∀ t, F t w) → anyK P md ops S w0 Q fuel listed a F → wpAny P md ops Q' fuel listed a w
  | 0, _, _, _, _, he, _, hf, h => ⟨h.1, hQ _ _ _ he hf h.2⟩
  | fuel + 1, listed, a, F, w, he, hup, hf, h => by
    refine ⟨fun e => hQ _ _ _ he hf (h.1 e), fun i hi => ?_⟩
    have h1 := h.2 i hi
    unfold kOp at h1
    unfold wpOp
    cases ho : ops[i]? with
    | none => simp only [ho] at h1 ⊢; exact wpAny_of_anyK hQ fuel _ _ _ _ he hup hf h1
    | some o =>
      simp only [ho] at h1 ⊢
      obtain ⟨R, ⟨hR, hy⟩, hn⟩ := h1
      have go : ∀ v w', Ext w w' → R v w' → wpAny P md ops Q' fuel (listed.setIfInBounds i true) (a.put o.dst v) w' := fun v w' hx hr =>
        wpAny_of_anyK hQ fuel _ _ _ _ (he.trans hx) (fun t w1 w2 h12 hh => ⟨hup t w1 w2 h12 hh.1, fun e => hR v w1 w2 h12 (hh.2 e)⟩) (fun t => ⟨hup t w w' hx (hf t), fun _ => hr⟩)
          (hn v ⟨w', he.trans hx, fun t => hup t w w' hx (hf t), hr⟩)
      rcases hy with ⟨hw, hk⟩ | ⟨hw, rfl⟩
      · rw [if_pos hw]
        refine .inl ?_
        have h2 := hk w he fun t _ => hf t
        unfold Oper.wp
        generalize (execOp a.eval o).run P w = r at *
        cases r with
        | ok n w' =>
          cases n <;> simp only [kUpon] at h2 <;> simp only [Oper.upon]
          case value u => exact go _ _ h2.1 h2.2
          case skip => exact go _ _ h2.1 h2.2
          case enter f args =>
            obtain ⟨h3, h4, h5⟩ := h2
            exact h4.mono fun e w'' ⟨v, hv, h6, h7⟩ => by subst hv; exact go _ _ (h3.trans h6) (h5 _ _ h7)
        | halt x w' => simp only [kUpon] at h2
      · rw [if_neg (by rw [hw]; exact Bool.false_ne_true)]
        exact go _ _ (Ext.refl _) rfl

theorem kUpon_all {ι : Type} (i0 : ι) {w : World} {R : ι → Value → World → Prop} {r : Result Next} (h : ∀ i, kUpon P S w (R i) r) : kUpon P S w (fun v w' => ∀ i, R i v w') r := by
  cases r with
  | halt x w' => exact (h i0).elim
  | ok n w' =>
    cases n with
    | value u => exact ⟨(h i0).1, fun i => (h i).2⟩
    | skip => exact ⟨(h i0).1, fun i => (h i).2⟩
    | enter f args => exact ⟨(h i0).1, (h i0).2.1, fun v w'' hs i => (h i).2.2 v w'' hs⟩
    | _ => exact (h i0).elim

theorem KY.of_same {o : Oper} {a a' : Act} {F F' : Facts} {R : Value → World → Prop} (hy : KY P ops S w0 o a F R) (hF : ∀ w, ∀ t ∈ o.looksAt ops, F' t w → F t w) (he : execOp a'.eval o = execOp a.eval o)
    (hw : Region.wanted o (yielded ops a'.tmps) = Region.wanted o (yielded ops a.tmps)) : KY P ops S w0 o a' F' R := by
  refine ⟨hy.1, ?_⟩
  rw [he, hw]
  rcases hy.2 with ⟨h1, h2⟩ | h1
  · exact .inl ⟨h1, fun w hx hf => h2 w hx fun t ht => hF w t ht (hf t ht)⟩
  · exact .inr h1

/-- In a world where all facts hold the operation yields some value. -/
theorem KY.some {o : Oper} {a : Act} {F : Facts} {R : Value → World → Prop} (hy : KY P ops S w0 o a F R) (hup : ∀ t, UpW (F t)) {w : World} (he : Ext w0 w) (hf : ∀ t, F t w) : ∃ v w', Ext w0 w' ∧ (∀ t, F t w') ∧ R v w' := by
  rcases hy.2 with ⟨_, h2⟩ | ⟨_, rfl⟩
  · have h3 := h2 w he fun t _ => hf t
    generalize (execOp a.eval o).run P w = r at *
    cases r with
    | halt x w' => exact h3.elim
    | ok n w' =>
      cases n with
      | value u => exact ⟨u, w', he.trans h3.1, fun t => hup t _ _ h3.1 (hf t), h3.2⟩
      | skip => exact ⟨undef, w', he.trans h3.1, fun t => hup t _ _ h3.1 (hf t), h3.2⟩
      | enter f args =>
        obtain ⟨h4, h5, h6⟩ := h3
        obtain ⟨e, w'', _, ⟨v, _, h7, h8⟩, _⟩ := h5 []
        exact ⟨v, w'', he.trans (h4.trans h7), fun t => hup t _ _ (h4.trans h7) (hf t), h6 _ _ h8⟩
      | _ => exact h3.elim
  · exact ⟨undef, w, he, hf, rfl⟩

theorem anyK_first (hQ : ∀ a F F', (∀ t w, F' t w → F t w) → Q a F → Q a F') {i : Nat} {oi : Oper} (hi : ops[i]? = some oi) (hsel : ∀ (j : Nat) (o : Oper) cs b, ops[j]? = some o → o.op ≠ .select cs b)
    (hdst : ∀ (j : Nat) (o : Oper), ops[j]? = some o → ∃ d, o.dst = Option.some d) :
    ∀ (fuel : Nat) (listed : Array Bool) (a : Act) (F : Facts) (R : Value → World → Prop),
      (∀ j oj, ops[j]? = some oj → j ≠ i → listed.getD j true = false → (∀ e ∈ oj.after, Region.binds md e = true → e.on ≠ i) → oi.apart ops oj = true) →
      i ∈ Region.ready md ops listed → KY P ops S w0 oi a F R → (∀ t, UpW (F t)) → (∃ w, Ext w0 w ∧ ∀ t, F t w) →
      (∀ v, (∃ w, Ext w0 w ∧ (∀ t, F t w) ∧ R v w) → anyK P md ops S w0 Q fuel (listed.setIfInBounds i true) (a.put oi.dst v) (F.add oi.dst (R v))) →
      anyK P md ops S w0 Q (fuel + 1) listed a F := by
  intro fuel
  induction fuel with
  | zero =>
    intro listed a F R _ hr hy hup ⟨w, hw, hf⟩ H
    refine ⟨fun h => (by rw [h] at hr; cases hr), fun j hj => ?_⟩
    by_cases hji : j = i
    · subst hji; unfold kOp; simp only [hi]; exact ⟨R, hy, H⟩
    · obtain ⟨v, w', h1, h2, h3⟩ := hy.some hup hw hf
      have := ready_mono hj hji
      rw [(H v ⟨w', h1, h2, h3⟩).1] at this
      cases this
  | succ fuel ih =>
    intro listed a F R hfree hr hy hup ⟨w, hw, hf⟩ H
    refine ⟨fun h => (by rw [h] at hr; cases hr), fun j hj => ?_⟩
    by_cases hji : j = i
    · subst hji; unfold kOp; simp only [hi]; exact ⟨R, hy, H⟩
    · obtain ⟨hjun, oj, hoj, hall⟩ := mem_ready.1 hj
      have hnot : ∀ e ∈ oj.after, Region.binds md e = true → e.on ≠ i := fun e he hb heq => by
        have h1 := hall e he hb
        have h0 := (mem_ready.1 hr).1
        rw [heq] at h1
        rcases Nat.lt_or_ge i listed.size with h' | h'
        · simp [h'] at h0 h1; rw [h0] at h1; cases h1
        · simp [Array.getElem?_eq_none h'] at h1
      have hap := hfree j oj hoj hji hjun hnot
      obtain ⟨p1, p2, p3⟩ := Oper.apart_spec hap
      have hsi : ∀ cs b, oi.op ≠ .select cs b := fun cs b => hsel i oi cs b hi
      have hsj : ∀ cs b, oj.op ≠ .select cs b := fun cs b => hsel j oj cs b hoj
      -- what each value of 'oi' says of 'oj'
      have H1 : ∀ v : { v // ∃ w, Ext w0 w ∧ (∀ t, F t w) ∧ R v w }, kStep P ops S w0 oj (a.put oi.dst v.1) (F.add oi.dst (R v.1)) (anyK P md ops S w0 Q fuel ((listed.setIfInBounds i true).setIfInBounds j true)) := fun v => by
        have h1 := (H v.1 v.2).2 j (ready_mono hj hji)
        unfold kOp at h1
        simpa only [hoj] using h1
      obtain ⟨v0, w', e1, e2, e3⟩ := hy.some hup hw hf
      let i0 : { v // ∃ w, Ext w0 w ∧ (∀ t, F t w) ∧ R v w } := ⟨v0, w', e1, e2, e3⟩
      let Rj : { v // ∃ w, Ext w0 w ∧ (∀ t, F t w) ∧ R v w } → Value → World → Prop := fun v => Classical.choose (H1 v)
      have HRj : ∀ v, KY P ops S w0 oj (a.put oi.dst v.1) (F.add oi.dst (R v.1)) (Rj v) ∧ ∀ u, (∃ w, Ext w0 w ∧ (∀ t, (F.add oi.dst (R v.1)) t w) ∧ Rj v u w) →
          anyK P md ops S w0 Q fuel ((listed.setIfInBounds i true).setIfInBounds j true) ((a.put oi.dst v.1).put oj.dst u) ((F.add oi.dst (R v.1)).add oj.dst (Rj v u)) := fun v => Classical.choose_spec (H1 v)
      have hyj : ∀ v, KY P ops S w0 oj a F (Rj v) := fun v => (HRj v).1.of_same (fun w t ht hft => ⟨hft, fun e => absurd ht (p1 t e)⟩) (execOp_put oj hsj a oi.dst v.1 p1).symm (wanted_put oj a oi.dst v.1 p1).symm
      unfold kOp
      simp only [hoj]
      refine ⟨fun u w => ∀ v, Rj v u w, ⟨fun u w1 w2 h12 hh v => (hyj v).1 u w1 w2 h12 (hh v), ?_⟩, fun u hu => ?_⟩
      · by_cases hwant : Region.wanted oj (yielded ops a.tmps) = true
        · refine .inl ⟨hwant, fun w1 hx hf1 => kUpon_all i0 fun v => ?_⟩
          rcases (hyj v).2 with ⟨_, h2⟩ | ⟨h2, _⟩
          · exact h2 w1 hx hf1
          · rw [hwant] at h2; cases h2
        · have hwf : Region.wanted oj (yielded ops a.tmps) = false := by simpa using hwant
          refine .inr ⟨hwf, ?_⟩
          funext u w1
          have : ∀ v, Rj v = fun v _ => v = undef := fun v => by
            rcases (hyj v).2 with ⟨h2, _⟩ | ⟨_, h2⟩
            · rw [hwf] at h2; cases h2
            · exact h2
          simp only [this, eq_iff_iff]
          exact ⟨fun h => h i0, fun h _ => h⟩
      · obtain ⟨w1, f1, f2, f3⟩ := hu
        have hfree' : ∀ k ok, ops[k]? = some ok → k ≠ i → (listed.setIfInBounds j true).getD k true = false →
            (∀ e ∈ ok.after, Region.binds md e = true → e.on ≠ i) → oi.apart ops ok = true := fun k ok hk hki hun hno => by
          refine hfree k ok hk hki ?_ hno
          by_cases hjk : j = k
          · subst hjk; exact hjun
          · rw [getD_set_ne true hjk] at hun; exact hun
        refine ih (listed.setIfInBounds j true) (a.put oj.dst u) (F.add oj.dst fun w => ∀ v, Rj v u w) R hfree' (ready_mono hr (Ne.symm hji)) ?_ ?_ ⟨w1, f1, fun t => ⟨f2 t, fun _ => f3⟩⟩ ?_
        · exact hy.of_same (fun w t ht hft => hft.1) (execOp_put oi hsi a oj.dst u p3) (wanted_put oi a oj.dst u p3)
        · exact fun t w2 w3 h23 hh => ⟨hup t w2 w3 h23 hh.1, fun e v => (hyj v).1 u w2 w3 h23 (hh.2 e v)⟩
        · intro v ⟨w2, g1, g2, g3⟩
          have hv : ∃ w, Ext w0 w ∧ (∀ t, F t w) ∧ R v w := ⟨w2, g1, fun t => (g2 t).1, g3⟩
          obtain ⟨d, hd⟩ := hdst j oj hoj
          have h3 := (HRj ⟨v, hv⟩).2 u ⟨w2, g1, fun t => ⟨(g2 t).1, fun _ => g3⟩, (g2 d).2 hd ⟨v, hv⟩⟩
          rw [Array.setIfInBounds_comm _ _ (Ne.symm hji), Act.put_comm a v u p2] at h3
          refine anyK_anti hQ _ _ _ _ _ ?_ h3
          intro t w3 hh
          exact ⟨⟨hh.1.1, hh.2⟩, fun e => hh.1.2 e ⟨v, hv⟩⟩

theorem anyK_lex (hQ : ∀ a F F', (∀ t w, F' t w → F t w) → Q a F → Q a F') (hs : Region.noSelect ops = true) (hdst : ∀ (j : Nat) (o : Oper), ops[j]? = some o → ∃ d, o.dst = Option.some d) :
    ∀ (l : List Oper) (k : Nat) (listed : Array Bool) (a : Act) (F : Facts), (∀ j, l[j]? = ops[k + j]?) → Region.lexFrom md ops l.length k listed = true → (∀ t, UpW (F t)) → (∃ w, Ext w0 w ∧ ∀ t, F t w) →
      lexK P ops S w0 Q l a F → anyK P md ops S w0 Q l.length listed a F
  | [], _, _, _, _, _, hB, _, _, h => ⟨by simpa [Region.lexFrom] using hB, h⟩
  | o :: l, k, listed, a, F, hl, hB, hup, hcon, h => by
    have h0 : ops[k]? = Option.some o := by simpa using (hl 0).symm
    simp only [List.length_cons, Region.lexFrom, Bool.and_eq_true] at hB
    obtain ⟨⟨hr, hf⟩, hB'⟩ := hB
    obtain ⟨R, hy, hn⟩ := h
    refine anyK_first hQ h0 (Region.noSelect_spec hs) hdst l.length listed a F R (Region.free_spec h0 hf) (by simpa using hr) hy hup hcon fun v ⟨w, g1, g2, g3⟩ => ?_
    refine anyK_lex hQ hs hdst l (k + 1) _ _ _ (fun j => by have := hl (j + 1); simpa [Nat.add_assoc, Nat.add_comm 1 j] using this) hB' ?_ ⟨w, g1, fun t => ⟨g2 t, fun _ => g3⟩⟩ (hn v ⟨w, g1, g2, g3⟩)
    exact fun t w2 w3 h23 hh => ⟨hup t w2 w3 h23 hh.1, fun e => hy.1 v w2 w3 h23 (hh.2 e)⟩

/-- What stands behind a region. -/
def endK (Q' : Exit → Act → World → Prop) (w : World) (a' : Act) (F : Facts) : Prop := ∀ w', Ext w w' → (∀ t, F t w') → Q' .normal a' w'

/-- ONE WALK IN THE ORDER OF THE TEXT: what stands behind is asked in every later world in which the facts hold. -/
theorem wp_region_k (S : FuncId → Array Value → Value → World → Prop) {id : Nat} {Q' : Exit → Act → World → Prop} {a : Act} {w : World} {l : List Oper} (hm : P.follows .mixedOrders = true)
    (hB : Region.lexB .any l.toArray = true) (hd : l.all (fun o => o.dst.isSome) = true)
    (h : lexK P l.toArray S w (endK Q' w) l a (fun _ _ => True)) : (Code.region id l.toArray true).wp P Q' a w := by
  simp only [Region.lexB, Bool.and_eq_true] at hB
  refine wp_region_any hm (wpAny_of_anyK (w0 := w) (Q := fun a' F => ∀ w', Ext w w' → (∀ t, F t w') → Q' .normal a' w') (S := S) (fun a F w' he hf hq => hq w' he hf) _ _ _ (fun _ _ => True) _ (Ext.drawn w) (fun _ _ _ _ _ => trivial) (fun _ => trivial) ?_)
  have hdst : ∀ (j : Nat) (o : Oper), l.toArray[j]? = Option.some o → ∃ d, o.dst = Option.some d := fun j o ho => by
    have := List.all_eq_true.1 hd o (by simpa using Array.mem_of_getElem? ho)
    exact Option.isSome_iff_exists.1 this
  have := anyK_lex (P := P) (S := S) (w0 := w) (md := .any) (Q := fun a' F => ∀ w', Ext w w' → (∀ t, F t w') → Q' .normal a' w') (fun a F F' hx hq w' he hf => hq w' he fun t => hx t w' (hf t)) hB.1 hdst l 0 (Array.replicate l.toArray.size false) a (fun _ _ => True)
    (by simp) (by simpa using hB.2) (fun _ _ _ _ _ => trivial) ⟨w, Ext.refl _, fun _ => trivial⟩ h
  simpa using this

theorem lexK_anti (hQ : ∀ a F F', (∀ t w, F' t w → F t w) → Q a F → Q a F') : ∀ (l : List Oper) (a : Act) (F F' : Facts), (∀ t w, F' t w → F t w) → lexK P ops S w0 Q l a F → lexK P ops S w0 Q l a F'
  | [], _, _, _, h, hh => hQ _ _ _ h hh
  | _ :: l, _, _, _, h, hh => kStep_anti (fun a F F' h => lexK_anti hQ l a F F' h) h hh

theorem endK_anti {Q' : Exit → Act → World → Prop} (a : Act) (F F' : Facts) (h : ∀ t w, F' t w → F t w) (hh : endK Q' w0 a F) : endK Q' w0 a F' :=
  fun w' he hf => hh w' he fun t => h t w' (hf t)

/-- A world later than w0. -/
structure Later (w0 : World) where
  val : World
  ext : Ext w0 val

/-- One of the operations that only read or reckon. -/
def plainOp (o : Oper) : Bool :=
  match o.op with
  | .move _ | .assign _ | .pick .. | .load .. | .binOp .. | .unOp .. | .convert .. | .slice .. | .fieldAddr .. | .field .. | .indexAddr .. | .index .. | .extract .. | .lookup .. | .nilCheck .. => true
  | .call c => (match c.callee with | .builtin .len => true | .builtin .cap => true | .builtin .min => true | .builtin .max => true | _ => false)
  | _ => false

variable {Q' : Exit → Act → World → Prop}

/-- One operation whose value is known. -/
theorem lexK_val {o : Oper} {rest : List Oper} {a : Act} {F : Facts} (u : Value) (hw : Region.wanted o (yielded ops a.tmps) = true)
    (hrun : ∀ w, Ext w0 w → (∀ t ∈ o.looksAt ops, F t w) → (execOp a.eval o).run P w = .ok (.value u) w)
    (hn : lexK P ops S w0 (endK Q' w0) rest (a.put o.dst u) F) : lexK P ops S w0 (endK Q' w0) (o :: rest) a F := by
  refine ⟨fun v _ => v = u, ⟨fun _ _ _ _ h => h, .inl ⟨hw, fun w he hf => by rw [hrun w he hf]; exact ⟨Ext.refl _, rfl⟩⟩⟩, ?_⟩
  rintro v ⟨_, _, _, rfl⟩
  exact lexK_anti endK_anti _ _ _ _ (fun _ _ h => h.1) hn

theorem lexK_skip {o : Oper} {rest : List Oper} {a : Act} {F : Facts} (hw : Region.wanted o (yielded ops a.tmps) = false)
    (hn : lexK P ops S w0 (endK Q' w0) rest (a.put o.dst undef) F) : lexK P ops S w0 (endK Q' w0) (o :: rest) a F := by
  refine ⟨fun v _ => v = undef, ⟨fun _ _ _ _ h => h, .inr ⟨hw, rfl⟩⟩, ?_⟩
  rintro v ⟨_, _, _, rfl⟩
  exact lexK_anti endK_anti _ _ _ _ (fun _ _ h => h.1) hn

/-- One operation that leaves something of which R holds. -/
theorem lexK_some {o : Oper} {rest : List Oper} {a : Act} {F : Facts} (R : Value → World → Prop) (hR : ∀ v, UpW (R v)) (hw : Region.wanted o (yielded ops a.tmps) = true)
    (hrun : ∀ w, Ext w0 w → (∀ t ∈ o.looksAt ops, F t w) → ∃ u w', (execOp a.eval o).run P w = .ok (.value u) w' ∧ Ext w w' ∧ R u w')
    (hn : ∀ v w, Ext w0 w → (∀ t, F t w) → R v w → lexK P ops S w0 (endK Q' w0) rest (a.put o.dst v) (F.add o.dst (R v))) : lexK P ops S w0 (endK Q' w0) (o :: rest) a F := by
  refine ⟨R, ⟨hR, .inl ⟨hw, fun w he hf => ?_⟩⟩, fun v ⟨w, h1, h2, h3⟩ => hn v w h1 h2 h3⟩
  obtain ⟨u, w', h1, h2, h3⟩ := hrun w he hf
  rw [h1]
  exact ⟨h2, h3⟩

/-- A call of a Go function. -/
theorem lexK_call {o : Oper} {rest : List Oper} {a : Act} {F : Facts} (f : FuncId) (args : Array Value) (hS : ∀ v, UpW (S f args v)) (hw : Region.wanted o (yielded ops a.tmps) = true)
    (hrun : ∀ w, (execOp a.eval o).run P w = .ok (.enter f args) w)
    (hc : ∀ w, Ext w0 w → (∀ t ∈ o.looksAt ops, F t w) → Calls P f args w fun e w'' => ∃ v, e = .returned v ∧ Ext w w'' ∧ S f args v w'')
    (hn : ∀ v w, Ext w0 w → (∀ t, F t w) → S f args v w → lexK P ops S w0 (endK Q' w0) rest (a.put o.dst v) (F.add o.dst (S f args v))) : lexK P ops S w0 (endK Q' w0) (o :: rest) a F := by
  refine ⟨S f args, ⟨hS, .inl ⟨hw, fun w he hf => ?_⟩⟩, fun v ⟨w, h1, h2, h3⟩ => hn v w h1 h2 h3⟩
  rw [hrun w]
  exact ⟨Ext.refl _, hc w he hf, fun _ _ h => h⟩

/-- A call of a Go function that hands back one known value. -/
theorem lexK_call1 {o : Oper} {rest : List Oper} {a : Act} {F : Facts} (f : FuncId) (args : Array Value) (u : Value) (hS : ∀ v w, S f args v w ↔ v = u) (hw : Region.wanted o (yielded ops a.tmps) = true)
    (hrun : ∀ w, (execOp a.eval o).run P w = .ok (.enter f args) w)
    (hc : ∀ w, Ext w0 w → (∀ t ∈ o.looksAt ops, F t w) → Calls P f args w fun e w'' => e = .returned u ∧ Ext w w'')
    (hn : lexK P ops S w0 (endK Q' w0) rest (a.put o.dst u) F) : lexK P ops S w0 (endK Q' w0) (o :: rest) a F := by
  refine lexK_call f args (fun v w w' _ h => (hS v w').2 ((hS v w).1 h)) hw hrun (fun w he hf => (hc w he hf).mono fun e w'' ⟨h1, h2⟩ => ⟨u, h1, h2, (hS u w'').2 rfl⟩) ?_
  intro v w _ _ h
  rw [(hS v w).1 h]
  exact lexK_anti endK_anti _ _ _ _ (fun _ _ h => h.1) hn

theorem bind_value_ne {s : Sem Value} {w w' : World} {f : FuncId} {args : Array Value} : (do pure (Next.value (← s)) : Sem Next).run P w ≠ .ok (.enter f args) w' := by
  simp only [Sem.run_bind]
  cases s.run P w with
  | ok a w1 => simp [Result.andThen]
  | halt x w1 => simp [Result.andThen]

theorem andThen_ne {α β : Type} {r : Result α} {g : α → World → Result β} {b : β} {w' : World} (h : ∀ a w1, g a w1 ≠ .ok b w') : r.andThen g ≠ .ok b w' := by
  cases r with
  | ok a w1 => exact h a w1
  | halt x w1 => simp [Result.andThen]

theorem run_value_of_plain {o : Oper} {ρ : Operand → Value} {w w' : World} {f : FuncId} {args : Array Value} (h : plainOp o = true) : (execOp ρ o).run P w ≠ .ok (.enter f args) w' := by
  unfold plainOp at h
  unfold execOp
  cases ho : o.op <;> simp only [ho] at h <;> simp only [] <;> first | exact bind_value_ne | (simp; done) | skip
  case call c =>
    cases hc : c.callee <;> simp only [hc] at h
    case builtin b =>
      simp only [resolve, hc, invoke]
      cases b <;> simp at h <;> simp only [builtin] <;> exact bind_value_ne
    all_goals simp at h
  case pick c a b =>
    simp only [Sem.run_bind]
    cases (asBool (ρ c)).run P w with
    | ok a w1 => simp [Result.andThen]
    | halt x w1 => simp [Result.andThen]
  case nilCheck x =>
    have hp : (runtimePanic (α := Next) .nilDeref).run P w ≠ .ok (.enter f args) w' := by simp [runtimePanic, goPanic]
    split
    · exact hp
    · exact hp
    · exact hp
    · split
      · exact hp
      · simp only [Sem.run_bind]
        refine andThen_ne fun a1 w1 => andThen_ne fun a2 w2 => ?_
        split
        · simp [unsupported]
        · simp
      · simp
    · simp
  all_goals simp at h

/-- So many operations that only read: the kit's quiet walk, over all later worlds. -/
theorem lexK_quiet {F : Facts} : ∀ (l rest : List Oper) (a : Act), l.all plainOp = true →
    wpQuiet P ops (fun w' => ∃ l : Later w0, w' = l.val) (fun a' => lexK P ops S w0 (endK Q' w0) rest a' F) l a → lexK P ops S w0 (endK Q' w0) (l ++ rest) a F
  | [], _, _, _, h => h
  | o :: l, rest, a, hp, h => by
    simp only [List.all_cons, Bool.and_eq_true] at hp
    unfold wpQuiet at h
    split at h
    · rename_i hw
      obtain ⟨u, h1, h2⟩ := h
      refine ⟨fun v _ => v = u, ⟨fun _ _ _ _ h => h, .inl ⟨hw, fun w he hf => ?_⟩⟩, fun v ⟨_, _, _, hv⟩ => by subst hv; exact lexK_anti endK_anti _ _ _ _ (fun _ _ h => h.1) (lexK_quiet l rest _ hp.2 h2)⟩
      have h3 := h1 w ⟨⟨w, he⟩, rfl⟩
      unfold Oper.quietAt at h3
      have hne := fun f args w' => run_value_of_plain (P := P) (o := o) (ρ := a.eval) (w := w) (w' := w') (f := f) (args := args) hp.1
      generalize (execOp a.eval o).run P w = r at *
      cases r with
      | halt x w' => simp only [Oper.quietUpon] at h3
      | ok n w' =>
        cases n <;> simp only [Oper.quietUpon] at h3
        case value v => obtain ⟨rfl, rfl⟩ := h3; exact ⟨Ext.refl _, rfl⟩
        case skip => obtain ⟨rfl, rfl⟩ := h3; exact ⟨Ext.refl _, rfl⟩
        case enter f args => exact absurd rfl (hne f args w')
    · rename_i hw
      exact lexK_skip (by simpa using hw) (lexK_quiet l rest _ hp.2 h)

theorem lexK_take (n : Nat) {F : Facts} {l : List Oper} {a : Act} (hp : (l.take n).all plainOp = true)
    (h : wpQuiet P ops (fun w' => ∃ l : Later w0, w' = l.val) (fun a' => lexK P ops S w0 (endK Q' w0) (l.drop n) a' F) (l.take n) a) : lexK P ops S w0 (endK Q' w0) l a F := by
  have := lexK_quiet (l.take n) (l.drop n) a hp h
  rwa [List.take_append_drop] at this

theorem lexK_nil {F : Facts} {a : Act} (h : ∀ w', Ext w0 w' → (∀ t, F t w') → Q' .normal a w') : lexK P ops S w0 (endK Q' w0) [] a F := h

end

theorem later_some (w : World) : Nonempty (Later w) := ⟨⟨w, Ext.refl _⟩⟩
theorem later_cell {w : World} {a : Addr} {v : Value} (h : w.cell? a = some v) : ∀ l : Later w, l.val.cell? a = some v :=
  fun l => (Below.cell l.ext (World.block_lt_of_cell? _ _ h)).trans h
end Go.Proofs.YtlmbdafilboblaaGreat

/- Small laws over any program: rows of numbers that a call owns, and what lies below. No conditions. -/
namespace Go.Proofs.YtlmbdafilboblaaGreat
set_option linter.unusedVariables false
set_option linter.unusedSimpArgs false
open Go.RowKit

/-- The call's own row of numbers of kind k (element type e): the slice value s holds just zs, in blocks from B on. -/
def Own (k : IntKind) (e : TypeId) (B : Nat) (w : World) (s : Value) (zs : List Int) : Prop :=
  w.ownsRow B e 1 s zs.length (zs.map (Value.int k))

theorem Own.below {k : IntKind} {e : TypeId} {B : Nat} {w wr w1 : World} {s : Value} {zs : List Int} (h : Own k e B wr s zs) (hb : Below B w wr) (hB : B ≤ w.heap.size)
    {o : Obj} (hg : (wr.alloc o).grownBy w1 s.ownBlock) : Below B w w1 := by
  have hs := hb.size
  exact (hb.alloc (by omega) o).grown hg (by simp; omega) (fun k hk => (World.ownsRow.lt h k hk).1)

theorem Own.snoc {k : IntKind} {e : TypeId} {B : Nat} {w1 : World} {s' : Value} {zs : List Int} {z : Int}
    (h : w1.ownsRow B e 1 s' (zs.length + 1) (zs.map (Value.int k) ++ [Value.int k z])) : Own k e B w1 s' (zs ++ [z]) := by
  unfold Own
  simpa using h

theorem Own.nil (k : IntKind) (e : TypeId) (B : Nat) (w : World) : Own k e B w (.slice none 0 0) [] := World.ownsRow_nil _ _ _ _

theorem Own.made {k : IntKind} {e : TypeId} {B : Nat} {w : World} (cur : Array Value) (cap : Nat) (hb : B ≤ w.heap.size) (hm : cap ≤ maxLen) (hs : cur.size = cap) :
    Own k e B (w.alloc (.cells cur e)) (.slice (some ⟨w.heap.size, 0, none⟩) 0 cap) [] :=
  World.ownsRow_made w cur cap hb hm (by simpa using hs)

theorem one1 {k : IntKind} {z : Int} : ∀ u ∈ [Value.int k z], u.oneCell' = true := by
  intro u hu; simp at hu; subst hu; rfl

/-- 'append(s, x)', s the call's own. -/
theorem wpList_snoc {P : Program} (w : World) {ops : Array Oper} {rest : List Oper} {o : Oper} {a : Act} {Q : Exit → Act → World → Prop} (hgd : o.guard = none) (s x : Operand) (t : TypeId)
    (ho : o.op = .call { callee := .builtin .append, args := #[s, x], argTypes := #[t, t] }) (e : TypeId) (k : IntKind) (bytes : Nat) (ht : P.underlying t = some (.slice e))
    (hinfo : (P.info? e).map (fun i => (i.zero, i.size, i.bytes)) = some (some (.int k 0), 1, bytes)) (B : Nat) (v : Value) (zs : List Int) (z : Int) (ad : Addr) (hs : a.eval s = v) (hx : a.eval x = .slice (some ad) 1 1)
    (hcell : w.cell? ad = some (.int k z)) (hown : Own k e B w v zs) (hlen : (zs.length + 1) * bytes ≤ 140737488355328 ∧ zs.length + 1 ≤ maxLen) (hB : B ≤ w.heap.size)
    (h : ∀ v' w', Own k e B w' v' (zs ++ [z]) → Below B w w' → wpList P ops Q rest (a.put o.dst v') w') : wpList P ops Q (o :: rest) a w := by
  obtain ⟨i0, hi, hz0, hz1, hz2⟩ := info_parts hinfo
  refine wpList_append_own w hgd s x t ho B e i0 (.int k 0) 1 bytes ht hi hz0 hz1 hz2 rfl (by decide) v _ _ hs hown ad 1 1 [.int k z] hx rfl ?_ one1 hlen.2 hlen.1 hB ?_
  · intro j u hj
    match j, hj with
    | 0, hj => simp at hj; subst hj; simpa [Addr.add] using hcell
  · intro v' w' h1 h2 _
    exact h v' w' (Own.snoc h1) ((Below.refl _ _).grown h2 hB (fun k hk => (World.ownsRow.lt hown k hk).1))

theorem Own.alloc {k : IntKind} {e : TypeId} {B : Nat} {w : World} {s : Value} {zs : List Int} (h : Own k e B w s zs) (o : Obj) : Own k e B (w.alloc o) s zs := World.ownsRow.alloc h o

/-- The slice value v reads as the numbers zs, of kind k. -/
def Sl (k : IntKind) (w : World) (v : Value) (zs : List Int) : Prop :=
  ∃ a c, v = .slice a zs.length c ∧ zs.length ≤ c ∧ c ≤ maxLen ∧ (a = none → c = 0) ∧ (zs = [] ∨ ∃ b off, a = some ⟨b, off, none⟩ ∧ ∀ i, i < zs.length → w.cell? ⟨b, off + i, none⟩ = some (.int k (zs.getD i 0)))

theorem Ext.cellOf {w w' : World} (h : Ext w w') {a : Addr} {v : Value} (hc : w.cell? a = some v) : w'.cell? a = some v := cell_later h hc

theorem Sl.up {k : IntKind} {v : Value} {zs : List Int} : UpW (fun w => Sl k w v zs) := by
  rintro w w' he ⟨a, c, h1, h2, h3, h0, h4⟩
  refine ⟨a, c, h1, h2, h3, h0, ?_⟩
  rcases h4 with h4 | ⟨b, off, h4, h5⟩
  · exact .inl h4
  · exact .inr ⟨b, off, h4, fun i hi => he.cellOf (h5 i hi)⟩

theorem Sl.ext {k : IntKind} {w w' : World} {v : Value} {zs : List Int} (h : Sl k w v zs) (he : Ext w w') : Sl k w' v zs := Sl.up _ _ he h

theorem Own.sl {k : IntKind} {e : TypeId} {B : Nat} {w : World} {s : Value} {zs : List Int} (h : Own k e B w s zs) : Sl k w s zs := by
  obtain ⟨h1, h2⟩ := h
  rcases h2 with ⟨rfl, h2⟩ | ⟨g, cap, cur, rfl, _, hh, hn, hm, hs, ht⟩
  · exact ⟨none, 0, by rw [h2], by omega, by simp [maxLen], fun _ => rfl, .inl (List.length_eq_zero_iff.1 h2)⟩
  · refine ⟨_, cap, rfl, hn, hm, (fun h => by cases h), .inr ⟨g, 0, rfl, fun i hi => ?_⟩⟩
    have : w.cell? ⟨g, 0 + i, none⟩ = cur[i]? := by simp [World.cell?, hh]
    rw [this]
    have h5 : cur.toList[i]? = (zs.map (Value.int k))[i]? := by
      rw [← ht, List.getElem?_take, if_pos (by simpa using hi)]
    have h6 : cur[i]? = cur.toList[i]? := by simp
    rw [h6, h5]
    simp [List.getD, List.getElem?_eq_getElem hi]

/-- 'string(b)' -/
theorem Sl.str {P : Program} {w : World} {v : Value} {zs : List Int} (h : Sl .u8 w v zs) (src e dst : TypeId) (hs : P.underlying src = some (.slice e)) (he : P.underlying e = some (.int .u8)) (hd : P.underlying dst = some .string) :
    (convert src dst v).run P w = .ok (.string (strOfNums zs)) w := by
  obtain ⟨a, c, rfl, _, _, _, h4⟩ := h
  rcases h4 with rfl | ⟨b, off, rfl, h5⟩
  · rw [run_convert_bytes_string w src dst e _ _ c hs he hd]
    cases a <;> simp [Conv.bytesToString, loadCells, strOfNums]
    all_goals rfl
  · exact run_convert_bytes_arg w src e hs he b off _ c zs rfl h5 dst hd

/-- Two strings of bytes are alike just if the bytes are. -/
theorem strOfNums_inj {xs ys : List Int} (hx : ∀ x ∈ xs, 0 ≤ x ∧ x ≤ 255) (hy : ∀ y ∈ ys, 0 ≤ y ∧ y ≤ 255) : ((strOfNums xs).toList == (strOfNums ys).toList) = decide (xs = ys) := by
  have key : ∀ xs ys : List Int, (∀ x ∈ xs, 0 ≤ x ∧ x ≤ 255) → (∀ y ∈ ys, 0 ≤ y ∧ y ≤ 255) → xs.map (fun n => UInt8.ofNat n.toNat) = ys.map (fun n => UInt8.ofNat n.toNat) → xs = ys := by
    intro xs
    induction xs with
    | nil => intro ys _ _ h; cases ys with | nil => rfl | cons y ys => simp at h
    | cons x xs ih =>
      intro ys h1 h2 h
      cases ys with
      | nil => simp at h
      | cons y ys =>
        simp only [List.map_cons, List.cons.injEq] at h
        have a1 := h1 x (by simp)
        have a2 := h2 y (by simp)
        have e1 : x.toNat = y.toNat := by
          have := congrArg UInt8.toNat h.1
          simp only [UInt8.toNat_ofNat'] at this
          omega
        have e2 : x = y := by omega
        rw [e2, ih ys (fun z hz => h1 z (by simp [hz])) (fun z hz => h2 z (by simp [hz])) h.2]
  rw [Bool.eq_iff_iff, ByteArray.toList_eq, ByteArray.toList_eq, strOfNums_data, strOfNums_data]
  simp only [beq_iff_eq, decide_eq_true_eq]
  exact ⟨key xs ys hx hy, fun h => by rw [h]⟩

/-- A row just laid reads as its numbers. -/
theorem Sl.lit {k : IntKind} {e : TypeId} (w : World) (zs : List Int) (n : Nat) (hn : zs.length = n) (hm : n ≤ maxLen) : Sl k (w.alloc (.cells (zs.map (Value.int k)).toArray e)) (.slice (some ⟨w.heap.size, 0, none⟩) n n) zs := by
  subst hn
  refine ⟨_, _, rfl, Nat.le_refl _, hm, (fun h => by cases h), .inr ⟨w.heap.size, 0, rfl, fun i hi => ?_⟩⟩
  have h : (w.alloc (.cells (zs.map (Value.int k)).toArray e)).heap[w.heap.size]? = some (.cells (zs.map (Value.int k)).toArray e) := heap_alloc_new w _
  simp only [World.cell?, h]
  simp [hi]

theorem ints_one {k : IntKind} (zs : List Int) : ∀ u ∈ zs.map (Value.int k), u.oneCell' = true := by
  intro u hu
  simp only [List.mem_map] at hu
  obtain ⟨z, _, rfl⟩ := hu
  rfl

/-- 'append(s, xs...)', s the call's own, xs whatever numbers. -/
theorem wpList_join {P : Program} (w : World) {ops : Array Oper} {rest : List Oper} {o : Oper} {a : Act} {Q : Exit → Act → World → Prop} (hgd : o.guard = none) (s x : Operand) (t : TypeId)
    (ho : o.op = .call { callee := .builtin .append, args := #[s, x], argTypes := #[t, t] }) (e : TypeId) (k : IntKind) (bytes : Nat) (ht : P.underlying t = some (.slice e))
    (hinfo : (P.info? e).map (fun i => (i.zero, i.size, i.bytes)) = some (some (.int k 0), 1, bytes)) (B : Nat) (v u : Value) (zs ys : List Int) (hs : a.eval s = v) (hx : a.eval x = u)
    (hown : Own k e B w v zs) (hsl : Sl k w u ys) (hlen : (zs.length + ys.length) * bytes ≤ 140737488355328 ∧ zs.length + ys.length ≤ maxLen) (hB : B ≤ w.heap.size)
    (h : ∀ v' w', Own k e B w' v' (zs ++ ys) → Below B w w' → wpList P ops Q rest (a.put o.dst v') w') : wpList P ops Q (o :: rest) a w := by
  obtain ⟨i0, hi, hz0, hz1, hz2⟩ := info_parts hinfo
  obtain ⟨ad, c, rfl, h1, h2, h3, h4⟩ := hsl
  have fin : ∀ v' w', w'.ownsRow B e 1 v' (zs.length + ys.length) (zs.map (Value.int k) ++ ys.map (Value.int k)) → w.grownBy w' v.ownBlock → wpList P ops Q rest (a.put o.dst v') w' := fun v' w' g1 g2 =>
    h v' w' (by unfold Own; simpa using g1) ((Below.refl _ _).grown g2 hB (fun k hk => (World.ownsRow.lt hown k hk).1))
  cases ad with
  | none =>
    have hc := h3 rfl
    subst hc
    have hy : ys = [] := List.length_eq_zero_iff.1 (by omega)
    subst hy
    refine wpList_append_own_none hgd s x t ho B e i0 1 ht hi v _ _ hs hown hx ?_
    refine h v w ?_ (Below.refl _ _)
    rw [List.append_nil]; exact hown
  | some ad =>
    refine wpList_append_own w hgd s x t ho B e i0 (.int k 0) 1 bytes ht hi hz0 hz1 hz2 rfl (by decide) v _ _ hs hown ad ys.length c (ys.map (Value.int k)) hx (by simp) ?_ (ints_one ys) hlen.2 hlen.1 hB (fun v' w' g1 g2 _ => fin v' w' g1 g2)
    intro j u hj
    rcases h4 with rfl | ⟨b, off, hb, h5⟩
    · simp at hj
    · simp only [Option.some.injEq] at hb
      subst hb
      have hjl : j < ys.length := by
        rcases Nat.lt_or_ge j ys.length with g | g
        · exact g
        · simp [List.getElem?_eq_none (show (ys.map (Value.int k)).length ≤ j by simpa using g)] at hj
      rw [Go.WideShapes.add_plain, h5 j hjl]
      simp [List.getElem?_eq_getElem hjl] at hj
      subst hj
      simp [List.getD, List.getElem?_eq_getElem hjl]

/-- 's[:n]' -/
theorem Sl.take {k : IntKind} {w : World} {b off c : Nat} {zs : List Int} (n : Nat) (hn : n ≤ zs.length) (hc : zs.length ≤ c) (hm : c ≤ maxLen)
    (h : ∀ i, i < zs.length → w.cell? ⟨b, off + i, none⟩ = some (.int k (zs.getD i 0))) : Sl k w (.slice (some ⟨b, off, none⟩) n c) (zs.take n) := by
  have hl : (zs.take n).length = n := by simp; omega
  refine ⟨_, c, by rw [hl], by omega, hm, (fun h => by cases h), .inr ⟨b, off, rfl, fun i hi => ?_⟩⟩
  rw [hl] at hi
  rw [h i (by omega)]
  congr 2
  simp [List.getD, List.getElem?_take, hi]

/-- 'string(b)' in every later world. -/
theorem later_str {P : Program} {w : World} {v : Value} {zs : List Int} (h : Sl .u8 w v zs) (src e dst : TypeId) (hs : P.underlying src = some (.slice e)) (he : P.underlying e = some (.int .u8)) (hd : P.underlying dst = some .string) :
    ∀ l : Later w, (convert src dst v).run P l.val = .ok (.string (strOfNums zs)) l.val :=
  fun l => (h.ext l.ext).str src e dst hs he hd

theorem run_convert_op {P : Program} {w w' : World} {ρ : Operand → Value} {o : Oper} {src dst : TypeId} {x : Operand} {v u : Value} (ho : o.op = .convert src dst x) (hx : ρ x = v) (h : (convert src dst v).run P w = .ok u w') :
    (execOp ρ o).run P w = .ok (.value u) w' := by
  unfold execOp
  simp only [ho, hx, Sem.run_bind, h, Result.andThen, Sem.run_pure]

/-- A slice of numbers that came in. -/
theorem Sl.ofRow {k : IntKind} {w : World} {a : Option Addr} {len cap : Nat} {zs : List Int}
    (h : (a = none ∧ len = 0 ∧ cap = 0 ∧ zs = []) ∨ ∃ x, a = some x ∧ len ≤ cap ∧ cap ≤ maxLen ∧ zs.length = cap ∧ (∀ i, i < zs.length → w.cell? (x.add i) = some (.int k (zs.getD i 0))) ∧ ∀ n ∈ zs, (Lit.int k n).wf = true) :
    Sl k w (.slice a len cap) (zs.take len) ∧ (zs.take len).length = len ∧ ∀ z ∈ zs.take len, (Lit.int k z).wf = true := by
  rcases h with ⟨rfl, rfl, rfl, rfl⟩ | ⟨x, rfl, h1, h2, h3, h4, h5⟩
  · exact ⟨⟨none, 0, rfl, by simp, by simp [maxLen], fun _ => rfl, .inl rfl⟩, rfl, fun z hz => by simp at hz⟩
  · have hl : (zs.take len).length = len := by simp; omega
    refine ⟨?_, hl, fun z hz => h5 z (List.mem_of_mem_take hz)⟩
    by_cases h0 : len = 0
    · subst h0
      exact ⟨some x, cap, rfl, by simp, h2, (fun h => by cases h), .inl rfl⟩
    · obtain ⟨b, off, rfl, hc⟩ := Go.ints_at h4 (by omega)
      exact Sl.take len (by omega) (by omega) h2 hc

theorem wf_u8 {zs : List Int} (h : ∀ z ∈ zs, (Lit.int .u8 z).wf = true) : ∀ z ∈ zs, 0 ≤ z ∧ z ≤ 255 := fun z hz => Go.bounds_u8 (h z hz)

/-- 's[:m]' of whatever slice. -/
theorem Sl.take' {k : IntKind} {w : World} {a : Option Addr} {n c : Nat} {zs : List Int} (h : Sl k w (.slice a n c) zs) (m : Nat) (hm : m ≤ n) : Sl k w (.slice a m c) (zs.take m) := by
  obtain ⟨a', c', h1, h2, h3, h4, h5⟩ := h
  simp only [Value.slice.injEq] at h1
  obtain ⟨rfl, rfl, rfl⟩ := h1
  rcases h5 with rfl | ⟨b, off, rfl, h5⟩
  · simp at hm; subst hm
    exact ⟨a, c, rfl, by simp, h3, h4, .inl rfl⟩
  · exact Sl.take m hm h2 h3 h5

/-- What an owned row that is not empty looks like. -/
theorem Own.shape {k : IntKind} {e : TypeId} {B : Nat} {w : World} {s : Value} {zs : List Int} (h : Own k e B w s zs) (hn : zs ≠ []) : ∃ g cap, s = .slice (some ⟨g, 0, none⟩) zs.length cap ∧ B ≤ g ∧ zs.length ≤ cap ∧ cap ≤ maxLen := by
  rcases h.2 with ⟨_, h2⟩ | ⟨g, cap, cur, h2, h3, _, h4, h5, _⟩
  · exact absurd (List.length_eq_zero_iff.1 h2) hn
  · exact ⟨g, cap, h2, h3, h4, h5⟩

theorem Own.cell {k : IntKind} {e : TypeId} {B : Nat} {w : World} {g n cap : Nat} {zs : List Int} (h : Own k e B w (.slice (some ⟨g, 0, none⟩) n cap) zs) (hn : zs.length = n) (j : Nat) (hj : j < n) : w.cell? ⟨g, j, none⟩ = some (.int k (zs.getD j 0)) := by
  subst hn
  have := World.ownsRow.cellAt h j (by simpa using hj)
  rw [this]
  simp [List.getD, List.getElem?_eq_getElem hj]

theorem Own.frozen {k : IntKind} {e : TypeId} {B : Nat} {w : World} {g n cap : Nat} {zs : List Int} (h : Own k e B w (.slice (some ⟨g, 0, none⟩) n cap) zs) (hn : zs.length = n) (j : Nat) : w.frozen? ⟨g, j, none⟩ = false := by
  subst hn
  exact World.ownsRow.frozenAt h j

theorem Own.store {k : IntKind} {e : TypeId} {B : Nat} {w : World} {g n cap : Nat} {zs : List Int} (h : Own k e B w (.slice (some ⟨g, 0, none⟩) n cap) zs) (hn : zs.length = n) (j : Nat) (z : Int) :
    Own k e B (w.setCell ⟨g, j, none⟩ (.int k z)) (.slice (some ⟨g, 0, none⟩) n cap) (zs.set j z) := by
  subst hn
  have := (World.ownsRow.stored h j (.int k z)).1
  unfold Own
  rw [List.length_set, List.map_set]
  exact this

theorem hide' {p : Prop} (h : p) : Hid p := h

/-- 'y | d << n', no digit in both. -/
theorem or_shift_nat (y d n : Nat) (h : y < 2 ^ n) (hy : y < 18446744073709551616) (h64 : d * 2 ^ n < 18446744073709551616) : bits .or .u64 (y : Int) (IntKind.u64.wrap ((d : Int) * 2 ^ n)) = ((y + d * 2 ^ n : Nat) : Int) := by
  have e1 : (d : Int) * 2 ^ n = ((d * 2 ^ n : Nat) : Int) := by simp
  rw [e1, IntKind.wrap_u64, Int.emod_eq_of_lt (by omega) (by omega), u64_or_nat _ _ hy h64]
  have := Nat.shiftLeft_add_eq_or_of_lt h d
  rw [Nat.shiftLeft_eq] at this
  rw [Nat.or_comm, ← this, Nat.add_comm]

theorem pow128 (k : Nat) : (2 : Nat) ^ (7 * k) = 128 ^ k := by rw [Nat.pow_mul]

theorem or_shift (y d : Int) (k : Nat) (h0 : 0 ≤ y) (h1 : y < 128 ^ k) (h2 : 0 ≤ d) (hy : y < 18446744073709551616) (h64 : d * 128 ^ k < 18446744073709551616) :
    bits .or .u64 y (IntKind.u64.wrap (d * 2 ^ (7 * k))) = y + d * 128 ^ k := by
  obtain ⟨y, rfl⟩ := Int.eq_ofNat_of_zero_le h0
  obtain ⟨d, rfl⟩ := Int.eq_ofNat_of_zero_le h2
  have e := pow128 k
  have e2 : ((128 : Int) ^ k) = ((128 ^ k : Nat) : Int) := by simp
  rw [e2] at h1 h64 ⊢
  have h5 : ((d * 128 ^ k : Nat) : Int) < 18446744073709551616 := by rw [Int.natCast_mul]; exact h64
  have h3 := or_shift_nat y d (7 * k) (by rw [e]; omega) (by omega) (by rw [e]; omega)
  rw [h3, e, Int.natCast_add, Int.natCast_mul]

/-- 'y&127 | 128' -/
theorem low7 (y : Int) (h0 : 0 ≤ y) (h1 : y < 18446744073709551616) : bits .or .u64 (bits .and .u64 y 127) 128 = y % 128 + 128 := by
  obtain ⟨y, rfl⟩ := Int.eq_ofNat_of_zero_le h0
  have e1 : bits .and .u64 (y : Int) ((127 : Nat) : Int) = ((y &&& 127 : Nat) : Int) := u64_and_nat y 127 (by omega) (by omega)
  have e2 : y &&& 127 = y % 128 := Nat.and_two_pow_sub_one_eq_mod y 7
  have e3 : bits .or .u64 ((y % 128 : Nat) : Int) ((128 : Nat) : Int) = ((y % 128 ||| 128 : Nat) : Int) := u64_or_nat _ 128 (by omega) (by omega)
  have e4 : y % 128 ||| 128 = y % 128 + 128 := by
    have := Nat.shiftLeft_add_eq_or_of_lt (i := 7) (b := y % 128) (by omega) 1
    rw [Nat.or_comm]
    have h : 1 <<< 7 = 128 := rfl
    rw [h] at this
    omega
  have a1 : ((127 : Nat) : Int) = 127 := rfl
  have a2 : ((128 : Nat) : Int) = 128 := rfl
  rw [a1] at e1
  rw [a2] at e3
  rw [e1, e2, e3, e4]
  omega

theorem or128 (d : Int) (h0 : 0 ≤ d) (h1 : d < 128) : bits .or .u8 d 128 = d + 128 := by
  obtain ⟨d, rfl⟩ := Int.eq_ofNat_of_zero_le h0
  have e3 : bits .or .u8 (d : Int) ((128 : Nat) : Int) = ((d ||| 128 : Nat) : Int) := u8_or_nat _ 128 (by omega) (by omega)
  have e4 : d ||| 128 = d + 128 := by
    have := Nat.shiftLeft_add_eq_or_of_lt (i := 7) (b := d) (by omega) 1
    rw [Nat.or_comm]
    have h : 1 <<< 7 = 128 := rfl
    rw [h] at this
    omega
  have a2 : ((128 : Nat) : Int) = 128 := rfl
  rw [a2] at e3
  rw [e3, e4]
  omega
end Go.Proofs.YtlmbdafilboblaaGreat

/- Two rows of numbers, compared; how much they have alike; rotations. Plain numbers, no conditions. -/
namespace Go.Proofs.YtlmbdafilboblaaGreat
set_option linter.unusedVariables false
set_option linter.unusedSimpArgs false

/-- -1, 0, 1. -/
def cmpI : List Int → List Int → Int
  | [], [] => 0
  | [], _ :: _ => -1
  | _ :: _, [] => 1
  | a :: x, b :: y => if a < b then -1 else if b < a then 1 else cmpI x y

/-- How many are alike. -/
def comI : List Int → List Int → Nat
  | a :: x, b :: y => if a = b then comI x y + 1 else 0
  | _, _ => 0

def turnI (s : List Int) (i : Nat) : List Int := s.drop i ++ s.take i

def endL (s : List Int) (i j : Int) : Int := if (0 ≤ i ∧ i ≤ (s.length : Int)) ∧ 0 ≤ j ∧ j ≤ (s.length : Int) then cmpI (s.drop i.toNat) (s.drop j.toNat) else 0
def turnsL (s : List Int) (i j : Int) : Int := if (0 ≤ i ∧ i < (s.length : Int)) ∧ 0 ≤ j ∧ j < (s.length : Int) then cmpI (turnI s i.toNat) (turnI s j.toNat) else 0
def comL (s : List Int) (i j : Int) : Int := if (0 ≤ i ∧ i ≤ (s.length : Int)) ∧ 0 ≤ j ∧ j ≤ (s.length : Int) then (comI (s.drop i.toNat) (s.drop j.toNat) : Int) else 0

theorem endL_out {s : List Int} {i j : Int} (h : ¬ ((0 ≤ i ∧ i ≤ (s.length : Int)) ∧ 0 ≤ j ∧ j ≤ (s.length : Int))) : endL s i j = 0 := if_neg h
theorem endL_in {s : List Int} {i j : Nat} (h : i ≤ s.length) (h' : j ≤ s.length) : endL s i j = cmpI (s.drop i) (s.drop j) := by
  unfold endL; rw [if_pos (by omega)]; simp
theorem turnsL_out {s : List Int} {i j : Int} (h : ¬ ((0 ≤ i ∧ i < (s.length : Int)) ∧ 0 ≤ j ∧ j < (s.length : Int))) : turnsL s i j = 0 := if_neg h
theorem turnsL_in {s : List Int} {i j : Nat} (h : i < s.length) (h' : j < s.length) : turnsL s i j = cmpI (turnI s i) (turnI s j) := by
  unfold turnsL; rw [if_pos (by omega)]; simp
theorem comL_out {s : List Int} {i j : Int} (h : ¬ ((0 ≤ i ∧ i ≤ (s.length : Int)) ∧ 0 ≤ j ∧ j ≤ (s.length : Int))) : comL s i j = 0 := if_neg h
theorem comL_in {s : List Int} {i j : Nat} (h : i ≤ s.length) (h' : j ≤ s.length) : comL s i j = (comI (s.drop i) (s.drop j) : Int) := by
  unfold comL; rw [if_pos (by omega)]; simp

theorem drop_getD {x : List Int} {k : Nat} (h : k < x.length) : x.drop k = x.getD k 0 :: x.drop (k + 1) := by
  rw [List.drop_eq_getElem_cons h]
  simp [List.getD, List.getElem?_eq_getElem h]

theorem cmpI_same {x y : List Int} {k : Nat} (hx : k < x.length) (hy : k < y.length) (h : x.getD k 0 = y.getD k 0) : cmpI (x.drop k) (y.drop k) = cmpI (x.drop (k + 1)) (y.drop (k + 1)) := by
  rw [drop_getD hx, drop_getD hy, h, cmpI, if_neg (by omega), if_neg (by omega)]
theorem cmpI_lt {x y : List Int} {k : Nat} (hx : k < x.length) (hy : k < y.length) (h : x.getD k 0 < y.getD k 0) : cmpI (x.drop k) (y.drop k) = -1 := by
  rw [drop_getD hx, drop_getD hy, cmpI, if_pos h]
theorem cmpI_gt {x y : List Int} {k : Nat} (hx : k < x.length) (hy : k < y.length) (h : y.getD k 0 < x.getD k 0) : cmpI (x.drop k) (y.drop k) = 1 := by
  rw [drop_getD hx, drop_getD hy, cmpI, if_neg (by omega), if_pos h]
theorem cmpI_short {x y : List Int} {k : Nat} (hx : k = x.length) (hy : k < y.length) : cmpI (x.drop k) (y.drop k) = -1 := by
  rw [List.drop_of_length_le (by omega), drop_getD hy]; rfl
theorem cmpI_long {x y : List Int} {k : Nat} (hx : k < x.length) (hy : k = y.length) : cmpI (x.drop k) (y.drop k) = 1 := by
  rw [List.drop_of_length_le (l := y) (by omega), drop_getD hx]; rfl
theorem cmpI_end {x y : List Int} {k : Nat} (hx : k = x.length) (hy : k = y.length) : cmpI (x.drop k) (y.drop k) = 0 := by
  rw [List.drop_of_length_le (l := y) (by omega), List.drop_of_length_le (l := x) (by omega)]; rfl

theorem comI_same {x y : List Int} {k : Nat} (hx : k < x.length) (hy : k < y.length) (h : x.getD k 0 = y.getD k 0) : comI (x.drop k) (y.drop k) = comI (x.drop (k + 1)) (y.drop (k + 1)) + 1 := by
  rw [drop_getD hx, drop_getD hy, h, comI, if_pos rfl]
theorem comI_other {x y : List Int} {k : Nat} (hx : k < x.length) (hy : k < y.length) (h : x.getD k 0 ≠ y.getD k 0) : comI (x.drop k) (y.drop k) = 0 := by
  rw [drop_getD hx, drop_getD hy, comI, if_neg h]
theorem comI_nil_left {y : List Int} : comI [] y = 0 := by cases y <;> rfl
theorem comI_nil_right {x : List Int} : comI x [] = 0 := by cases x <;> rfl
theorem comI_left {x y : List Int} {k : Nat} (hx : x.length ≤ k) : comI (x.drop k) (y.drop k) = 0 := by
  rw [List.drop_of_length_le hx]; exact comI_nil_left
theorem comI_right {x y : List Int} {k : Nat} (hy : y.length ≤ k) : comI (x.drop k) (y.drop k) = 0 := by
  rw [List.drop_of_length_le (l := y) hy]; exact comI_nil_right

theorem cmpI_self (x : List Int) : cmpI x x = 0 := by
  induction x with
  | nil => rfl
  | cons a x ih => rw [cmpI, if_neg (by omega), if_neg (by omega), ih]
theorem cmpI_swap : ∀ (x y : List Int), cmpI y x = - cmpI x y
  | [], [] => rfl
  | [], _ :: _ => rfl
  | _ :: _, [] => rfl
  | a :: x, b :: y => by
    simp only [cmpI]
    by_cases h1 : a < b
    · rw [if_neg (by omega), if_pos h1, if_pos h1]; rfl
    · by_cases h2 : b < a
      · rw [if_pos h2, if_neg h1, if_pos h2]
      · rw [if_neg h2, if_neg h1, if_neg h1, if_neg h2, cmpI_swap x y]
theorem cmpI_zero : ∀ {x y : List Int}, cmpI x y = 0 → x = y
  | [], [], _ => rfl
  | [], _ :: _, h => by simp [cmpI] at h
  | _ :: _, [], h => by simp [cmpI] at h
  | a :: x, b :: y, h => by
    simp only [cmpI] at h
    by_cases h1 : a < b
    · rw [if_pos h1] at h; cases h
    · by_cases h2 : b < a
      · rw [if_neg h1, if_pos h2] at h; cases h
      · rw [if_neg h1, if_neg h2] at h
        rw [cmpI_zero h, show a = b by omega]
theorem cmpI_three (x y : List Int) : cmpI x y = -1 ∨ cmpI x y = 0 ∨ cmpI x y = 1 := by
  induction x generalizing y with
  | nil => cases y <;> simp [cmpI]
  | cons a x ih =>
    cases y with
    | nil => simp [cmpI]
    | cons b y =>
      simp only [cmpI]
      split
      · exact .inl rfl
      · split
        · exact .inr (.inr rfl)
        · exact ih y
theorem cmpI_trans : ∀ (x y z : List Int), cmpI x y ≤ 0 → cmpI y z ≤ 0 → cmpI x z ≤ 0
  | [], _, [], _, _ => by simp [cmpI]
  | [], _, _ :: _, _, _ => by simp [cmpI]
  | _ :: _, [], _, h, _ => by simp [cmpI] at h
  | _ :: _, _ :: _, [], _, h => by simp [cmpI] at h
  | a :: x, b :: y, c :: z, h1, h2 => by
    simp only [cmpI] at h1 h2 ⊢
    by_cases g1 : a < b
    · by_cases g2 : c < b
      · rw [if_neg (by omega), if_pos g2] at h2; omega
      · rw [if_pos (by omega)]; omega
    · by_cases g1' : b < a
      · rw [if_neg g1, if_pos g1'] at h1; omega
      · rw [if_neg g1, if_neg g1'] at h1
        have e : a = b := by omega
        subst e
        by_cases g2 : a < c
        · rw [if_pos g2]; omega
        · by_cases g3 : c < a
          · rw [if_neg g2, if_pos g3] at h2; omega
          · rw [if_neg g2, if_neg g3] at h2 ⊢
            exact cmpI_trans x y z h1 h2
theorem comI_swap : ∀ (x y : List Int), comI x y = comI y x
  | [], _ => by rw [comI_nil_left, comI_nil_right]
  | _ :: _, [] => rfl
  | a :: x, b :: y => by
    simp only [comI]
    by_cases h : a = b
    · rw [if_pos h, if_pos h.symm, comI_swap x y]
    · rw [if_neg h, if_neg (fun e => h e.symm)]
theorem comI_self (x : List Int) : comI x x = x.length := by
  induction x with
  | nil => rfl
  | cons a x ih => rw [comI, if_pos rfl, ih]; rfl
theorem comI_le : ∀ (x y : List Int), comI x y ≤ x.length ∧ comI x y ≤ y.length
  | [], _ => by rw [comI_nil_left]; omega
  | _ :: _, [] => by rw [comI_nil_right]; omega
  | a :: x, b :: y => by
    have := comI_le x y
    simp only [comI, List.length_cons]
    split <;> omega
/-- Behind what is alike the first other one tells. -/
theorem cmpI_comI : ∀ (x y : List Int), cmpI x y =
    if comI x y = x.length then (if comI x y = y.length then 0 else -1) else if comI x y = y.length then 1 else if x.getD (comI x y) 0 < y.getD (comI x y) 0 then -1 else 1
  | [], [] => by simp [cmpI, comI]
  | [], _ :: _ => by simp [cmpI, comI]
  | _ :: _, [] => by simp [cmpI, comI]
  | a :: x, b :: y => by
    by_cases h : a = b
    · subst h
      have hc : comI (a :: x) (a :: y) = comI x y + 1 := by simp [comI]
      have hm : cmpI (a :: x) (a :: y) = cmpI x y := by simp [cmpI]
      rw [hc, hm, cmpI_comI x y]
      simp
    · have hc : comI (a :: x) (b :: y) = 0 := by simp [comI, h]
      rw [hc, cmpI]
      simp only [List.length_cons, List.getD_cons_zero]
      rw [if_neg (show ¬ 0 = x.length + 1 by omega), if_neg (show ¬ 0 = y.length + 1 by omega)]
      split
      · rfl
      · rw [if_pos (by omega)]

theorem turnI_len {s : List Int} {i : Nat} (h : i ≤ s.length) : (turnI s i).length = s.length := by
  simp [turnI]; omega
theorem turnI_at {s : List Int} {i k : Nat} (hi : i < s.length) (hk : k < s.length) : (turnI s i).getD k 0 = s.getD ((i + k) % s.length) 0 := by
  unfold turnI
  by_cases h : i + k < s.length
  · rw [Nat.mod_eq_of_lt h]
    simp only [List.getD_eq_getElem?_getD]
    rw [List.getElem?_append_left (by simp; omega), List.getElem?_drop]
  · have e : (i + k) % s.length = i + k - s.length := by
      rw [Nat.mod_eq_sub_mod (by omega), Nat.mod_eq_of_lt (by omega)]
    rw [e]
    simp only [List.getD_eq_getElem?_getD]
    rw [List.getElem?_append_right (by simp; omega), List.getElem?_take, if_pos (by simp; omega)]
    congr 2
    simp; omega

theorem toUInt8_lt {a b : Int} (ha : 0 ≤ a ∧ a ≤ 255) (hb : 0 ≤ b ∧ b ≤ 255) : a.toNat.toUInt8 < b.toNat.toUInt8 ↔ a < b := by
  rw [UInt8.lt_iff_toNat_lt]
  simp only [Nat.toUInt8, UInt8.toNat_ofNat']
  omega

theorem cmpI_bytes : ∀ (x y : List Int), (∀ z ∈ x, 0 ≤ z ∧ z ≤ 255) → (∀ z ∈ y, 0 ≤ z ∧ z ≤ 255) → Go.Lib.compareBytes (Go.Lib.bytesOf x) (Go.Lib.bytesOf y) = cmpI x y
  | [], [], _, _ => rfl
  | [], _ :: _, _, _ => rfl
  | _ :: _, [], _, _ => rfl
  | a :: x, b :: y, hx, hy => by
    have ih := cmpI_bytes x y (fun z hz => hx z (by simp [hz])) (fun z hz => hy z (by simp [hz]))
    have ha := hx a (by simp)
    have hb := hy b (by simp)
    show (if a.toNat.toUInt8 < b.toNat.toUInt8 then (-1 : Int) else if b.toNat.toUInt8 < a.toNat.toUInt8 then 1 else Go.Lib.compareBytes (Go.Lib.bytesOf x) (Go.Lib.bytesOf y)) = _
    simp only [toUInt8_lt ha hb, toUInt8_lt hb ha, ih]
    rfl

/-- The model's entry bytealg.Compare at two slices of bytes. -/
theorem Sl.bytesOf {P : Program} {w : World} {v : Value} {x : List Int} (h : Sl .u8 w v x) : (Extern.Bytes.bytesOf v).run P w = .ok ⟨(Go.Lib.bytesOf x).toArray⟩ w := by
  obtain ⟨a, c, rfl, _, _, h0, h4⟩ := h
  cases a with
  | none =>
    have hx : x = [] := by
      rcases h4 with h4 | ⟨b, off, h4, _⟩
      · exact h4
      · cases h4
    subst hx
    rfl
  | some a =>
    rcases h4 with rfl | ⟨b, off, h4, h5⟩
    · rfl
    · simp only [Option.some.injEq] at h4
      subst h4
      have := Go.Lib.run_loadBytesX (P := P) w x ⟨b, off, none⟩ .empty (fun j z hj => by
        have hjl : j < x.length := (List.getElem?_eq_some_iff.1 hj).1
        rw [Go.WideShapes.add_plain, h5 j hjl]
        simp [List.getD, hj])
      show (Extern.Bytes.loadBytes ⟨b, off, none⟩ x.length .empty).run P w = _
      rw [this]
      simp [ByteArray.empty, ByteArray.emptyWithCapacity]
      rfl

theorem run_compareBytes {P : Program} {w : World} {u v : Value} {x y : List Int} (h : Sl .u8 w u x) (h' : Sl .u8 w v y) (hx : ∀ z ∈ x, 0 ≤ z ∧ z ≤ 255) (hy : ∀ z ∈ y, 0 ≤ z ∧ z ≤ 255) :
    (Extern.BytealgCompare.compare #[u, v]).run P w = .ok (.int .i64 (cmpI x y)) w := by
  change Sem.run P (do pure (goInt (Extern.BytealgCompare.cmp (← Extern.Bytes.bytesOf u) (← Extern.Bytes.bytesOf v)))) w = _
  simp only [Sem.run_bind, h.bytesOf, h'.bytesOf, Sem.run_pure, Result.andThen]
  rw [Go.Lib.cmp_eq]
  simp only [cmpI_bytes x y hx hy]
  rfl
end Go.Proofs.YtlmbdafilboblaaGreat

/- A row of numbers again and again. Plain numbers, no conditions. -/
namespace Go.Proofs.YtlmbdafilboblaaGreat
set_option linter.unusedVariables false
set_option linter.unusedSimpArgs false

def repI (x : List Int) (n : Nat) : List Int := (List.replicate n x).flatten

theorem repI_zero (x : List Int) : repI x 0 = [] := rfl
theorem repI_succ (x : List Int) (n : Nat) : repI x (n + 1) = repI x n ++ x := by
  unfold repI
  rw [List.replicate_succ', List.flatten_append]
  simp
theorem repI_cons (x : List Int) (n : Nat) : repI x (n + 1) = x ++ repI x n := by
  unfold repI
  rw [List.replicate_succ, List.flatten_cons]
theorem repI_len (x : List Int) (n : Nat) : (repI x n).length = n * x.length := by
  induction n with
  | zero => simp [repI]
  | succ n ih => rw [repI_succ, List.length_append, ih, Nat.succ_mul]
theorem repI_at (x : List Int) (n k : Nat) (h : k < n * x.length) : (repI x n).getD k 0 = x.getD (k % x.length) 0 := by
  induction n generalizing k with
  | zero => omega
  | succ n ih =>
    rw [repI_cons]
    by_cases hk : k < x.length
    · rw [Nat.mod_eq_of_lt hk]
      simp only [List.getD_eq_getElem?_getD]
      rw [List.getElem?_append_left hk]
    · have e : k % x.length = (k - x.length) % x.length := Nat.mod_eq_sub_mod (by omega)
      rw [e, ← ih (k - x.length) (by rw [Nat.succ_mul] at h; omega)]
      simp only [List.getD_eq_getElem?_getD]
      rw [List.getElem?_append_right (by omega)]
theorem getD_ext {x y : List Int} (hl : x.length = y.length) (h : ∀ k, k < x.length → x.getD k 0 = y.getD k 0) : x = y := by
  refine List.ext_getElem hl fun k h1 h2 => ?_
  have := h k h1
  simpa [List.getD, List.getElem?_eq_getElem h1, List.getElem?_eq_getElem h2] using this
/-- Rotations of a row again and again are the same, a row apart. -/
theorem turnI_rep (x : List Int) (n i : Nat) (hi : i < n * x.length) : turnI (repI x n) i = turnI (repI x n) ((i + x.length) % (n * x.length)) := by
  have hN := repI_len x n
  have hj : (i + x.length) % (n * x.length) < n * x.length := Nat.mod_lt _ (by omega)
  have hm : 0 < x.length := Nat.pos_of_ne_zero fun h => by rw [h] at hi; omega
  refine getD_ext (by rw [turnI_len (by omega), turnI_len (by omega)]) fun k hk => ?_
  rw [turnI_len (by omega), hN] at hk
  rw [turnI_at (by omega) (by omega), turnI_at (by omega) (by omega), hN, repI_at _ _ _ (Nat.mod_lt _ (by omega)), repI_at _ _ _ (Nat.mod_lt _ (by omega))]
  congr 1
  rw [Nat.mod_add_mod, Nat.mod_mul_left_mod, Nat.mod_mul_left_mod, show i + x.length + k = i + k + x.length by omega, Nat.add_mod_right]

theorem take_ext_succ {x y : List Int} {k : Nat} (h1 : k < x.length) (h2 : k < y.length) (h : x.take k = y.take k) (he : x.getD k 0 = y.getD k 0) : x.take (k + 1) = y.take (k + 1) := by
  rw [List.take_add_one, List.take_add_one, h]
  simp only [List.getD_eq_getElem?_getD, List.getElem?_eq_getElem h1, List.getElem?_eq_getElem h2, Option.getD_some] at he
  rw [List.getElem?_eq_getElem h1, List.getElem?_eq_getElem h2, he]
end Go.Proofs.YtlmbdafilboblaaGreat

/- Sorting by counting, and the order that it makes. Plain numbers, no conditions. -/
namespace Go.Proofs.YtlmbdafilboblaaGreat
set_option linter.unusedVariables false
set_option linter.unusedSimpArgs false

/-- Natural numbers as Go's. -/
def natL (l : List Nat) : List Int := l.map fun (n : Nat) => (n : Int)
theorem natL_len (l : List Nat) : (natL l).length = l.length := List.length_map _
theorem natL_at (l : List Nat) (i : Nat) : (natL l).getD i 0 = ((l.getD i 0 : Nat) : Int) := by
  simp only [natL, List.getD_eq_getElem?_getD, List.getElem?_map]
  cases l[i]? <;> rfl
theorem natL_set (l : List Nat) (i x : Nat) : natL (l.set i x) = (natL l).set i (x : Int) := by simp [natL, List.map_set]
theorem natL_ext {l l' : List Nat} (hl : l.length = l'.length) (h : ∀ i, i < l.length → l.getD i 0 = l'.getD i 0) : l = l' := by
  refine List.ext_getElem hl fun k h1 h2 => ?_
  have := h k h1
  simpa [List.getD, List.getElem?_eq_getElem h1, List.getElem?_eq_getElem h2] using this
theorem set_same {l : List Nat} {i x : Nat} (h : i < l.length) : (l.set i x).getD i 0 = x := by simp [List.getD, h]
theorem set_other {l : List Nat} {i j x : Nat} (h : i ≠ j) : (l.set i x).getD j 0 = l.getD j 0 := by
  simp only [List.getD_eq_getElem?_getD]
  rw [List.getElem?_set_ne h]
theorem getN_mem {l : List Nat} {i : Nat} (h : i < l.length) : l.getD i 0 ∈ l := by
  rw [List.getD_eq_getElem?_getD, List.getElem?_eq_getElem h]
  exact List.getElem_mem h
theorem mem_getN {l : List Nat} {x : Nat} (h : x ∈ l) : ∃ i, i < l.length ∧ l.getD i 0 = x := by
  obtain ⟨i, hi, e⟩ := List.mem_iff_getElem.1 h
  exact ⟨i, hi, by rw [List.getD_eq_getElem?_getD, List.getElem?_eq_getElem hi]; exact e⟩
theorem takeN_succ {l : List Nat} {i : Nat} (h : i < l.length) : l.take (i + 1) = l.take i ++ [l.getD i 0] := by
  rw [List.take_add_one, List.getElem?_eq_getElem h, List.getD_eq_getElem?_getD, List.getElem?_eq_getElem h]
  rfl
theorem dropN_cons {l : List Nat} {i : Nat} (h : i < l.length) : l.drop i = l.getD i 0 :: l.drop (i + 1) := by
  rw [List.drop_eq_getElem_cons h, List.getD_eq_getElem?_getD, List.getElem?_eq_getElem h]
  rfl
theorem rangeN_at {n i : Nat} (h : i < n) : (List.range n).getD i 0 = i := by simp [List.getD, h]

/-- Those of one key, as they stand. -/
def pick (ps : List Nat) (key : Nat → Nat) (k : Nat) : List Nat := ps.filter fun p => key p == k
/-- Key by key. -/
def csort (K : Nat) (ps : List Nat) (key : Nat → Nat) : List Nat := (List.range K).flatMap (pick ps key)
/-- How many have a less key. -/
def offs (ps : List Nat) (key : Nat → Nat) (k : Nat) : Nat := (csort k ps key).length

theorem csort_succ (K : Nat) (ps : List Nat) (key : Nat → Nat) : csort (K + 1) ps key = csort K ps key ++ pick ps key K := by
  unfold csort
  rw [List.range_succ, List.flatMap_append]
  simp
theorem offs_succ (ps : List Nat) (key : Nat → Nat) (k : Nat) : offs ps key (k + 1) = offs ps key k + (pick ps key k).length := by
  unfold offs
  rw [csort_succ, List.length_append]
theorem offs_zero (ps : List Nat) (key : Nat → Nat) : offs ps key 0 = 0 := rfl
theorem offs_mono (ps : List Nat) (key : Nat → Nat) : ∀ {k l : Nat}, k ≤ l → offs ps key k ≤ offs ps key l := by
  intro k l h
  induction h with
  | refl => exact Nat.le_refl _
  | step _ ih => rw [offs_succ]; omega
theorem offs_in (ps : List Nat) (key : Nat → Nat) {k l t : Nat} (h : k < l) (ht : t < (pick ps key k).length) : offs ps key k + t < offs ps key l := by
  have := offs_mono ps key (show k + 1 ≤ l from h)
  rw [offs_succ] at this
  omega
/-- No two places of the keys' rows are one. -/
theorem offs_inj (ps : List Nat) (key : Nat → Nat) {k l t u : Nat} (ht : t < (pick ps key k).length) (hu : u < (pick ps key l).length) (h : offs ps key k + t = offs ps key l + u) : k = l ∧ t = u := by
  rcases Nat.lt_trichotomy k l with g | g | g
  · have := offs_in ps key g ht; omega
  · subst g; omega
  · have := offs_in ps key g hu; omega
theorem csort_at (ps : List Nat) (key : Nat → Nat) : ∀ {K k t : Nat}, k < K → t < (pick ps key k).length → (csort K ps key).getD (offs ps key k + t) 0 = (pick ps key k).getD t 0 := by
  intro K
  induction K with
  | zero => intro k t h _; omega
  | succ K ih =>
    intro k t hk ht
    rw [csort_succ]
    by_cases h : k < K
    · have hlt : offs ps key k + t < (csort K ps key).length := offs_in ps key h ht
      rw [← ih h ht]
      simp only [List.getD_eq_getElem?_getD]
      rw [List.getElem?_append_left hlt]
    · have e : k = K := by omega
      subst e
      simp only [List.getD_eq_getElem?_getD]
      rw [List.getElem?_append_right (by unfold offs; omega)]
      congr 2
      unfold offs; omega
theorem csort_split (ps : List Nat) (key : Nat → Nat) : ∀ {K j : Nat}, j < (csort K ps key).length → ∃ k t, k < K ∧ t < (pick ps key k).length ∧ j = offs ps key k + t := by
  intro K
  induction K with
  | zero => intro j h; simp [csort] at h
  | succ K ih =>
    intro j hj
    by_cases h : j < (csort K ps key).length
    · obtain ⟨k, t, h1, h2, h3⟩ := ih h
      exact ⟨k, t, by omega, h2, h3⟩
    · refine ⟨K, j - offs ps key K, by omega, ?_, by unfold offs; omega⟩
      rw [csort_succ, List.length_append] at hj
      unfold offs; omega
theorem csort_perm_lt (ps : List Nat) (key : Nat → Nat) : ∀ K, (csort K ps key).Perm (ps.filter fun p => decide (key p < K)) := by
  intro K
  induction K with
  | zero =>
    have : (ps.filter fun p => decide (key p < 0)) = [] := by rw [List.filter_eq_nil_iff]; intro a _; simp
    rw [this]
    exact List.Perm.refl _
  | succ K ih =>
    rw [csort_succ]
    have h := List.filter_append_perm (fun p => decide (key p < K)) (ps.filter fun p => decide (key p < K + 1))
    rw [List.filter_filter, List.filter_filter] at h
    have e1 : (ps.filter fun a => decide (key a < K) && decide (key a < K + 1)) = ps.filter fun p => decide (key p < K) := by
      congr 1; funext a; rw [Bool.eq_iff_iff]; simp; omega
    have e2 : (ps.filter fun a => !decide (key a < K) && decide (key a < K + 1)) = pick ps key K := by
      unfold pick; congr 1; funext a; rw [Bool.eq_iff_iff]; simp; omega
    rw [e1, e2] at h
    exact (ih.append_right _).trans h
theorem csort_perm {K : Nat} {ps : List Nat} {key : Nat → Nat} (h : ∀ p ∈ ps, key p < K) : (csort K ps key).Perm ps := by
  have := csort_perm_lt ps key K
  have e : (ps.filter fun p => decide (key p < K)) = ps := by
    rw [List.filter_eq_self]; intro a ha; simpa using h a ha
  rwa [e] at this
theorem csort_len {K : Nat} {ps : List Nat} {key : Nat → Nat} (h : ∀ p ∈ ps, key p < K) : offs ps key K = ps.length := (csort_perm h).length_eq
/-- By key; those of one key as they stood. -/
theorem csort_sorted (K : Nat) {ps : List Nat} (key : Nat → Nat) {Q : Nat → Nat → Prop} (h : ps.Pairwise Q) : (csort K ps key).Pairwise fun p q => key p < key q ∨ (key p = key q ∧ Q p q) := by
  unfold csort
  rw [List.pairwise_flatMap]
  have hk : ∀ {k p}, p ∈ pick ps key k → key p = k := fun hp => by
    have := (List.mem_filter.1 hp).2
    simpa using this
  constructor
  · intro k _
    refine (List.Pairwise.imp_of_mem ?_ (h.filter (p := fun p => key p == k)))
    intro a b ha hb hq
    exact .inr ⟨(hk ha).trans (hk hb).symm, hq⟩
  · refine List.pairwise_lt_range.imp ?_
    intro a b hab x hx y hy
    rw [hk hx, hk hy]
    exact .inl hab

/-- How many of the first i have key k. -/
def cntN (ks : List Nat) (i k : Nat) : Nat := (pick (List.range i) (fun p => ks.getD p 0) k).length
theorem cntN_zero (ks : List Nat) (k : Nat) : cntN ks 0 k = 0 := rfl
theorem cntN_same {ks : List Nat} {i k : Nat} (h : ks.getD i 0 = k) : cntN ks (i + 1) k = cntN ks i k + 1 := by
  unfold cntN pick
  rw [List.range_succ, List.filter_append, List.length_append, List.filter_cons_of_pos (by simpa using h)]
  rfl
theorem cntN_other {ks : List Nat} {i k : Nat} (h : ks.getD i 0 ≠ k) : cntN ks (i + 1) k = cntN ks i k := by
  unfold cntN pick
  rw [List.range_succ, List.filter_append, List.length_append]
  have : ([i].filter fun p => ks.getD p 0 == k) = [] := by
    rw [List.filter_eq_nil_iff]; intro a ha; simp only [List.mem_singleton] at ha; subst ha; simpa using h
  rw [this]; rfl
theorem cntN_all {ks ps : List Nat} {n : Nat} (h : ps.Perm (List.range n)) (k : Nat) : cntN ks n k = (pick ps (fun p => ks.getD p 0) k).length := ((h.filter _).length_eq).symm

theorem pick_snoc_same {ps : List Nat} {key : Nat → Nat} {p k : Nat} (h : key p = k) : pick (ps ++ [p]) key k = pick ps key k ++ [p] := by
  unfold pick
  rw [List.filter_append]
  congr 1
  simp [h]
theorem pick_snoc_other {ps : List Nat} {key : Nat → Nat} {p k : Nat} (h : key p ≠ k) : pick (ps ++ [p]) key k = pick ps key k := by
  unfold pick
  rw [List.filter_append]
  have : ([p].filter fun q => key q == k) = [] := by
    rw [List.filter_eq_nil_iff]; intro a ha; simp only [List.mem_singleton] at ha; subst ha; simpa using h
  rw [this, List.append_nil]
theorem pick_split (ps : List Nat) (key : Nat → Nat) (i k : Nat) : pick ps key k = pick (ps.take i) key k ++ pick (ps.drop i) key k := by
  unfold pick
  rw [← List.filter_append, List.take_append_drop]
theorem pick_le (ps : List Nat) (key : Nat → Nat) (i k : Nat) : (pick (ps.take i) key k).length ≤ (pick ps key k).length := by
  rw [pick_split ps key i k, List.length_append]; omega
/-- The next of a key's row. -/
theorem pick_next {ps : List Nat} {key : Nat → Nat} {i : Nat} (hi : i < ps.length) : (pick (ps.take i) key (key (ps.getD i 0))).length < (pick ps key (key (ps.getD i 0))).length ∧
    (pick ps key (key (ps.getD i 0))).getD (pick (ps.take i) key (key (ps.getD i 0))).length 0 = ps.getD i 0 := by
  have e : pick (ps.drop i) key (key (ps.getD i 0)) = ps.getD i 0 :: pick (ps.drop (i + 1)) key (key (ps.getD i 0)) := by
    rw [dropN_cons hi]
    unfold pick
    rw [List.filter_cons_of_pos (by simp)]
  have e2 := pick_split ps key i (key (ps.getD i 0))
  rw [e] at e2
  constructor
  · rw [e2, List.length_append, List.length_cons]; omega
  · conv => lhs; rw [e2]
    simp only [List.getD_eq_getElem?_getD]
    rw [List.getElem?_append_right (Nat.le_refl _)]
    simp

/-- What the last loop of the sort keeps. -/
def Fill (ps : List Nat) (key : Nat → Nat) (K i : Nat) (fr row : List Nat) : Prop :=
  (∀ k, k < K → fr.getD k 0 = offs ps key k + (pick (ps.take i) key k).length) ∧
  ∀ k t, k < K → t < (pick (ps.take i) key k).length → row.getD (offs ps key k + t) 0 = (pick ps key k).getD t 0

theorem Fill.start {ps : List Nat} {key : Nat → Nat} {K : Nat} {fr row : List Nat} (h : ∀ k, k < K → fr.getD k 0 = offs ps key k) : Fill ps key K 0 fr row :=
  ⟨fun k hk => by rw [h k hk]; simp [pick], fun k t _ ht => by simp [pick] at ht⟩
theorem Fill.at {ps : List Nat} {key : Nat → Nat} {K i : Nat} {fr row : List Nat} (h : Fill ps key K i fr row) (hK : ∀ p ∈ ps, key p < K) (hi : i < ps.length) : fr.getD (key (ps.getD i 0)) 0 < ps.length := by
  have hk := hK _ (getN_mem hi)
  rw [h.1 _ hk, ← csort_len hK]
  exact offs_in ps key hk (pick_next hi).1
theorem Fill.next {ps : List Nat} {key : Nat → Nat} {K i : Nat} {fr row : List Nat} (h : Fill ps key K i fr row) (hK : ∀ p ∈ ps, key p < K) (hi : i < ps.length) (hr : row.length = ps.length) (hf : K ≤ fr.length) :
    Fill ps key K (i + 1) (fr.set (key (ps.getD i 0)) (fr.getD (key (ps.getD i 0)) 0 + 1)) (row.set (fr.getD (key (ps.getD i 0)) 0) (ps.getD i 0)) := by
  have hk := hK _ (getN_mem hi)
  have hat := h.at hK hi
  obtain ⟨n1, n2⟩ := pick_next (key := key) hi
  generalize hp : ps.getD i 0 = p at *
  have hs : ∀ k, key p = k → pick (ps.take (i + 1)) key k = pick (ps.take i) key k ++ [p] := fun k e => by rw [takeN_succ hi, hp, pick_snoc_same e]
  have ho : ∀ k, key p ≠ k → pick (ps.take (i + 1)) key k = pick (ps.take i) key k := fun k e => by rw [takeN_succ hi, hp, pick_snoc_other e]
  constructor
  · intro k hk2
    by_cases e : key p = k
    · rw [hs k e, ← e, set_same (by omega), h.1 _ hk, List.length_append]
      simp; omega
    · rw [ho k e, set_other e, h.1 k hk2]
  · intro k t hk2 ht
    by_cases e : key p = k
    · rw [hs k e, List.length_append] at ht
      simp at ht
      by_cases et : t = (pick (ps.take i) key k).length
      · have : offs ps key k + t = fr.getD (key p) 0 := by rw [h.1 _ hk, e, et]
        rw [this, set_same (by omega), et, ← e, n2]
      · rw [set_other ?_]
        · exact h.2 k t hk2 (by omega)
        · rw [h.1 _ hk]
          intro e2
          have := offs_inj ps key (k := key p) (l := k) n1 (by have := pick_le ps key i k; omega) e2
          rw [e] at this
          omega
    · rw [ho k e] at ht
      rw [set_other ?_]
      · exact h.2 k t hk2 ht
      · rw [h.1 _ hk]
        intro e2
        exact e (offs_inj ps key (k := key p) (l := k) n1 (by have := pick_le ps key i k; omega) e2).1
theorem Fill.done {ps : List Nat} {key : Nat → Nat} {K : Nat} {fr row : List Nat} (h : Fill ps key K ps.length fr row) (hK : ∀ p ∈ ps, key p < K) (hr : row.length = ps.length) : row = csort K ps key := by
  have hl : (csort K ps key).length = ps.length := csort_len hK
  refine natL_ext (by omega) fun j hj => ?_
  obtain ⟨k, t, h1, h2, rfl⟩ := csort_split ps key (K := K) (j := j) (by omega)
  rw [csort_at ps key h1 h2, h.2 k t h1 (by rwa [List.take_length])]
theorem nodup_getN {l : List Nat} (h : l.Nodup) {i j : Nat} (hi : i < l.length) (hj : j < l.length) (e : l.getD i 0 = l.getD j 0) : i = j := by
  rw [List.getD_eq_getElem?_getD, List.getD_eq_getElem?_getD, List.getElem?_eq_getElem hi, List.getElem?_eq_getElem hj] at e
  exact (List.getElem_inj h).1 e
theorem natL_snoc (l : List Nat) (i : Nat) : natL l ++ [(i : Int)] = natL (l ++ [i]) := by simp [natL]
end Go.Proofs.YtlmbdafilboblaaGreat

/- Small and large endings. Plain numbers, no conditions. -/
namespace Go.Proofs.YtlmbdafilboblaaGreat
set_option linter.unusedVariables false
set_option linter.unusedSimpArgs false

/-- Is place i small: is its ending less than the next place's one? -/
def smB (s : List Int) (i : Nat) : Bool := decide (cmpI (s.drop i) (s.drop (i + 1)) < 0)

def smallI (s : List Int) : List Bool := (List.range s.length).map (smB s)

theorem smallI_len (s : List Int) : (smallI s).length = s.length := by simp [smallI]
theorem smallI_at {s : List Int} {i : Nat} (h : i < s.length) : (smallI s).getD i false = smB s i := by simp [smallI, List.getD, h]

theorem smB_lt {s : List Int} {i : Nat} (hi : i + 1 < s.length) (h : s.getD i 0 < s.getD (i + 1) 0) : smB s i = true := by
  unfold smB
  rw [drop_getD (show i < s.length by omega), drop_getD hi, cmpI, if_pos h]; rfl
theorem smB_gt {s : List Int} {i : Nat} (hi : i + 1 < s.length) (h : s.getD (i + 1) 0 < s.getD i 0) : smB s i = false := by
  unfold smB
  rw [drop_getD (show i < s.length by omega), drop_getD hi, cmpI, if_neg (by omega), if_pos h]; rfl
theorem smB_eq {s : List Int} {i : Nat} (hi : i + 1 < s.length) (h : s.getD i 0 = s.getD (i + 1) 0) : smB s i = smB s (i + 1) := by
  unfold smB
  rw [drop_getD (show i < s.length by omega), drop_getD hi, cmpI, if_neg (by omega), if_neg (by omega), ← drop_getD hi]
theorem smB_last {s : List Int} {i : Nat} (hi : s.length ≤ i + 1) : smB s i = false := by
  unfold smB
  rw [List.drop_of_length_le hi]
  by_cases h : i < s.length
  · rw [drop_getD h]; rfl
  · rw [List.drop_of_length_le (by omega)]; rfl
/-- A place by its number and the next one. -/
theorem smB_next {s : List Int} {i : Nat} (hi : i + 1 < s.length) : smB s i = (decide (s.getD i 0 < s.getD (i + 1) 0) || (decide (s.getD i 0 = s.getD (i + 1) 0) && smB s (i + 1))) := by
  rcases Int.lt_trichotomy (s.getD i 0) (s.getD (i + 1) 0) with h | h | h
  · rw [smB_lt hi h, decide_eq_true h]; rfl
  · rw [smB_eq hi h, decide_eq_false (by omega), decide_eq_true h]; rfl
  · rw [smB_gt hi h, decide_eq_false (by omega), decide_eq_false (by omega)]; rfl

/-- Does place i begin small ones? -/
def fsB (s : List Int) (i : Nat) : Bool := decide (1 ≤ i) && (smB s i && !smB s (i - 1))

/-- The places below k that begin small ones. -/
def firN (s : List Int) (k : Nat) : List Nat := (List.range k).filter (fsB s)
/-- The places that begin small ones. -/
def firstN (s : List Int) : List Nat := firN s s.length

theorem firN_zero (s : List Int) : firN s 0 = [] := rfl
theorem firN_one (s : List Int) : firN s 1 = [] := rfl
theorem firN_yes {s : List Int} {k : Nat} (h : fsB s k = true) : firN s (k + 1) = firN s k ++ [k] := by simp [firN, List.range_succ, h]
theorem firN_no {s : List Int} {k : Nat} (h : fsB s k = false) : firN s (k + 1) = firN s k := by simp [firN, List.range_succ, h]
theorem firN_len (s : List Int) (k : Nat) : (firN s k).length ≤ k := by
  have := List.length_filter_le (fsB s) (List.range k)
  rw [List.length_range] at this
  exact this
theorem firN_mem {s : List Int} {k i : Nat} : i ∈ firN s k ↔ i < k ∧ fsB s i = true := by simp [firN]

/-- What begins small ones is followed by none that does. -/
theorem fsB_apart {s : List Int} {i : Nat} (h : fsB s i = true) : fsB s (i + 1) = false := by
  unfold fsB at *
  simp only [Bool.and_eq_true, decide_eq_true_eq, Bool.not_eq_true'] at h
  rw [Nat.add_sub_cancel, h.2.1]
  simp
theorem firN_sorted (s : List Int) (k : Nat) : (firN s k).Pairwise (· < ·) := List.Pairwise.filter _ List.pairwise_lt_range
/-- Those that begin small ones are at most half as many. -/
theorem firN_half (s : List Int) : ∀ k, 2 * (firN s k).length ≤ k ∧ (fsB s k = true → 2 * (firN s (k + 1)).length ≤ k + 1) := by
  have key : ∀ k, (fsB s k = true → 2 * (firN s k).length + 1 ≤ k) ∧ 2 * (firN s k).length ≤ k + 1 - 1 := by
    intro k
    induction k with
    | zero => exact ⟨fun h => absurd h (by simp [fsB]), by simp [firN]⟩
    | succ k ih =>
      by_cases hk : fsB s k = true
      · have hn := fsB_apart hk
        have h1 := ih.1 hk
        rw [firN_yes hk, List.length_append]
        exact ⟨fun h => absurd (hn.symm.trans h) (by simp), by simp; omega⟩
      · have hk' : fsB s k = false := by simpa using hk
        rw [firN_no hk']
        have := ih.2
        exact ⟨fun _ => by omega, by omega⟩
  intro k
  refine ⟨by have := (key k).2; omega, fun h => by have := (key (k + 1)).2; omega⟩
theorem firstN_half (s : List Int) : 2 * (firstN s).length ≤ s.length := (firN_half s _).1
/-- Two of them lie two apart. -/
theorem firN_two {s : List Int} {k j : Nat} (hj : j + 1 < (firN s k).length) : (firN s k).getD j 0 + 2 ≤ (firN s k).getD (j + 1) 0 := by
  have h1 := List.pairwise_iff_getElem.1 (firN_sorted s k) j (j + 1) (by omega) hj (by omega)
  have m1 := (firN_mem (s := s) (k := k)).1 (List.getElem_mem (show j < (firN s k).length by omega))
  have m2 := (firN_mem (s := s) (k := k)).1 (List.getElem_mem hj)
  simp only [List.getD, List.getElem?_eq_getElem hj, List.getElem?_eq_getElem (show j < (firN s k).length by omega), Option.getD_some]
  generalize (firN s k)[j] = x at *
  generalize (firN s k)[j + 1] = y at *
  by_cases e : y = x + 1
  · rw [e, fsB_apart m1.2] at m2
    cases m2.2
  · omega
theorem firN_in {s : List Int} {k j : Nat} (hj : j < (firN s k).length) : 1 ≤ (firN s k).getD j 0 ∧ (firN s k).getD j 0 < k := by
  have m1 := (firN_mem (s := s) (k := k)).1 (List.getElem_mem hj)
  simp only [List.getD, List.getElem?_eq_getElem hj, Option.getD_some]
  refine ⟨?_, m1.1⟩
  have := m1.2
  unfold fsB at this
  simp only [Bool.and_eq_true, decide_eq_true_eq] at this
  exact this.1

/-- Numbers that rise: all but the last are small. -/
theorem smB_rise {s : List Int} (h : ∀ i, i + 1 < s.length → s.getD i 0 < s.getD (i + 1) 0) (i : Nat) : smB s i = decide (i + 1 < s.length) := by
  by_cases hi : i + 1 < s.length
  · rw [smB_lt hi (h i hi), decide_eq_true hi]
  · rw [smB_last (by omega), decide_eq_false hi]
/-- Numbers that fall: none is small. -/
theorem smB_fall {s : List Int} (h : ∀ i, i + 1 < s.length → s.getD (i + 1) 0 < s.getD i 0) (i : Nat) : smB s i = false := by
  by_cases hi : i + 1 < s.length
  · exact smB_gt hi (h i hi)
  · exact smB_last (by omega)
theorem firN_none {s : List Int} {k : Nat} (h : ∀ i, fsB s i = false) : firN s k = [] := by
  unfold firN
  rw [List.filter_eq_nil_iff]
  intro i _
  rw [h i]; simp
theorem fsB_rise {s : List Int} (h : ∀ i, i + 1 < s.length → s.getD i 0 < s.getD (i + 1) 0) (i : Nat) : fsB s i = false := by
  unfold fsB
  rw [smB_rise h, smB_rise h]
  by_cases h1 : 1 ≤ i
  · by_cases h2 : i + 1 < s.length
    · rw [decide_eq_true (p := i - 1 + 1 < s.length) (by omega)]; simp
    · rw [decide_eq_false h2]; simp
  · rw [decide_eq_false h1]; rfl
theorem fsB_fall {s : List Int} (h : ∀ i, i + 1 < s.length → s.getD (i + 1) 0 < s.getD i 0) (i : Nat) : fsB s i = false := by
  unfold fsB
  rw [smB_fall h]; simp
end Go.Proofs.YtlmbdafilboblaaGreat

/- Keys that may be, counted; what stands ahead of each; the document's insertion by key. Plain numbers, no conditions. -/
namespace Go.Proofs.YtlmbdafilboblaaGreat
set_option linter.unusedVariables false
set_option linter.unusedSimpArgs false

theorem getI_mem {l : List Int} {i : Nat} (h : i < l.length) : l.getD i 0 ∈ l := by
  rw [List.getD_eq_getElem?_getD, List.getElem?_eq_getElem h]
  exact List.getElem_mem h
theorem mem_getI {l : List Int} {x : Int} (h : x ∈ l) : ∃ i, i < l.length ∧ l.getD i 0 = x := by
  obtain ⟨i, hi, e⟩ := List.mem_iff_getElem.1 h
  exact ⟨i, hi, by rw [List.getD_eq_getElem?_getD, List.getElem?_eq_getElem hi]; exact e⟩
theorem setI_same {l : List Int} {i : Nat} {x : Int} (h : i < l.length) : (l.set i x).getD i 0 = x := by simp [List.getD, h]
theorem setI_other {l : List Int} {i j : Nat} {x : Int} (h : i ≠ j) : (l.set i x).getD j 0 = l.getD j 0 := by
  simp only [List.getD_eq_getElem?_getD]
  rw [List.getElem?_set_ne h]
theorem mapI_at {α : Type} (f : Nat → α) (d : α) {n i : Nat} (h : i < n) : ((List.range n).map f).getD i d = f i := by simp [List.getD, h]

/-- All are 0 to n - 1. -/
def goodI (n : Int) (zs : List Int) : Bool := zs.all fun z => decide (0 ≤ z) && decide (z < n)
theorem goodI_iff {n : Int} {zs : List Int} : goodI n zs = true ↔ ∀ z ∈ zs, 0 ≤ z ∧ z < n := by simp [goodI]
theorem goodI_of {n : Int} {zs : List Int} (h : ∀ j, j < zs.length → 0 ≤ zs.getD j 0 ∧ zs.getD j 0 < n) : goodI n zs = true :=
  goodI_iff.2 fun z hz => by obtain ⟨i, hi, rfl⟩ := mem_getI hz; exact h i hi
theorem goodI_at {n : Int} {zs : List Int} (h : goodI n zs = true) {j : Nat} (hj : j < zs.length) : 0 ≤ zs.getD j 0 ∧ zs.getD j 0 < n := goodI_iff.1 h _ (getI_mem hj)
theorem goodI_bad {n : Int} {zs : List Int} {j : Nat} (hj : j < zs.length) (h : zs.getD j 0 < 0 ∨ n ≤ zs.getD j 0) : goodI n zs = false := by
  rw [Bool.eq_false_iff]
  intro hg
  have := goodI_at hg hj
  omega
/-- k may be, and each key is 0 to k - 1. -/
def fitB (zs : List Int) (k : Int) : Bool := decide (0 ≤ k) && decide (k ≤ 1048576) && goodI k zs
theorem fitB_iff {zs : List Int} {k : Int} : fitB zs k = true ↔ 0 ≤ k ∧ k ≤ 1048576 ∧ goodI k zs = true := by simp [fitB, and_assoc]
theorem fitB_eq {zs : List Int} {k : Int} (h0 : 0 ≤ k) (h1 : k ≤ 1048576) : fitB zs k = goodI k zs := by simp [fitB, h0, h1]
theorem fitB_neg {zs : List Int} {k : Int} (h : k < 0) : fitB zs k = false := by simp [fitB]; omega
theorem fitB_big {zs : List Int} {k : Int} (h : 1048576 < k) : fitB zs k = false := by simp [fitB]; omega

/-- Go's numbers as natural ones. -/
def toN (zs : List Int) : List Nat := zs.map Int.toNat
theorem toN_len (zs : List Int) : (toN zs).length = zs.length := List.length_map _
theorem toN_at (zs : List Int) (i : Nat) : (toN zs).getD i 0 = (zs.getD i 0).toNat := by
  simp only [toN, List.getD_eq_getElem?_getD, List.getElem?_map]
  cases zs[i]? <;> rfl
theorem toN_nat (l : List Nat) : toN (natL l) = l := by
  unfold toN natL
  rw [List.map_map]
  conv => rhs; rw [← List.map_id l]
  rfl
theorem natL_toN {n : Int} {zs : List Int} (h : goodI n zs = true) : natL (toN zs) = zs := by
  refine getD_ext (by rw [natL_len, toN_len]) fun k hk => ?_
  rw [natL_len, toN_len] at hk
  have := goodI_at h hk
  rw [natL_at, toN_at]
  omega
theorem good_nat {n : Nat} {l : List Nat} (h : ∀ x ∈ l, x < n) : goodI (n : Int) (natL l) = true := by
  rw [goodI_iff]
  intro z hz
  obtain ⟨x, hx, rfl⟩ := List.mem_map.1 hz
  have := h x hx
  omega

/-- How often q stands among the first i. -/
def cntI (zs : List Int) (q : Nat) : Nat → Nat
  | 0 => 0
  | i + 1 => cntI zs q i + if zs.getD i 0 = (q : Int) then 1 else 0
theorem cntI_le (zs : List Int) (q i : Nat) : cntI zs q i ≤ i := by
  induction i with
  | zero => exact Nat.le_refl _
  | succ i ih => unfold cntI; split <;> omega
theorem cntI_succ (zs : List Int) (q i : Nat) : cntI zs q (i + 1) = cntI zs q i + if zs.getD i 0 = (q : Int) then 1 else 0 := rfl
theorem cntI_same {zs : List Int} {q i : Nat} (h : zs.getD i 0 = (q : Int)) : cntI zs q (i + 1) = cntI zs q i + 1 := by rw [cntI_succ, if_pos h]
theorem cntI_other {zs : List Int} {q i : Nat} (h : zs.getD i 0 ≠ (q : Int)) : cntI zs q (i + 1) = cntI zs q i := by rw [cntI_succ, if_neg h]; omega
def cntsI (zs : List Int) (K : Nat) : List Nat := (List.range K).map fun q => cntI zs q zs.length
theorem cntsI_len (zs : List Int) (K : Nat) : (cntsI zs K).length = K := by simp [cntsI]
theorem cntsI_at (zs : List Int) {K q : Nat} (h : q < K) : (cntsI zs K).getD q 0 = cntI zs q zs.length := mapI_at _ _ h
theorem cntI_pick {ps : List Nat} {key : Nat → Nat} {zs : List Int} (hz : ∀ j, j < ps.length → zs.getD j 0 = (key (ps.getD j 0) : Int)) (q : Nat) : ∀ i, i ≤ ps.length → cntI zs q i = (pick (ps.take i) key q).length := by
  intro i
  induction i with
  | zero => intro _; simp [cntI, pick]
  | succ i ih =>
    intro hi
    have h1 := hz i (by omega)
    rw [takeN_succ (by omega)]
    by_cases e : key (ps.getD i 0) = q
    · rw [pick_snoc_same e, cntI_same (by rw [h1, e]), ih (by omega), List.length_append]; rfl
    · rw [pick_snoc_other e, cntI_other (by rw [h1]; omega), ih (by omega)]

/-- How many there are ahead, together. -/
def sumI (cs : List Int) : Nat → Int
  | 0 => 0
  | i + 1 => sumI cs i + cs.getD i 0
def startsI (cs : List Int) : List Int := (List.range cs.length).map (sumI cs)
theorem startsI_len (cs : List Int) : (startsI cs).length = cs.length := by simp [startsI]
theorem startsI_at (cs : List Int) {i : Nat} (h : i < cs.length) : (startsI cs).getD i 0 = sumI cs i := mapI_at _ _ h
theorem sumI_le {cs : List Int} {b : Int} (h : ∀ j, j < cs.length → -b ≤ cs.getD j 0 ∧ cs.getD j 0 ≤ b) : ∀ i : Nat, i ≤ cs.length → -(i * b) ≤ sumI cs i ∧ sumI cs i ≤ i * b := by
  intro i
  induction i with
  | zero => intro _; simp [sumI]
  | succ i ih =>
    intro hi
    have h1 := ih (by omega)
    have h2 := h i (by omega)
    have e : ((i + 1 : Nat) : Int) * b = i * b + b := by rw [Int.natCast_add, Int.add_mul]; simp
    rw [e]
    unfold sumI
    omega
theorem sum_offs {ps : List Nat} {key : Nat → Nat} {K : Nat} {bs : List Nat} (hb : ∀ q, q < K → bs.getD q 0 = (pick ps key q).length) : ∀ q, q ≤ K → sumI (natL bs) q = (offs ps key q : Int) := by
  intro q
  induction q with
  | zero => intro _; rfl
  | succ q ih =>
    intro hq
    unfold sumI
    rw [ih (by omega), natL_at, hb q (by omega), offs_succ]
    simp

/-- Which numbers a pass may take, and what it makes of them. -/
def passB (os ks : List Int) (k : Int) : Bool := fitB ks k && goodI (ks.length : Int) os
def keyN (ks : List Int) (p : Nat) : Nat := (ks.getD p 0).toNat
def passI (os ks : List Int) (k : Int) : List Int := if passB os ks k = true then natL (csort k.toNat (toN os) (keyN ks)) else []
theorem passI_yes {os ks : List Int} {k : Int} (h : passB os ks k = true) : passI os ks k = natL (csort k.toNat (toN os) (keyN ks)) := if_pos h
theorem passI_no {os ks : List Int} {k : Int} (h : passB os ks k = false) : passI os ks k = [] := by unfold passI; rw [h]; rfl
theorem passB_iff {os ks : List Int} {k : Int} : passB os ks k = true ↔ fitB ks k = true ∧ goodI (ks.length : Int) os = true := by simp [passB]
theorem keyN_lt {ks : List Int} {k : Int} (h : fitB ks k = true) {p : Nat} (hp : p < ks.length) : keyN ks p < k.toNat := by
  have := goodI_at (fitB_iff.1 h).2.2 hp
  unfold keyN
  omega
theorem passB_key {os ks : List Int} {k : Int} (h : passB os ks k = true) : ∀ p ∈ toN os, keyN ks p < k.toNat := by
  intro p hp
  obtain ⟨h1, h2⟩ := passB_iff.1 h
  obtain ⟨z, hz, rfl⟩ := List.mem_map.1 hp
  have := goodI_iff.1 h2 z hz
  exact keyN_lt h1 (by omega)
/-- The keys of an order's places. -/
def ownI (os ks : List Int) : List Int := os.map fun z => ks.getD z.toNat 0
theorem ownI_len (os ks : List Int) : (ownI os ks).length = os.length := List.length_map _
theorem ownI_at (os ks : List Int) {j : Nat} (h : j < os.length) : (ownI os ks).getD j 0 = ks.getD (os.getD j 0).toNat 0 := by simp [ownI, List.getD, h]
theorem ownI_key {os ks : List Int} {k : Int} (h : passB os ks k = true) {j : Nat} (hj : j < os.length) : (ownI os ks).getD j 0 = (keyN ks ((toN os).getD j 0) : Int) := by
  obtain ⟨h1, h2⟩ := passB_iff.1 h
  have h3 := goodI_at h2 hj
  have h4 := goodI_at (fitB_iff.1 h1).2.2 (j := (os.getD j 0).toNat) (by omega)
  rw [ownI_at _ _ hj, toN_at]
  unfold keyN
  omega
theorem ownI_fit {os ks : List Int} {k : Int} (h : passB os ks k = true) : fitB (ownI os ks) k = true := by
  obtain ⟨h1, h2⟩ := passB_iff.1 h
  obtain ⟨h3, h4, h5⟩ := fitB_iff.1 h1
  refine fitB_iff.2 ⟨h3, h4, goodI_of fun j hj => ?_⟩
  rw [ownI_len] at hj
  have := goodI_at h2 hj
  rw [ownI_at _ _ hj]
  exact goodI_at h5 (by omega)

/-- The document's insertion. -/
theorem mem_csort {K : Nat} {ps : List Nat} {key : Nat → Nat} {x : Nat} (h : x ∈ csort K ps key) : x ∈ ps ∧ key x < K := by
  obtain ⟨q, hq, hx⟩ := List.mem_flatMap.1 h
  obtain ⟨h1, h2⟩ := List.mem_filter.1 hx
  have := List.mem_range.1 hq
  have e : key x = q := by simpa using h2
  exact ⟨h1, by omega⟩
theorem csort_snoc_lt {ps : List Nat} {key : Nat → Nat} {p : Nat} : ∀ {K : Nat}, K ≤ key p → csort K (ps ++ [p]) key = csort K ps key := by
  intro K
  induction K with
  | zero => intro _; rfl
  | succ K ih => intro h; rw [csort_succ, csort_succ, ih (by omega), pick_snoc_other (by omega)]
theorem csort_snoc {ps : List Nat} {key : Nat → Nat} {p : Nat} : ∀ {K : Nat}, key p < K → ∃ R, csort K ps key = csort (key p + 1) ps key ++ R ∧ csort K (ps ++ [p]) key = csort (key p + 1) ps key ++ [p] ++ R ∧ ∀ x ∈ R, key p < key x := by
  intro K
  induction K with
  | zero => intro h; omega
  | succ K ih =>
    intro h
    by_cases hK : key p < K
    · obtain ⟨R, h1, h2, h3⟩ := ih hK
      refine ⟨R ++ pick ps key K, ?_, ?_, fun x hx => ?_⟩
      · rw [csort_succ, h1, List.append_assoc]
      · rw [csort_succ, h2, pick_snoc_other (by omega), List.append_assoc]
      · rcases List.mem_append.1 hx with hx | hx
        · exact h3 x hx
        · have : key x = K := by simpa using (List.mem_filter.1 hx).2
          omega
    · have e : key p = K := by omega
      refine ⟨[], ?_, ?_, fun x hx => by cases hx⟩
      · rw [e]; simp
      · rw [csort_succ, csort_snoc_lt (by omega), pick_snoc_same e, List.append_nil, e, csort_succ, List.append_assoc]
theorem ins_place {K : Nat} {ps : List Nat} {key : Nat → Nat} {p j : Nat} (hk : key p < K) (hj : j ≤ (csort K ps key).length) (h1 : ∀ m, j ≤ m → m < (csort K ps key).length → key p < key ((csort K ps key).getD m 0))
    (h2 : j = 0 ∨ key ((csort K ps key).getD (j - 1) 0) ≤ key p) : (csort K ps key).take j ++ [p] ++ (csort K ps key).drop j = csort K (ps ++ [p]) key := by
  obtain ⟨R, e1, e2, e3⟩ := csort_snoc (ps := ps) hk
  have hA : ∀ x ∈ csort (key p + 1) ps key, key x ≤ key p := fun x hx => by have := (mem_csort hx).2; omega
  rw [e2]
  rw [e1] at hj h1 h2 ⊢
  generalize csort (key p + 1) ps key = A at *
  have hjA : j = A.length := by
    rcases Nat.lt_trichotomy j A.length with g | g | g
    · have h3 := h1 j (Nat.le_refl _) (by rw [List.length_append]; omega)
      have e : (A ++ R).getD j 0 = A.getD j 0 := by
        simp only [List.getD_eq_getElem?_getD]
        rw [List.getElem?_append_left g]
      rw [e] at h3
      have := hA _ (getN_mem g)
      omega
    · exact g
    · rcases h2 with h2 | h2
      · omega
      · rw [List.length_append] at hj
        have e : (A ++ R).getD (j - 1) 0 = R.getD (j - 1 - A.length) 0 := by
          simp only [List.getD_eq_getElem?_getD]
          rw [List.getElem?_append_right (by omega)]
        rw [e] at h2
        have := e3 _ (getN_mem (l := R) (i := j - 1 - A.length) (by omega))
        omega
  subst hjA
  rw [List.take_left, List.drop_left]
theorem pairN_at {R : Nat → Nat → Prop} {l : List Nat} (h : l.Pairwise R) {i j : Nat} (hij : i < j) (hj : j < l.length) : R (l.getD i 0) (l.getD j 0) := by
  have := List.pairwise_iff_getElem.1 h i j (by omega) hj hij
  simpa [List.getD, List.getElem?_eq_getElem hj, List.getElem?_eq_getElem (show i < l.length by omega)] using this
/-- A pass over all places. -/
theorem all_at {K n : Nat} {key : Nat → Nat} (hK : ∀ p, p < n → key p < K) : (csort K (List.range n) key).length = n ∧ (∀ i, i < n → (csort K (List.range n) key).getD i 0 < n) ∧
    (csort K (List.range n) key).Nodup ∧ ∀ i, i + 1 < n → key ((csort K (List.range n) key).getD i 0) < key ((csort K (List.range n) key).getD (i + 1) 0) ∨
      (key ((csort K (List.range n) key).getD i 0) = key ((csort K (List.range n) key).getD (i + 1) 0) ∧ (csort K (List.range n) key).getD i 0 < (csort K (List.range n) key).getD (i + 1) 0) := by
  have hp : (csort K (List.range n) key).Perm (List.range n) := csort_perm fun p hp => hK p (List.mem_range.1 hp)
  have hl : (csort K (List.range n) key).length = n := by rw [hp.length_eq, List.length_range]
  refine ⟨hl, fun i hi => List.mem_range.1 (hp.mem_iff.1 (getN_mem (by omega))), hp.nodup_iff.2 List.nodup_range, fun i hi => ?_⟩
  exact pairN_at (csort_sorted K key List.pairwise_lt_range) (Nat.lt_succ_self i) (by omega)
/-- By the lower key, then by the higher one. -/
theorem two_at {K n : Nat} {H L : Nat → Nat} (hH : ∀ p, p < n → H p < K) (hL : ∀ p, p < n → L p < K) {b : List Nat} (hb : b = csort K (csort K (List.range n) L) H) : b.length = n ∧ (∀ i, i < n → b.getD i 0 < n) ∧
    ∀ i, i + 1 < n → H (b.getD i 0) < H (b.getD (i + 1) 0) ∨ (H (b.getD i 0) = H (b.getD (i + 1) 0) ∧ (L (b.getD i 0) < L (b.getD (i + 1) 0) ∨ (L (b.getD i 0) = L (b.getD (i + 1) 0) ∧ b.getD i 0 < b.getD (i + 1) 0))) := by
  have hp : (csort K (List.range n) L).Perm (List.range n) := csort_perm fun p hp => hL p (List.mem_range.1 hp)
  have hq : (csort K (csort K (List.range n) L) H).Perm (csort K (List.range n) L) := csort_perm fun p h => hH p (List.mem_range.1 (hp.mem_iff.1 h))
  have hr := hq.trans hp
  have hs := csort_sorted K H (csort_sorted K L (List.pairwise_lt_range (n := n)))
  rw [← hb] at hr hs
  have hl : b.length = n := by rw [hr.length_eq, List.length_range]
  refine ⟨hl, fun i hi => List.mem_range.1 (hr.mem_iff.1 (getN_mem (by omega))), fun i hi => ?_⟩
  exact pairN_at hs (Nat.lt_succ_self i) (by omega)
end Go.Proofs.YtlmbdafilboblaaGreat

/- A scan over rows of one key side by side, which lays places as it goes. Plain numbers, no conditions. -/
namespace Go.Proofs.YtlmbdafilboblaaGreat
set_option linter.unusedVariables false
set_option linter.unusedSimpArgs false

/-- How many of the places have key q; how many have a less one. -/
def cntK (n : Nat) (key : Nat → Nat) (q : Nat) : Nat := (pick (List.range n) key q).length
def offK (n : Nat) (key : Nat → Nat) (q : Nat) : Nat := offs (List.range n) key q
theorem offK_succ (n : Nat) (key : Nat → Nat) (q : Nat) : offK n key (q + 1) = offK n key q + cntK n key q := offs_succ _ _ _
theorem offK_mono (n : Nat) (key : Nat → Nat) {k l : Nat} (h : k ≤ l) : offK n key k ≤ offK n key l := offs_mono _ _ h
theorem offK_all {n K : Nat} {key : Nat → Nat} (hK : ∀ p, p < n → key p < K) : offK n key K = n := by
  have := csort_len (K := K) (ps := List.range n) (key := key) fun p hp => hK p (List.mem_range.1 hp)
  rw [List.length_range] at this
  exact this
theorem offK_lt {n K : Nat} {key : Nat → Nat} (hK : ∀ p, p < n → key p < K) {q t : Nat} (hq : q < K) (ht : t < cntK n key q) : offK n key q + t < n := by
  have h1 := offK_mono n key (show q + 1 ≤ K from hq)
  rw [offK_all hK, offK_succ] at h1
  omega
theorem offK_split {n K : Nat} {key : Nat → Nat} (hK : ∀ p, p < n → key p < K) {x : Nat} (hx : x < n) : ∃ q t, q < K ∧ t < cntK n key q ∧ x = offK n key q + t :=
  csort_split (List.range n) key (K := K) (by have := offK_all hK; unfold offK offs at this; omega)
theorem offK_inj {n : Nat} {key : Nat → Nat} {k l t u : Nat} (ht : t < cntK n key k) (hu : u < cntK n key l) (h : offK n key k + t = offK n key l + u) : k = l ∧ t = u := offs_inj (List.range n) key ht hu h

theorem pick_mem {P : List Nat} {key : Nat → Nat} {q p : Nat} : p ∈ pick P key q ↔ p ∈ P ∧ key p = q := by simp [pick]
theorem pick_get {P : List Nat} {key : Nat → Nat} {q t : Nat} (h : t < (pick P key q).length) : (pick P key q).getD t 0 ∈ P ∧ key ((pick P key q).getD t 0) = q := pick_mem.1 (getN_mem h)
theorem pick_rev (P : List Nat) (key : Nat → Nat) (q : Nat) : pick P.reverse key q = (pick P key q).reverse := by simp [pick]
theorem pick_app (P R : List Nat) (key : Nat → Nat) (q : Nat) : pick (P ++ R) key q = pick P key q ++ pick R key q := by simp [pick]
theorem nodup_sub {l : List Nat} : ∀ {l' : List Nat}, l.Nodup → (∀ x ∈ l, x ∈ l') → l.length ≤ l'.length := by
  induction l with
  | nil => intro l' _ _; exact Nat.zero_le _
  | cons a l ih =>
    intro l' hn hs
    rw [List.nodup_cons] at hn
    have ha := hs a List.mem_cons_self
    have h1 := ih (l' := l'.erase a) hn.2 fun x hx => by
      have hne : x ≠ a := fun e => hn.1 (e ▸ hx)
      exact (List.mem_erase_of_ne hne).2 (hs x (List.mem_cons_of_mem _ hx))
    have h2 := List.length_erase_of_mem ha
    have h3 := List.length_pos_of_mem ha
    simp only [List.length_cons]
    omega
/-- Different places: no more of a key than there are. -/
theorem cnt_sub {n : Nat} {key : Nat → Nat} {P R : List Nat} (hP : P.Nodup) (hR : R.Nodup) (hPn : ∀ p ∈ P, p < n) (hRn : ∀ p ∈ R, p < n) (hd : ∀ p ∈ P, p ∉ R) (q : Nat) : (pick P key q).length + (pick R key q).length ≤ cntK n key q := by
  have h1 : (pick (P ++ R) key q).length ≤ cntK n key q := by
    refine nodup_sub (List.Pairwise.filter _ (List.nodup_append.2 ⟨hP, hR, fun a ha b hb e => hd a ha (e ▸ hb)⟩)) fun x hx => ?_
    obtain ⟨h2, h3⟩ := pick_mem.1 hx
    refine pick_mem.2 ⟨List.mem_range.2 ?_, h3⟩
    rcases List.mem_append.1 h2 with h | h
    · exact hPn x h
    · exact hRn x h
  rw [pick_app, List.length_append] at h1
  exact h1

/-- What stands where: P at the beginnings of the keys' rows, base at their ends, nothing between. -/
structure Lay (n : Nat) (key : Nat → Nat) (base P : List Nat) (r : Nat → Int) : Prop where
  put : ∀ q t, t < (pick P key q).length → r (offK n key q + t) = ((pick P key q).getD t 0 : Nat)
  old : ∀ q u, u < (pick base key q).length → r (offK n key (q + 1) - 1 - u) = ((pick base key q).reverse.getD u 0 : Nat)
  none : ∀ q t, t < cntK n key q → (pick P key q).length ≤ t → t + (pick base key q).length < cntK n key q → r (offK n key q + t) = -1

theorem rev_get (l : List Nat) {u : Nat} (h : u < l.length) : l.reverse.getD u 0 = l.getD (l.length - 1 - u) 0 := by
  simp only [List.getD_eq_getElem?_getD]
  rw [List.getElem?_reverse h]

theorem Lay.cases {n K : Nat} {key : Nat → Nat} {base P : List Nat} {r : Nat → Int} (h : Lay n key base P r) (hK : ∀ p, p < n → key p < K) {x : Nat} (hx : x < n) :
    ∃ q t, q < K ∧ t < cntK n key q ∧ x = offK n key q + t ∧
      ((t < (pick P key q).length ∧ r x = ((pick P key q).getD t 0 : Nat)) ∨
       (cntK n key q - 1 - t < (pick base key q).length ∧ (pick P key q).length ≤ t ∧ r x = ((pick base key q).reverse.getD (cntK n key q - 1 - t) 0 : Nat)) ∨ r x = -1) := by
  obtain ⟨q, t, h1, h2, h3⟩ := offK_split hK hx
  refine ⟨q, t, h1, h2, h3, ?_⟩
  by_cases hP : t < (pick P key q).length
  · exact .inl ⟨hP, by rw [h3]; exact h.put q t hP⟩
  · by_cases hB : cntK n key q - 1 - t < (pick base key q).length
    · refine .inr (.inl ⟨hB, by omega, ?_⟩)
      have := h.old q _ hB
      rw [offK_succ] at this
      rw [← this, h3]
      congr 1
      omega
    · exact .inr (.inr (by rw [h3]; exact h.none q t h2 (by omega) (by omega)))

/-- Where something stands, it is a place of P or of base; no place stands twice. -/
theorem Lay.val {n K : Nat} {key : Nat → Nat} {base P : List Nat} {r : Nat → Int} (h : Lay n key base P r) (hK : ∀ p, p < n → key p < K) {x : Nat} (hx : x < n) : r x = -1 ∨ ∃ p : Nat, r x = (p : Int) ∧ (p ∈ P ∨ p ∈ base) := by
  obtain ⟨q, t, _, _, _, h1 | h1 | h1⟩ := h.cases hK hx
  · exact .inr ⟨_, h1.2, .inl (pick_get h1.1).1⟩
  · refine .inr ⟨_, h1.2.2, .inr ?_⟩
    have := getN_mem (l := (pick base key q).reverse) (by rw [List.length_reverse]; exact h1.1)
    rw [List.mem_reverse] at this
    exact (pick_mem.1 this).1
  · exact .inl h1
theorem Lay.inj {n K : Nat} {key : Nat → Nat} {base P : List Nat} {r : Nat → Int} (h : Lay n key base P r) (hK : ∀ p, p < n → key p < K) (hP : P.Nodup) (hB : base.Nodup) (hd : ∀ p ∈ P, p ∉ base) {x y p : Nat} (hx : x < n) (hy : y < n)
    (ex : r x = (p : Int)) (ey : r y = (p : Int)) : x = y := by
  have hrev : ∀ {q u}, u < (pick base key q).length → (pick base key q).reverse.getD u 0 ∈ base ∧ key ((pick base key q).reverse.getD u 0) = q := fun {q u} hu => by
    have := getN_mem (l := (pick base key q).reverse) (i := u) (by rw [List.length_reverse]; exact hu)
    rw [List.mem_reverse] at this
    exact pick_mem.1 this
  obtain ⟨q, t, _, ht, e1, h1⟩ := h.cases hK hx
  obtain ⟨q', t', _, ht', e2, h2⟩ := h.cases hK hy
  rw [ex] at h1
  rw [ey] at h2
  rcases h1 with ⟨a1, a2⟩ | ⟨a1, _, a2⟩ | a1
  · have m1 := pick_get a1
    rcases h2 with ⟨b1, b2⟩ | ⟨b1, _, b2⟩ | b1
    · have m2 := pick_get b1
      have e : (pick P key q).getD t 0 = (pick P key q').getD t' 0 := by omega
      have eq : q = q' := by rw [← m1.2, ← m2.2, e]
      subst eq
      have := nodup_getN (hP.filter _) a1 b1 e
      omega
    · have m2 := hrev b1
      have e : (pick P key q).getD t 0 = (pick base key q').reverse.getD (cntK n key q' - 1 - t') 0 := by omega
      rw [← e] at m2
      exact absurd m2.1 (hd _ m1.1)
    · omega
  · have m1 := hrev a1
    rcases h2 with ⟨b1, b2⟩ | ⟨b1, _, b2⟩ | b1
    · have m2 := pick_get b1
      have e : (pick P key q').getD t' 0 = (pick base key q).reverse.getD (cntK n key q - 1 - t) 0 := by omega
      rw [← e] at m1
      exact absurd m1.1 (hd _ m2.1)
    · have m2 := hrev b1
      have e : (pick base key q).reverse.getD (cntK n key q - 1 - t) 0 = (pick base key q').reverse.getD (cntK n key q' - 1 - t') 0 := by omega
      have eq : q = q' := by rw [← m1.2, ← m2.2, e]
      subst eq
      have hn : (pick base key q).reverse.Nodup := List.pairwise_reverse.2 ((List.Pairwise.filter _ hB).imp fun h => Ne.symm h)
      have := nodup_getN hn (by rw [List.length_reverse]; exact a1) (by rw [List.length_reverse]; exact b1) e
      omega
    · omega
  · omega

/-- A place of P or of base stands somewhere. -/
theorem Lay.find {n K : Nat} {key : Nat → Nat} {base P : List Nat} {r : Nat → Int} (h : Lay n key base P r) (hK : ∀ p, p < n → key p < K) (hP : P.Nodup) (hB : base.Nodup) (hPn : ∀ p ∈ P, p < n) (hBn : ∀ p ∈ base, p < n) {p : Nat} (hp : p ∈ P ∨ p ∈ base) : ∃ x, x < n ∧ r x = (p : Int) := by
  rcases hp with hp | hp
  · obtain ⟨t, ht, e⟩ := mem_getN (pick_mem.2 ⟨hp, rfl⟩ : p ∈ pick P key (key p))
    have hc := cnt_sub (key := key) hP List.nodup_nil hPn (fun _ h => by cases h) (fun _ _ h => by cases h) (key p)
    have : t < cntK n key (key p) := by omega
    exact ⟨_, offK_lt hK (hK p (hPn p hp)) this, by rw [h.put _ t ht, e]⟩
  · have hm : p ∈ (pick base key (key p)).reverse := List.mem_reverse.2 (pick_mem.2 ⟨hp, rfl⟩)
    obtain ⟨t, ht, e⟩ := mem_getN hm
    rw [List.length_reverse] at ht
    have hc := cnt_sub (key := key) hB List.nodup_nil hBn (fun _ h => by cases h) (fun _ _ h => by cases h) (key p)
    have hlt : cntK n key (key p) - 1 - t < cntK n key (key p) := by omega
    have h1 := offK_lt hK (hK p (hBn p hp)) hlt
    refine ⟨offK n key (key p + 1) - 1 - t, ?_, by rw [h.old _ t ht, e]⟩
    rw [offK_succ]
    omega

/-- One more. -/
theorem Lay.snoc {n K : Nat} {key : Nat → Nat} {base P : List Nat} {r : Nat → Int} (h : Lay n key base P r) {p : Nat} (hc : ∀ q, (pick (P ++ [p]) key q).length + (pick base key q).length ≤ cntK n key q) {r' : Nat → Int}
    (h1 : r' (offK n key (key p) + (pick P key (key p)).length) = (p : Int)) (h2 : ∀ x, x ≠ offK n key (key p) + (pick P key (key p)).length → r' x = r x) : Lay n key base (P ++ [p]) r' := by
  have hp := hc (key p)
  rw [pick_snoc_same rfl, List.length_append, List.length_singleton] at hp
  refine ⟨fun q t ht => ?_, fun q u hu => ?_, fun q t ht ht1 ht2 => ?_⟩
  · by_cases e : key p = q
    · subst e
      rw [pick_snoc_same rfl] at ht ⊢
      rw [List.length_append, List.length_singleton] at ht
      by_cases et : t = (pick P key (key p)).length
      · rw [et, h1]
        simp [List.getD]
      · rw [h2 _ (by omega), h.put _ t (by omega)]
        simp only [List.getD_eq_getElem?_getD]
        rw [List.getElem?_append_left (by omega)]
    · rw [pick_snoc_other e] at ht ⊢
      rw [h2 _ (fun e2 => ?_), h.put q t ht]
      have h3 := hc q
      rw [pick_snoc_other e] at h3
      exact e (offK_inj (by omega) (by omega) e2).1.symm
  · rw [h2 _ (fun e2 => ?_), h.old q u hu]
    have h3 := hc q
    have h4 : (pick P key q).length ≤ (pick (P ++ [p]) key q).length := by rw [pick_app, List.length_append]; omega
    rw [offK_succ] at e2
    have e3 := offK_inj (n := n) (key := key) (k := q) (l := key p) (t := cntK n key q - 1 - u) (u := (pick P key (key p)).length) (by omega) (by omega) (by omega)
    obtain ⟨e4, e5⟩ := e3
    subst e4
    omega
  · have h4 : (pick P key q).length ≤ (pick (P ++ [p]) key q).length := by rw [pick_app, List.length_append]; omega
    rw [h2 _ (fun e2 => ?_), h.none q t ht (by omega) ht2]
    obtain ⟨e4, e5⟩ := offK_inj (n := n) (key := key) ht (by omega) e2
    subst e4
    rw [pick_snoc_same rfl, List.length_append, List.length_singleton] at ht1
    omega

theorem Lay.empty (n : Nat) (key : Nat → Nat) {r : Nat → Int} (h : ∀ x, x < n → r x = -1) (hl : ∀ q t, t < cntK n key q → offK n key q + t < n) : Lay n key [] [] r :=
  ⟨fun q t ht => by simp [pick] at ht, fun q t ht => by simp [pick] at ht, fun q t ht _ _ => h _ (hl q t ht)⟩

/-- What a scan keeps. -/
structure Scan (n : Nat) (key : Nat → Nat) (T : Nat → Bool) (base P0 : List Nat) (i : Nat) (P : List Nat) (r : Nat → Int) : Prop where
  lay : Lay n key base P r
  nodup : P.Nodup
  kind : ∀ p ∈ P, p < n ∧ T p = true
  src : ∀ p ∈ P, p ∈ P0 ∨ ∃ x, x < i ∧ r x = ((p + 1 : Nat) : Int)
  done : ∀ x, x < i → ∀ p : Nat, r x = ((p + 1 : Nat) : Int) → T p = true → p ∈ P
  init : ∀ p ∈ P0, p ∈ P

/-- What a scan stands on. -/
structure Based (n K : Nat) (key : Nat → Nat) (T : Nat → Bool) (base P0 : List Nat) : Prop where
  hK : ∀ p, p < n → key p < K
  nodup : base.Nodup
  kind : ∀ p ∈ base, p < n ∧ T p = false
  last : ∀ p ∈ P0, n ≤ p + 1
  mono : ∀ p, p + 1 < n → T p = true → key (p + 1) ≤ key p ∧ (key (p + 1) = key p → T (p + 1) = true)

theorem Scan.apart {n K : Nat} {key : Nat → Nat} {T : Nat → Bool} {base P0 P : List Nat} {i : Nat} {r : Nat → Int} (h : Scan n key T base P0 i P r) (b : Based n K key T base P0) : ∀ p ∈ P, p ∉ base := fun p h1 h2 => by
  have := (h.kind p h1).2
  rw [(b.kind p h2).2] at this
  cases this

theorem Scan.val {n K : Nat} {key : Nat → Nat} {T : Nat → Bool} {base P0 P : List Nat} {i x : Nat} {r : Nat → Int} (h : Scan n key T base P0 i P r) (b : Based n K key T base P0) (hx : x < n) : r x = -1 ∨ ∃ p : Nat, r x = (p : Int) ∧ p < n := by
  rcases h.lay.val b.hK hx with h1 | ⟨p, h1, h2 | h2⟩
  · exact .inl h1
  · exact .inr ⟨p, h1, (h.kind p h2).1⟩
  · exact .inr ⟨p, h1, (b.kind p h2).1⟩

theorem Scan.skip {n : Nat} {key : Nat → Nat} {T : Nat → Bool} {base P0 P : List Nat} {i : Nat} {r : Nat → Int} (h : Scan n key T base P0 i P r) (hs : ∀ p : Nat, r i = ((p + 1 : Nat) : Int) → T p = false) : Scan n key T base P0 (i + 1) P r := by
  refine ⟨h.lay, h.nodup, h.kind, fun p hp => ?_, fun x hx p hr hT => ?_, h.init⟩
  · rcases h.src p hp with h1 | ⟨x, h1, h2⟩
    · exact .inl h1
    · exact .inr ⟨x, by omega, h2⟩
  · by_cases e : x = i
    · subst e
      rw [hs p hr] at hT
      cases hT
    · exact h.done x (by omega) p hr hT

/-- One that is put: it has room, behind what was read. -/
theorem Scan.room {n K : Nat} {key : Nat → Nat} {T : Nat → Bool} {base P0 P : List Nat} {i p : Nat} {r : Nat → Int} (h : Scan n key T base P0 i P r) (b : Based n K key T base P0) (hi : i < n) (hr : r i = ((p + 1 : Nat) : Int)) (hT : T p = true) :
    p + 1 < n ∧ p ∉ P ∧ (∀ q, (pick (P ++ [p]) key q).length + (pick base key q).length ≤ cntK n key q) ∧ offK n key (key p) + (pick P key (key p)).length < n ∧ i < offK n key (key p) + (pick P key (key p)).length := by
  have hp1 : p + 1 < n := by
    rcases h.val b hi with h1 | ⟨p', h1, h2⟩
    · omega
    · omega
  have hnot : p ∉ P := fun hp => by
    rcases h.src p hp with h1 | ⟨x, h1, h2⟩
    · have := b.last p h1
      omega
    · have := h.lay.inj b.hK h.nodup b.nodup (h.apart b) (show x < n by omega) hi h2 hr
      omega
  have hc : ∀ q, (pick (P ++ [p]) key q).length + (pick base key q).length ≤ cntK n key q := by
    refine fun q => cnt_sub (List.nodup_append.2 ⟨h.nodup, by simp, fun a ha c hc e => ?_⟩) b.nodup (fun a ha => ?_) (fun a ha => (b.kind a ha).1) (fun a ha hb => ?_) q
    · simp only [List.mem_singleton] at hc
      exact hnot (by rw [← hc, ← e]; exact ha)
    · rcases List.mem_append.1 ha with h1 | h1
      · exact (h.kind a h1).1
      · simp only [List.mem_singleton] at h1
        omega
    · rcases List.mem_append.1 ha with h1 | h1
      · exact h.apart b a h1 hb
      · simp only [List.mem_singleton] at h1
        subst h1
        rw [(b.kind a hb).2] at hT
        cases hT
  have hp := hc (key p)
  rw [pick_snoc_same rfl, List.length_append, List.length_singleton] at hp
  refine ⟨hp1, hnot, hc, offK_lt b.hK (b.hK p (by omega)) (by omega), ?_⟩
  obtain ⟨m1, m2⟩ := b.mono p hp1 hT
  obtain ⟨q, t, _, ht, e1, h1⟩ := h.lay.cases b.hK hi
  rw [hr] at h1
  rcases h1 with ⟨a1, a2⟩ | ⟨a1, _, a2⟩ | a1
  · have m3 := (pick_get a1).2
    rw [show (pick P key q).getD t 0 = p + 1 by omega] at m3
    by_cases e : q = key p
    · subst e
      omega
    · have := offK_mono n key (show q + 1 ≤ key p by omega)
      rw [offK_succ] at this
      omega
  · have := getN_mem (l := (pick base key q).reverse) (by rw [List.length_reverse]; exact a1)
    rw [List.mem_reverse, show (pick base key q).reverse.getD (cntK n key q - 1 - t) 0 = p + 1 by omega] at this
    obtain ⟨m3, m4⟩ := pick_mem.1 this
    have e : q ≠ key p := fun e => by
      have := m2 (by omega)
      rw [(b.kind _ m3).2] at this
      cases this
    have := offK_mono n key (show q + 1 ≤ key p by omega)
    rw [offK_succ] at this
    omega
  · omega

theorem Scan.next {n K : Nat} {key : Nat → Nat} {T : Nat → Bool} {base P0 P : List Nat} {i p : Nat} {r r' : Nat → Int} (h : Scan n key T base P0 i P r) (b : Based n K key T base P0) (hi : i < n) (hr : r i = ((p + 1 : Nat) : Int)) (hT : T p = true)
    (h1 : r' (offK n key (key p) + (pick P key (key p)).length) = (p : Int)) (h2 : ∀ x, x ≠ offK n key (key p) + (pick P key (key p)).length → r' x = r x) : Scan n key T base P0 (i + 1) (P ++ [p]) r' := by
  obtain ⟨g1, g2, g3, g4, g5⟩ := h.room b hi hr hT
  refine ⟨h.lay.snoc (K := K) g3 h1 h2, List.nodup_append.2 ⟨h.nodup, by simp, fun a ha c hc e => ?_⟩, fun a ha => ?_, fun a ha => ?_, fun x hx a ha hTa => ?_, fun a ha => List.mem_append_left _ (h.init a ha)⟩
  · simp only [List.mem_singleton] at hc
    exact g2 (by rw [← hc, ← e]; exact ha)
  · rcases List.mem_append.1 ha with h3 | h3
    · exact h.kind a h3
    · simp only [List.mem_singleton] at h3
      subst h3
      exact ⟨by omega, hT⟩
  · rcases List.mem_append.1 ha with h3 | h3
    · rcases h.src a h3 with h4 | ⟨x, h4, h5⟩
      · exact .inl h4
      · exact .inr ⟨x, by omega, by rw [h2 x (by omega)]; exact h5⟩
    · simp only [List.mem_singleton] at h3
      subst h3
      exact .inr ⟨i, by omega, by rw [h2 i (by omega)]; exact hr⟩
  · rw [h2 x (by omega)] at ha
    by_cases e : x = i
    · subst e
      have : a = p := by omega
      subst this
      exact List.mem_append_right _ (List.mem_singleton.2 rfl)
    · exact List.mem_append_left _ (h.done x (by omega) a ha hTa)

/-- At its end it has put all of its kind. -/
theorem Scan.all {n K : Nat} {key : Nat → Nat} {T : Nat → Bool} {base P0 P : List Nat} {r : Nat → Int} (h : Scan n key T base P0 n P r) (b : Based n K key T base P0) (h0 : ∀ p, p < n → T p = true → n ≤ p + 1 → p ∈ P0) (h1 : ∀ p, p + 1 < n → T p = true → T (p + 1) = false → p + 1 ∈ base) :
    ∀ p, p < n → T p = true → p ∈ P := by
  have key1 : ∀ d p, n - p = d → p < n → T p = true → p ∈ P := by
    intro d
    induction d with
    | zero => intro p h2 h3; omega
    | succ d ih =>
      intro p h2 h3 hT
      by_cases hl : n ≤ p + 1
      · exact h.init p (h0 p h3 hT hl)
      · have hin : p + 1 ∈ P ∨ p + 1 ∈ base := by
          cases hT1 : T (p + 1)
          · exact .inr (h1 p (by omega) hT hT1)
          · exact .inl (ih (p + 1) (by omega) (by omega) hT1)
        obtain ⟨x, hx, hr⟩ := h.lay.find b.hK h.nodup b.nodup (fun p hp => (h.kind p hp).1) (fun p hp => (b.kind p hp).1) hin
        exact h.done x hx p hr hT
  exact fun p => key1 _ p rfl
end Go.Proofs.YtlmbdafilboblaaGreat

/- A scan that keeps an order; a scan from the other end. Plain numbers, no conditions. -/
namespace Go.Proofs.YtlmbdafilboblaaGreat
set_option linter.unusedVariables false
set_option linter.unusedSimpArgs false

/-- An order that a scan keeps. -/
structure Ordered (n : Nat) (key : Nat → Nat) (T : Nat → Bool) (base P0 : List Nat) (lt : Nat → Nat → Prop) : Prop where
  o1 : ∀ a b, a < n → b < n → key a < key b → lt a b
  o2 : ∀ a b, a < n → b < n → key a = key b → T a = true → T b = false → lt a b
  o3 : ∀ a b, a + 1 < n → b + 1 < n → T a = true → T b = true → key a = key b → lt (a + 1) (b + 1) → lt a b
  o4 : ∀ a b, a ∈ P0 → b + 1 < n → T b = true → key a = key b → lt a b
  old : ∀ q, (pick base key q).Pairwise lt

theorem Scan.slots {n K : Nat} {key : Nat → Nat} {T : Nat → Bool} {base P0 P : List Nat} {i : Nat} {r : Nat → Int} {lt : Nat → Nat → Prop} (h : Scan n key T base P0 i P r) (b : Based n K key T base P0) (o : Ordered n key T base P0 lt) (hs : ∀ q, (pick P key q).Pairwise lt)
    {x y a c : Nat} (hxy : x < y) (hy : y < n) (ex : r x = (a : Int)) (ey : r y = (c : Int)) : lt a c := by
  have hrev : ∀ {q u}, u < (pick base key q).length → (pick base key q).reverse.getD u 0 ∈ base ∧ key ((pick base key q).reverse.getD u 0) = q := fun {q u} hu => by
    have := getN_mem (l := (pick base key q).reverse) (i := u) (by rw [List.length_reverse]; exact hu)
    rw [List.mem_reverse] at this
    exact pick_mem.1 this
  obtain ⟨q, t, _, ht, e1, h1⟩ := h.lay.cases b.hK (show x < n by omega)
  obtain ⟨q', t', _, ht', e2, h2⟩ := h.lay.cases b.hK hy
  rw [ex] at h1
  rw [ey] at h2
  have ka : key a = q ∧ a < n := by
    rcases h1 with ⟨a1, a2⟩ | ⟨a1, _, a2⟩ | a1
    · have := pick_get a1
      rw [show (pick P key q).getD t 0 = a by omega] at this
      exact ⟨this.2, (h.kind _ this.1).1⟩
    · have := hrev a1
      rw [show (pick base key q).reverse.getD (cntK n key q - 1 - t) 0 = a by omega] at this
      exact ⟨this.2, (b.kind _ this.1).1⟩
    · omega
  have kc : key c = q' ∧ c < n := by
    rcases h2 with ⟨a1, a2⟩ | ⟨a1, _, a2⟩ | a1
    · have := pick_get a1
      rw [show (pick P key q').getD t' 0 = c by omega] at this
      exact ⟨this.2, (h.kind _ this.1).1⟩
    · have := hrev a1
      rw [show (pick base key q').reverse.getD (cntK n key q' - 1 - t') 0 = c by omega] at this
      exact ⟨this.2, (b.kind _ this.1).1⟩
    · omega
  rcases Nat.lt_trichotomy q q' with hq | hq | hq
  · exact o.o1 a c ka.2 kc.2 (by omega)
  · subst hq
    rcases h1 with ⟨a1, a2⟩ | ⟨a1, a3, a2⟩ | a1
    · have m1 := pick_get a1
      have e3 : (pick P key q).getD t 0 = a := by omega
      rw [e3] at m1
      rcases h2 with ⟨b1, b2⟩ | ⟨b1, _, b2⟩ | b1
      · have := pairN_at (hs q) (show t < t' by omega) b1
        rw [e3, show (pick P key q).getD t' 0 = c by omega] at this
        exact this
      · have m2 := hrev b1
        rw [show (pick base key q).reverse.getD (cntK n key q - 1 - t') 0 = c by omega] at m2
        exact o.o2 a c ka.2 kc.2 (by omega) (h.kind _ m1.1).2 (b.kind _ m2.1).2
      · omega
    · rcases h2 with ⟨b1, b2⟩ | ⟨b1, _, b2⟩ | b1
      · omega
      · rw [rev_get _ a1] at a2
        rw [rev_get _ b1] at b2
        have := pairN_at (o.old q) (i := (pick base key q).length - 1 - (cntK n key q - 1 - t)) (j := (pick base key q).length - 1 - (cntK n key q - 1 - t')) (by omega) (by omega)
        rw [show (pick base key q).getD ((pick base key q).length - 1 - (cntK n key q - 1 - t)) 0 = a by omega, show (pick base key q).getD ((pick base key q).length - 1 - (cntK n key q - 1 - t')) 0 = c by omega] at this
        exact this
      · omega
    · omega
  · have := offK_mono n key (show q' + 1 ≤ q from hq)
    rw [offK_succ] at this
    omega

/-- One more keeps the order. -/
theorem Scan.sorted {n K : Nat} {key : Nat → Nat} {T : Nat → Bool} {base P0 P : List Nat} {i p : Nat} {r : Nat → Int} {lt : Nat → Nat → Prop} (h : Scan n key T base P0 i P r) (b : Based n K key T base P0) (o : Ordered n key T base P0 lt) (hs : ∀ q, (pick P key q).Pairwise lt)
    (hi : i < n) (hr : r i = ((p + 1 : Nat) : Int)) (hT : T p = true) : ∀ q, (pick (P ++ [p]) key q).Pairwise lt := by
  intro q
  obtain ⟨g1, _⟩ := h.room b hi hr hT
  by_cases e : key p = q
  · subst e
    rw [pick_snoc_same rfl, List.pairwise_append]
    refine ⟨hs _, List.pairwise_singleton _ _, fun a ha c hc => ?_⟩
    simp only [List.mem_singleton] at hc
    subst hc
    obtain ⟨h1, h2⟩ := pick_mem.1 ha
    rcases h.src a h1 with h3 | ⟨x, h3, h4⟩
    · exact o.o4 a c h3 g1 hT h2
    · have h5 := h.slots b o hs h3 hi h4 hr
      have h6 : a + 1 < n := by
        rcases h.val b (show x < n by omega) with h7 | ⟨p', h7, h8⟩
        · omega
        · omega
      exact o.o3 a c h6 g1 (h.kind a h1).2 hT h2 h5
  · rw [pick_snoc_other e]
    exact hs q

/-- The keys the other way round. -/
def keyM (K : Nat) (key : Nat → Nat) (p : Nat) : Nat := K - 1 - key p
theorem pick_mirror {K n : Nat} {key : Nat → Nat} (hK : ∀ p, p < n → key p < K) {P : List Nat} (hP : ∀ p ∈ P, p < n) {q : Nat} (hq : q < K) : pick P (keyM K key) (K - 1 - q) = pick P key q := by
  unfold pick keyM
  refine List.filter_congr fun p hp => ?_
  have := hK p (hP p hp)
  rw [Bool.eq_iff_iff]
  simp only [beq_iff_eq]
  omega
theorem pick_mirror_of {K n : Nat} {key : Nat → Nat} (hK : ∀ p, p < n → key p < K) {P : List Nat} (hP : ∀ p ∈ P, p < n) {q : Nat} (h : 0 < (pick P (keyM K key) q).length) : ∃ q', q' < K ∧ q = K - 1 - q' := by
  have := pick_get h
  have h2 := hK _ (hP _ this.1)
  exact ⟨_, h2, this.2.symm⟩
theorem cntK_mirror {K n : Nat} {key : Nat → Nat} (hK : ∀ p, p < n → key p < K) {q : Nat} (hq : q < K) : cntK n (keyM K key) (K - 1 - q) = cntK n key q := by
  unfold cntK
  rw [pick_mirror hK (fun p hp => List.mem_range.1 hp) hq]
theorem offK_count (n : Nat) (key : Nat → Nat) (q : Nat) : offK n key q = ((List.range n).filter fun p => decide (key p < q)).length := (csort_perm_lt (List.range n) key q).length_eq
theorem offK_mirror {K n : Nat} {key : Nat → Nat} (hK : ∀ p, p < n → key p < K) {q : Nat} (hq : q ≤ K) : offK n (keyM K key) (K - q) + offK n key q = n := by
  rw [offK_count, offK_count]
  have h := (List.filter_append_perm (fun p => decide (key p < q)) (List.range n)).length_eq
  rw [List.length_append, List.length_range] at h
  have e : ((List.range n).filter fun p => decide (keyM K key p < K - q)) = (List.range n).filter fun p => !decide (key p < q) := by
    refine List.filter_congr fun p hp => ?_
    have := hK p (List.mem_range.1 hp)
    unfold keyM
    rw [Bool.eq_iff_iff]
    simp only [Bool.not_eq_true', decide_eq_true_eq, decide_eq_false_iff_not]
    omega
  rw [e]
  omega
theorem keyM_lt {K n : Nat} {key : Nat → Nat} (hK : ∀ p, p < n → key p < K) : ∀ p, p < n → keyM K key p < K := fun p hp => by
  have := hK p hp
  unfold keyM
  omega

/-- The same, from the other end. -/
theorem Lay.mirror {n K : Nat} {key : Nat → Nat} {base P : List Nat} {r r' : Nat → Int} (h : Lay n key base P r) (hK : ∀ p, p < n → key p < K) (hPn : ∀ p ∈ P, p < n) (hBn : ∀ p ∈ base, p < n) (hc : ∀ q, (pick P key q).length + (pick base key q).length ≤ cntK n key q)
    (hr : ∀ x, x < n → r' x = r (n - 1 - x)) : Lay n (keyM K key) P.reverse base.reverse r' := by
  have hPr : ∀ p ∈ P.reverse, p < n := fun p hp => hPn p (List.mem_reverse.1 hp)
  have hBr : ∀ p ∈ base.reverse, p < n := fun p hp => hBn p (List.mem_reverse.1 hp)
  refine ⟨fun q' t ht => ?_, fun q' u hu => ?_, fun q' t ht ht1 ht2 => ?_⟩
  · obtain ⟨q, hq, rfl⟩ := pick_mirror_of hK hBr (show 0 < (pick base.reverse (keyM K key) q').length by omega)
    rw [pick_mirror hK hBr hq, pick_rev] at ht ⊢
    rw [List.length_reverse] at ht
    have h1 := offK_mirror hK (show q + 1 ≤ K from hq)
    rw [show K - (q + 1) = K - 1 - q by omega] at h1
    have h2 := hc q
    have h3 := offK_succ n key q
    rw [hr _ (by omega), ← h.old q t ht]
    congr 1
    omega
  · obtain ⟨q, hq, rfl⟩ := pick_mirror_of hK hPr (show 0 < (pick P.reverse (keyM K key) q').length by omega)
    rw [pick_mirror hK hPr hq, pick_rev] at hu ⊢
    rw [List.length_reverse] at hu
    rw [List.reverse_reverse]
    have h1 := offK_mirror hK (show q ≤ K by omega)
    have h2 := hc q
    have h4 := offK_lt hK hq (show u < cntK n key q by omega)
    rw [show K - 1 - q + 1 = K - q by omega, hr _ (by omega), ← h.put q u hu]
    congr 1
    omega
  · obtain ⟨q, hq, rfl⟩ := pick_mirror_of hK (fun p hp => List.mem_range.1 hp) (show 0 < (pick (List.range n) (keyM K key) q').length by unfold cntK at ht; omega)
    rw [cntK_mirror hK hq] at ht ht2
    rw [pick_mirror hK hBr hq, pick_rev, List.length_reverse] at ht1
    rw [pick_mirror hK hPr hq, pick_rev, List.length_reverse] at ht2
    have h1 := offK_mirror hK (show q + 1 ≤ K from hq)
    rw [show K - (q + 1) = K - 1 - q by omega] at h1
    have h3 := offK_succ n key q
    have h4 := offK_lt hK hq ht
    rw [hr _ (by omega), ← h.none q (cntK n key q - 1 - t) (by omega) (by omega) (by omega)]
    congr 1
    omega
/-- All in, key by key. -/
theorem Lay.full {n K : Nat} {key : Nat → Nat} {base P : List Nat} {r : Nat → Int} (h : Lay n key base P r) (hK : ∀ p, p < n → key p < K) (hp : (P ++ base).Perm (List.range n)) {row : List Int} (hl : row.length = n) (hr : ∀ x, x < n → row.getD x 0 = r x) : row = natL (csort K (P ++ base) key) := by
  have hlen : (csort K (P ++ base) key).length = n := by
    have := (csort_perm (K := K) (ps := P ++ base) (key := key) fun p hq => hK p (List.mem_range.1 (hp.mem_iff.1 hq))).length_eq
    rw [this, hp.length_eq, List.length_range]
  have hcnt : ∀ q, cntK n key q = (pick P key q).length + (pick base key q).length := fun q => by
    rw [← List.length_append, ← pick_app]
    exact ((hp.filter _).length_eq).symm
  have hoff : ∀ q, offs (P ++ base) key q = offK n key q := fun q => by
    rw [offK_count]
    unfold offs
    rw [(csort_perm_lt (P ++ base) key q).length_eq]
    exact (hp.filter _).length_eq
  refine getD_ext (by rw [hl, natL_len, hlen]) fun x hx => ?_
  rw [hl] at hx
  obtain ⟨q, t, h1, h2, h3, h4⟩ := h.cases hK hx
  rw [hr x hx, natL_at, h3, ← hoff, csort_at (P ++ base) key h1 (by rw [pick_app, List.length_append]; have := hcnt q; omega), hoff, ← h3, pick_app]
  have hc := hcnt q
  rcases h4 with ⟨a1, a2⟩ | ⟨a1, a3, a2⟩ | a1
  · rw [a2]
    simp only [List.getD_eq_getElem?_getD]
    rw [List.getElem?_append_left a1]
  · rw [a2, rev_get _ a1]
    simp only [List.getD_eq_getElem?_getD]
    rw [List.getElem?_append_right a3]
    congr 3
    omega
  · exfalso
    by_cases hP : t < (pick P key q).length
    · have := h.put q t hP
      rw [← h3, a1] at this
      omega
    · have := h.old q (cntK n key q - 1 - t) (by omega)
      rw [offK_succ, show offK n key q + cntK n key q - 1 - (cntK n key q - 1 - t) = x by omega, a1] at this
      omega
end Go.Proofs.YtlmbdafilboblaaGreat

/- The three steps of induced sorting, as rows. Plain numbers, no conditions. -/
namespace Go.Proofs.YtlmbdafilboblaaGreat
set_option linter.unusedVariables false
set_option linter.unusedSimpArgs false

/-- A place goes to the beginning, or to the end, of what its key's row has left. -/
def putB (s : List Int) (st : List Int × List Nat) (p : Nat) : List Int × List Nat := (st.1.set (st.2.getD (keyN s p) 0) (p : Int), st.2.set (keyN s p) (st.2.getD (keyN s p) 0 + 1))
def putE (s : List Int) (st : List Int × List Nat) (p : Nat) : List Int × List Nat := (st.1.set (st.2.getD (keyN s p) 0 - 1) (p : Int), st.2.set (keyN s p) (st.2.getD (keyN s p) 0 - 1))
def begN (s : List Int) (K : Nat) : List Nat := (List.range K).map (offK s.length (keyN s))
def endN (s : List Int) (K : Nat) : List Nat := (List.range K).map fun q => offK s.length (keyN s) (q + 1)
def stepB (s : List Int) (st : List Int × List Nat) (j : Int) : List Int × List Nat := if 0 < j ∧ smB s (j - 1).toNat = false then putB s st (j - 1).toNat else st
def stepE (s : List Int) (st : List Int × List Nat) (j : Int) : List Int × List Nat := if 0 < j ∧ smB s (j - 1).toNat = true then putE s st (j - 1).toNat else st
/-- The first step, m of first. -/
def st1 (s : List Int) (K : Nat) (F : List Nat) : Nat → List Int × List Nat
  | 0 => (List.replicate s.length (-1), endN s K)
  | m + 1 => putE s (st1 s K F m) (F.getD (F.length - 1 - m) 0)
/-- The second step: n first, then i of the row. -/
def st2 (s : List Int) (K : Nat) (F : List Nat) : Nat → List Int × List Nat
  | 0 => ((st1 s K F F.length).1, begN s K)
  | i + 1 => stepB s (st2 s K F i) (if i = 0 then (s.length : Int) else (st2 s K F i).1.getD (i - 1) 0)
def outI (s : List Int) (row : List Int) : List Int := row.map fun j => if 0 ≤ j ∧ smB s j.toNat = true then -1 else j
/-- The third step, m of the row from its end. -/
def st3 (s : List Int) (K : Nat) (F : List Nat) : Nat → List Int × List Nat
  | 0 => (outI s (st2 s K F (s.length + 1)).1, endN s K)
  | m + 1 => stepE s (st3 s K F m) ((st3 s K F m).1.getD (s.length - 1 - m) 0)
def indI (s : List Int) (K : Nat) (F : List Nat) : List Int := (st3 s K F s.length).1

theorem outI_len (s row : List Int) : (outI s row).length = row.length := List.length_map _
theorem outI_at (s row : List Int) {i : Nat} (h : i < row.length) : (outI s row).getD i 0 = if 0 ≤ row.getD i 0 ∧ smB s (row.getD i 0).toNat = true then -1 else row.getD i 0 := by simp [outI, List.getD, h]

/-- The numbers fit their keys. -/
structure Fits (s : List Int) (K : Nat) : Prop where
  lt : ∀ p, p < s.length → keyN s p < K
  num : ∀ p, p < s.length → s.getD p 0 = (keyN s p : Int)
theorem Fits.of {s : List Int} {k : Int} (h : fitB s k = true) : Fits s k.toNat :=
  ⟨fun p hp => keyN_lt h hp, fun p hp => by have := goodI_at (fitB_iff.1 h).2.2 hp; unfold keyN; omega⟩
/-- The first places, in some order. -/
structure Firsts (s : List Int) (F : List Nat) : Prop where
  perm : F.Perm (firstN s)
theorem Firsts.kind {s : List Int} {F : List Nat} (h : Firsts s F) : ∀ p ∈ F, p < s.length ∧ fsB s p = true := fun p hp => firN_mem.1 (h.perm.mem_iff.1 hp)
theorem Firsts.nodup {s : List Int} {F : List Nat} (h : Firsts s F) : F.Nodup := h.perm.nodup_iff.2 ((firN_sorted s s.length).imp fun h => Nat.ne_of_lt h)
theorem fsB_iff {s : List Int} {p : Nat} : fsB s p = true ↔ 1 ≤ p ∧ smB s p = true ∧ smB s (p - 1) = false := by simp [fsB]

theorem revI_at (l : List Int) {x : Nat} (h : x < l.length) : l.reverse.getD x 0 = l.getD (l.length - 1 - x) 0 := by
  simp only [List.getD_eq_getElem?_getD]
  rw [List.getElem?_reverse h]
theorem revI_out (l : List Int) {x : Nat} (h : l.length ≤ x) : l.reverse.getD x 0 = 0 := by
  simp only [List.getD_eq_getElem?_getD]
  rw [List.getElem?_eq_none (by rw [List.length_reverse]; exact h)]
  rfl

/-- A state whose rows are laid from their ends. -/
structure EndS (s : List Int) (K : Nat) (P : List Nat) (st : List Int × List Nat) : Prop where
  rl : st.1.length = s.length
  pl : st.2.length = K
  ptr : ∀ c, c < K → st.2.getD c 0 + (pick P (keyN s) c).length = offK s.length (keyN s) (c + 1)
structure BegS (s : List Int) (K : Nat) (P : List Nat) (st : List Int × List Nat) : Prop where
  rl : st.1.length = s.length
  pl : st.2.length = K
  ptr : ∀ c, c < K → st.2.getD c 0 = offK s.length (keyN s) c + (pick P (keyN s) c).length

theorem EndS.put {s : List Int} {K p : Nat} {P : List Nat} {st : List Int × List Nat} (h : EndS s K P st) (f : Fits s K) (hP : ∀ p ∈ P, p < s.length) (hp : p < s.length) (hc : (pick P (keyN s) (keyN s p)).length < cntK s.length (keyN s) (keyN s p)) :
    EndS s K (P ++ [p]) (putE s st p) ∧ 1 ≤ st.2.getD (keyN s p) 0 ∧ st.2.getD (keyN s p) 0 ≤ s.length ∧
    (putE s st p).1.reverse.getD (offK s.length (keyM K (keyN s)) (keyM K (keyN s) p) + (pick P (keyM K (keyN s)) (keyM K (keyN s) p)).length) 0 = (p : Int) ∧
    ∀ x, x ≠ offK s.length (keyM K (keyN s)) (keyM K (keyN s) p) + (pick P (keyM K (keyN s)) (keyM K (keyN s) p)).length → (putE s st p).1.reverse.getD x 0 = st.1.reverse.getD x 0 := by
  have hk := f.lt p hp
  have h1 := h.ptr _ hk
  have h2 := offK_succ s.length (keyN s) (keyN s p)
  have h3 := offK_mirror f.lt (show keyN s p + 1 ≤ K from hk)
  have e1 : pick P (keyM K (keyN s)) (keyM K (keyN s) p) = pick P (keyN s) (keyN s p) := pick_mirror f.lt hP hk
  have e2 : keyM K (keyN s) p = K - (keyN s p + 1) := by unfold keyM; omega
  rw [e1, e2]
  have hl : (putE s st p).1.length = s.length := by unfold putE; simp only [List.length_set]; exact h.rl
  refine ⟨⟨hl, by unfold putE; simp only [List.length_set]; exact h.pl, fun c hc2 => ?_⟩, by omega, by omega, ?_, fun x hx => ?_⟩
  · unfold putE
    simp only
    by_cases e : keyN s p = c
    · subst e
      rw [set_same (by rw [h.pl]; exact hk), pick_snoc_same rfl, List.length_append, List.length_singleton]
      omega
    · rw [set_other e, pick_snoc_other e]
      exact h.ptr c hc2
  · rw [revI_at _ (by rw [hl]; omega), hl]
    unfold putE
    simp only
    rw [show s.length - 1 - (offK s.length (keyM K (keyN s)) (K - (keyN s p + 1)) + (pick P (keyN s) (keyN s p)).length) = st.2.getD (keyN s p) 0 - 1 by omega, setI_same (by rw [h.rl]; omega)]
  · by_cases hxn : x < s.length
    · rw [revI_at _ (by rw [hl]; exact hxn), revI_at _ (by rw [h.rl]; exact hxn), hl, h.rl]
      unfold putE
      simp only
      rw [setI_other (by omega)]
    · rw [revI_out _ (by rw [hl]; omega), revI_out _ (by rw [h.rl]; omega)]

theorem BegS.put {s : List Int} {K p : Nat} {P : List Nat} {st : List Int × List Nat} (h : BegS s K P st) (f : Fits s K) (hp : p < s.length) (hc : (pick P (keyN s) (keyN s p)).length < cntK s.length (keyN s) (keyN s p)) :
    BegS s K (P ++ [p]) (putB s st p) ∧ st.2.getD (keyN s p) 0 < s.length ∧ (putB s st p).1.getD (offK s.length (keyN s) (keyN s p) + (pick P (keyN s) (keyN s p)).length) 0 = (p : Int) ∧
    ∀ x, x ≠ offK s.length (keyN s) (keyN s p) + (pick P (keyN s) (keyN s p)).length → (putB s st p).1.getD x 0 = st.1.getD x 0 := by
  have hk := f.lt p hp
  have h1 := h.ptr _ hk
  have h2 := offK_lt f.lt hk hc
  refine ⟨⟨by unfold putB; simp only [List.length_set]; exact h.rl, by unfold putB; simp only [List.length_set]; exact h.pl, fun c hc2 => ?_⟩, by omega, ?_, fun x hx => ?_⟩
  · unfold putB
    simp only
    by_cases e : keyN s p = c
    · subst e
      rw [set_same (by rw [h.pl]; exact hk), pick_snoc_same rfl, List.length_append, List.length_singleton]
      omega
    · rw [set_other e, pick_snoc_other e]
      exact h.ptr c hc2
  · unfold putB
    simp only
    rw [← h1, setI_same (by rw [h.rl]; omega)]
  · unfold putB
    simp only
    rw [setI_other (by omega)]

/-- The first step. -/
theorem st1_all {s : List Int} {K : Nat} {F : List Nat} (f : Fits s K) (hF : F.Nodup) (hFn : ∀ p ∈ F, p < s.length) : ∀ m, m ≤ F.length → EndS s K (F.reverse.take m) (st1 s K F m) ∧ Lay s.length (keyM K (keyN s)) [] (F.reverse.take m) (fun x => (st1 s K F m).1.reverse.getD x 0) := by
  have hRn : ∀ m, ∀ p ∈ F.reverse.take m, p < s.length := fun m p hp => hFn p (List.mem_reverse.1 (List.mem_of_mem_take hp))
  have hRd : ∀ m, (F.reverse.take m).Nodup := fun m => List.Pairwise.sublist (List.take_sublist _ _) (List.pairwise_reverse.2 (hF.imp fun h => Ne.symm h))
  intro m
  induction m with
  | zero =>
    intro _
    have hl : (st1 s K F 0).1.length = s.length := by simp [st1]
    refine ⟨⟨hl, by simp [st1, endN], fun c hc => ?_⟩, Lay.empty _ _ (fun x hx => ?_) fun q t ht => ?_⟩
    · simp only [st1, endN, List.take_zero]
      rw [mapI_at _ _ hc]
      simp [pick]
    · rw [revI_at _ (by rw [hl]; exact hx), hl]
      simp only [st1, List.getD_eq_getElem?_getD]
      rw [List.getElem?_replicate, if_pos (by omega)]
      rfl
    · obtain ⟨q', hq', rfl⟩ := pick_mirror_of f.lt (fun p hp => List.mem_range.1 hp) (show 0 < (pick (List.range s.length) (keyM K (keyN s)) q).length by unfold cntK at ht; omega)
      exact offK_lt (K := K) (keyM_lt f.lt) (by omega) ht
  | succ m ih =>
    intro hm
    obtain ⟨h1, h2⟩ := ih (by omega)
    have hlr : m < F.reverse.length := by rw [List.length_reverse]; omega
    have e : F.reverse.take (m + 1) = F.reverse.take m ++ [F.getD (F.length - 1 - m) 0] := by rw [takeN_succ hlr, rev_get _ (by omega)]
    have hp : F.getD (F.length - 1 - m) 0 < s.length := hFn _ (getN_mem (by omega))
    have hc : ∀ q, (pick (F.reverse.take (m + 1)) (keyN s) q).length ≤ cntK s.length (keyN s) q := fun q => by
      have := cnt_sub (key := keyN s) (hRd (m + 1)) List.nodup_nil (hRn (m + 1)) (fun _ h => by cases h) (fun _ _ h => by cases h) q
      omega
    have hcM : ∀ q, (pick (F.reverse.take (m + 1)) (keyM K (keyN s)) q).length ≤ cntK s.length (keyM K (keyN s)) q := fun q => by
      have := cnt_sub (key := keyM K (keyN s)) (hRd (m + 1)) List.nodup_nil (hRn (m + 1)) (fun _ h => by cases h) (fun _ _ h => by cases h) q
      omega
    rw [e] at hc hcM ⊢
    have hcp := hc (keyN s (F.getD (F.length - 1 - m) 0))
    rw [pick_snoc_same rfl, List.length_append, List.length_singleton] at hcp
    obtain ⟨g1, g2, g3, g4, g5⟩ := h1.put f (hRn m) hp (by omega)
    exact ⟨g1, h2.snoc (K := K) (fun q => by simpa [pick] using hcM q) g4 g5⟩

theorem st1_ok {s : List Int} {K : Nat} {F : List Nat} (f : Fits s K) (hF : Firsts s F) {m : Nat} (hm : m < F.length) : (st1 s K F m).1.length = s.length ∧ (st1 s K F m).2.length = K ∧ F.getD (F.length - 1 - m) 0 < s.length ∧ keyN s (F.getD (F.length - 1 - m) 0) < K ∧
    1 ≤ (st1 s K F m).2.getD (keyN s (F.getD (F.length - 1 - m) 0)) 0 ∧ (st1 s K F m).2.getD (keyN s (F.getD (F.length - 1 - m) 0)) 0 ≤ s.length := by
  have hn := hF.nodup
  have hFn : ∀ p ∈ F, p < s.length := fun p hp => (hF.kind p hp).1
  obtain ⟨h1, _⟩ := st1_all f hn hFn m (by omega)
  have hp : F.getD (F.length - 1 - m) 0 < s.length := hFn _ (getN_mem (by omega))
  have hlr : m < F.reverse.length := by rw [List.length_reverse]; omega
  have hc := cnt_sub (key := keyN s) (P := F.reverse.take (m + 1)) (List.Pairwise.sublist (List.take_sublist _ _) (List.pairwise_reverse.2 (hn.imp fun h => Ne.symm h))) List.nodup_nil (fun p hp => hFn p (List.mem_reverse.1 (List.mem_of_mem_take hp))) (fun _ h => by cases h) (fun _ _ h => by cases h) (keyN s (F.getD (F.length - 1 - m) 0))
  rw [takeN_succ hlr, rev_get _ (by omega), pick_snoc_same rfl, List.length_append, List.length_singleton] at hc
  obtain ⟨g1, g2, g3, _⟩ := h1.put f (fun p hp => hFn p (List.mem_reverse.1 (List.mem_of_mem_take hp))) hp (by omega)
  exact ⟨h1.rl, h1.pl, hp, f.lt _ hp, g2, g3⟩

/-- What the second step stands on. -/
def lgB (s : List Int) (p : Nat) : Bool := !smB s p
theorem based2 {s : List Int} {K : Nat} {F : List Nat} (f : Fits s K) (hF : Firsts s F) : Based s.length K (keyN s) (lgB s) F [s.length - 1] := by
  refine ⟨f.lt, hF.nodup, fun p hp => ?_, fun p hp => ?_, fun p hp hT => ?_⟩
  · obtain ⟨h1, h2⟩ := hF.kind p hp
    exact ⟨h1, by unfold lgB; rw [(fsB_iff.1 h2).2.1]; rfl⟩
  · simp only [List.mem_singleton] at hp
    omega
  · unfold lgB at *
    have h1 := f.num p (by omega)
    have h2 := f.num (p + 1) hp
    have hT' : smB s p = false := by simpa using hT
    constructor
    · apply Nat.le_of_not_lt
      intro hlt
      rw [smB_lt hp (by omega)] at hT'
      cases hT'
    · intro e
      rw [← smB_eq hp (by omega), hT']
      rfl
theorem based3 {s : List Int} {K : Nat} {P : List Nat} (f : Fits s K) (hn : P.Nodup) (hk : ∀ p ∈ P, p < s.length ∧ lgB s p = true) : Based s.length K (keyM K (keyN s)) (smB s) P.reverse [] := by
  refine ⟨keyM_lt f.lt, List.pairwise_reverse.2 (hn.imp fun h => Ne.symm h), fun p hp => ?_, (fun p hp => by cases hp), fun p hp hT => ?_⟩
  · obtain ⟨h1, h2⟩ := hk p (List.mem_reverse.1 hp)
    exact ⟨h1, by simpa [lgB] using h2⟩
  · have h1 := f.num p (by omega)
    have h2 := f.num (p + 1) hp
    have h3 := f.lt p (by omega)
    have h4 := f.lt (p + 1) hp
    unfold keyM
    constructor
    · have : keyN s p ≤ keyN s (p + 1) := by
        apply Nat.le_of_not_lt
        intro hlt
        rw [smB_gt hp (by omega)] at hT
        cases hT
      omega
    · intro e
      rw [← smB_eq hp (by omega), hT]

/-- A state of the second step, of the third one. -/
structure Two (s : List Int) (K : Nat) (F : List Nat) (i : Nat) (P : List Nat) (st : List Int × List Nat) : Prop where
  beg : BegS s K P st
  scan : Scan s.length (keyN s) (lgB s) F [s.length - 1] i P (fun x => st.1.getD x 0)
  ord : ∀ lt, Ordered s.length (keyN s) (lgB s) F [s.length - 1] lt → ∀ q, (pick P (keyN s) q).Pairwise lt
structure Three (s : List Int) (K : Nat) (B : List Nat) (i : Nat) (P : List Nat) (st : List Int × List Nat) : Prop where
  fin : EndS s K P st
  scan : Scan s.length (keyM K (keyN s)) (smB s) B [] i P (fun x => st.1.reverse.getD x 0)
  ord : ∀ lt, Ordered s.length (keyM K (keyN s)) (smB s) B [] lt → ∀ q, (pick P (keyM K (keyN s)) q).Pairwise lt

theorem Two.val {s : List Int} {K : Nat} {F P : List Nat} {i x : Nat} {st : List Int × List Nat} (h : Two s K F i P st) (b : Based s.length K (keyN s) (lgB s) F [s.length - 1]) (hx : x < s.length) : -1 ≤ st.1.getD x 0 ∧ st.1.getD x 0 < s.length := by
  rcases h.scan.val b hx with h1 | ⟨p, h1, h2⟩
  · omega
  · omega
theorem Two.ok {s : List Int} {K : Nat} {F P : List Nat} {i : Nat} {st : List Int × List Nat} (h : Two s K F i P st) (f : Fits s K) (b : Based s.length K (keyN s) (lgB s) F [s.length - 1]) (hi : i < s.length) {p : Nat} (hp : st.1.getD i 0 = ((p + 1 : Nat) : Int)) (hT : smB s p = false) :
    p < s.length ∧ keyN s p < K ∧ st.2.getD (keyN s p) 0 < s.length ∧ Two s K F (i + 1) (P ++ [p]) (putB s st p) := by
  have hT' : lgB s p = true := by unfold lgB; rw [hT]; rfl
  obtain ⟨g1, g2, g3, g4, g5⟩ := h.scan.room b hi hp hT'
  have hc := g3 (keyN s p)
  rw [pick_snoc_same rfl, List.length_append, List.length_singleton] at hc
  obtain ⟨k1, k2, k3, k4⟩ := h.beg.put f (show p < s.length by omega) (by omega)
  exact ⟨by omega, f.lt p (by omega), k2, k1, h.scan.next b hi hp hT' k3 k4, fun lt o => h.scan.sorted b o (h.ord lt o) hi hp hT'⟩
theorem Two.next {s : List Int} {K : Nat} {F P : List Nat} {i : Nat} {st : List Int × List Nat} (h : Two s K F i P st) (f : Fits s K) (b : Based s.length K (keyN s) (lgB s) F [s.length - 1]) (hi : i < s.length) : ∃ P', Two s K F (i + 1) P' (stepB s st (st.1.getD i 0)) := by
  unfold stepB
  by_cases hc : 0 < st.1.getD i 0 ∧ smB s (st.1.getD i 0 - 1).toNat = false
  · rw [if_pos hc]
    obtain ⟨p, hp⟩ : ∃ p : Nat, st.1.getD i 0 = ((p + 1 : Nat) : Int) := ⟨(st.1.getD i 0 - 1).toNat, by omega⟩
    have e : (st.1.getD i 0 - 1).toNat = p := by omega
    rw [e] at hc ⊢
    exact ⟨_, (h.ok f b hi hp hc.2).2.2.2⟩
  · rw [if_neg hc]
    refine ⟨P, h.beg, h.scan.skip fun p hp => ?_, h.ord⟩
    cases hs : smB s p
    · exfalso
      apply hc
      rw [hp]
      exact ⟨by omega, by rw [show (((p + 1 : Nat) : Int) - 1).toNat = p by omega]; exact hs⟩
    · unfold lgB; rw [hs]; rfl

theorem Three.val {s : List Int} {K : Nat} {B P : List Nat} {i x : Nat} {st : List Int × List Nat} (h : Three s K B i P st) (b : Based s.length K (keyM K (keyN s)) (smB s) B []) (hx : x < s.length) : -1 ≤ st.1.getD x 0 ∧ st.1.getD x 0 < s.length := by
  have hl := h.fin.rl
  have e : st.1.reverse.getD (s.length - 1 - x) 0 = st.1.getD x 0 := by
    rw [revI_at _ (by omega), hl]
    congr 1
    omega
  rcases h.scan.val b (show s.length - 1 - x < s.length by omega) with h1 | ⟨p, h1, h2⟩
  · omega
  · omega
theorem Three.ok {s : List Int} {K : Nat} {B P : List Nat} {i : Nat} {st : List Int × List Nat} (h : Three s K B i P st) (f : Fits s K) (b : Based s.length K (keyM K (keyN s)) (smB s) B []) (hi : i < s.length) {p : Nat} (hp : st.1.getD (s.length - 1 - i) 0 = ((p + 1 : Nat) : Int)) (hT : smB s p = true) :
    p < s.length ∧ keyN s p < K ∧ 1 ≤ st.2.getD (keyN s p) 0 ∧ st.2.getD (keyN s p) 0 ≤ s.length ∧ Three s K B (i + 1) (P ++ [p]) (putE s st p) := by
  have hl := h.fin.rl
  have hp' : st.1.reverse.getD i 0 = ((p + 1 : Nat) : Int) := by rw [revI_at _ (by omega), hl]; exact hp
  obtain ⟨g1, g2, g3, g4, g5⟩ := h.scan.room b hi hp' hT
  have hk := f.lt p (by omega)
  have hPn : ∀ p ∈ P, p < s.length := fun p hp => (h.scan.kind p hp).1
  have hc := g3 (keyM K (keyN s) p)
  have e1 : pick P (keyM K (keyN s)) (keyM K (keyN s) p) = pick P (keyN s) (keyN s p) := pick_mirror f.lt hPn hk
  have e2 : cntK s.length (keyM K (keyN s)) (keyM K (keyN s) p) = cntK s.length (keyN s) (keyN s p) := cntK_mirror f.lt hk
  rw [pick_snoc_same rfl, List.length_append, List.length_singleton, e1, e2] at hc
  obtain ⟨k1, k2, k3, k4, k5⟩ := h.fin.put f hPn (show p < s.length by omega) (by omega)
  exact ⟨by omega, hk, k2, k3, k1, h.scan.next b hi hp' hT k4 k5, fun lt o => h.scan.sorted b o (h.ord lt o) hi hp' hT⟩
theorem Three.next {s : List Int} {K : Nat} {B P : List Nat} {i : Nat} {st : List Int × List Nat} (h : Three s K B i P st) (f : Fits s K) (b : Based s.length K (keyM K (keyN s)) (smB s) B []) (hi : i < s.length) : ∃ P', Three s K B (i + 1) P' (stepE s st (st.1.getD (s.length - 1 - i) 0)) := by
  have hl := h.fin.rl
  unfold stepE
  by_cases hc : 0 < st.1.getD (s.length - 1 - i) 0 ∧ smB s (st.1.getD (s.length - 1 - i) 0 - 1).toNat = true
  · rw [if_pos hc]
    obtain ⟨p, hp⟩ : ∃ p : Nat, st.1.getD (s.length - 1 - i) 0 = ((p + 1 : Nat) : Int) := ⟨(st.1.getD (s.length - 1 - i) 0 - 1).toNat, by omega⟩
    have e : (st.1.getD (s.length - 1 - i) 0 - 1).toNat = p := by omega
    rw [e] at hc ⊢
    exact ⟨_, (h.ok f b hi hp hc.2).2.2.2.2⟩
  · rw [if_neg hc]
    refine ⟨P, h.fin, h.scan.skip fun p hp => ?_, h.ord⟩
    rw [revI_at _ (by omega), hl] at hp
    cases hs : smB s p
    · rfl
    · exfalso
      apply hc
      rw [hp]
      exact ⟨by omega, by rw [show (((p + 1 : Nat) : Int) - 1).toNat = p by omega]; exact hs⟩
end Go.Proofs.YtlmbdafilboblaaGreat

/- Places in order of their endings: there is just one such row. Plain numbers, no conditions. -/
namespace Go.Proofs.YtlmbdafilboblaaGreat
set_option linter.unusedVariables false
set_option linter.unusedSimpArgs false

/-- Endings in order. -/
def ltE (s : List Int) (a b : Nat) : Prop := cmpI (s.drop a) (s.drop b) < 0
theorem ltE_less {s : List Int} {a b : Nat} (ha : a < s.length) (hb : b < s.length) (h : s.getD a 0 < s.getD b 0) : ltE s a b := by
  unfold ltE
  rw [drop_getD ha, drop_getD hb, cmpI, if_pos h]
  decide
theorem ltE_same {s : List Int} {a b : Nat} (ha : a < s.length) (hb : b < s.length) (h : s.getD a 0 = s.getD b 0) : ltE s a b ↔ ltE s (a + 1) (b + 1) := by
  unfold ltE
  rw [drop_getD ha, drop_getD hb, cmpI, if_neg (by omega), if_neg (by omega)]
theorem ltE_end {s : List Int} {a b : Nat} (ha : s.length ≤ a) (hb : b < s.length) : ltE s a b := by
  unfold ltE
  rw [List.drop_of_length_le ha, drop_getD hb, cmpI]
  decide
theorem ltE_irrefl {s : List Int} {a : Nat} : ¬ ltE s a a := by
  unfold ltE
  rw [cmpI_self]
  omega
theorem ltE_trans {s : List Int} {a b c : Nat} (h1 : ltE s a b) (h2 : ltE s b c) : ltE s a c := by
  unfold ltE at *
  have h3 := cmpI_trans (s.drop a) (s.drop b) (s.drop c) (by omega) (by omega)
  by_cases e : cmpI (s.drop a) (s.drop c) = 0
  · have e2 := cmpI_zero e
    rw [← e2, cmpI_swap] at h2
    omega
  · omega
theorem ltE_total {s : List Int} {a b : Nat} (ha : a ≤ s.length) (hb : b ≤ s.length) (hne : a ≠ b) (h : ¬ ltE s a b) : ltE s b a := by
  unfold ltE at *
  rw [cmpI_swap]
  by_cases e : cmpI (s.drop a) (s.drop b) = 0
  · have e2 := congrArg List.length (cmpI_zero e)
    rw [List.length_drop, List.length_drop] at e2
    omega
  · omega
/-- Each place once, in order of endings. -/
def InOrd (s : List Int) (R : List Nat) : Prop := R.Perm (List.range s.length) ∧ R.Pairwise (ltE s)
theorem InOrd.eq {s : List Int} {R R' : List Nat} (h : InOrd s R) (h' : InOrd s R') : R = R' :=
  List.Perm.eq_of_pairwise (fun a b _ _ h3 h4 => absurd (ltE_trans h3 h4) ltE_irrefl) h.2 h'.2 (h.1.trans h'.1.symm)
theorem InOrd.len {s : List Int} {R : List Nat} (h : InOrd s R) : R.length = s.length := by rw [h.1.length_eq, List.length_range]
theorem InOrd.mem {s : List Int} {R : List Nat} (h : InOrd s R) {i : Nat} (hi : i < s.length) : R.getD i 0 < s.length := List.mem_range.1 (h.1.mem_iff.1 (getN_mem (by rw [h.len]; exact hi)))
/-- A place put into its place. -/
theorem ins_ord {s : List Int} {out : List Nat} {i j : Nat} (h : out.Pairwise (ltE s)) (hp : out.Perm (List.range i)) (hi : i < s.length) (hj : j ≤ out.length) (h1 : ∀ q, j ≤ q → q < out.length → ltE s i (out.getD q 0)) (h2 : j = 0 ∨ ¬ ltE s i (out.getD (j - 1) 0)) :
    (out.take j ++ [i] ++ out.drop j).Pairwise (ltE s) ∧ (out.take j ++ [i] ++ out.drop j).Perm (List.range (i + 1)) := by
  have ht : ∀ a ∈ out.take j, ltE s a i := fun a ha => by
    obtain ⟨q, hq, rfl⟩ := mem_getN ha
    rw [List.length_take] at hq
    have e : (out.take j).getD q 0 = out.getD q 0 := by
      simp only [List.getD_eq_getElem?_getD, List.getElem?_take]
      rw [if_pos (by omega)]
    rw [e]
    rcases h2 with h2 | h2
    · omega
    · have hm := List.mem_range.1 (hp.mem_iff.1 (getN_mem (l := out) (i := j - 1) (by omega)))
      have h3 := ltE_total (a := i) (by omega) (by omega) (by omega) h2
      by_cases e2 : q = j - 1
      · rw [e2]; exact h3
      · exact ltE_trans (pairN_at h (show q < j - 1 by omega) (by omega)) h3
  have hd : ∀ a ∈ out.drop j, ltE s i a := fun a ha => by
    obtain ⟨q, hq, rfl⟩ := mem_getN ha
    rw [List.length_drop] at hq
    have e : (out.drop j).getD q 0 = out.getD (j + q) 0 := by simp only [List.getD_eq_getElem?_getD, List.getElem?_drop]
    rw [e]
    exact h1 (j + q) (by omega) (by omega)
  constructor
  · rw [List.append_assoc, List.pairwise_append]
    refine ⟨h.sublist (List.take_sublist _ _), ?_, fun a ha b hb => ?_⟩
    · rw [List.singleton_append, List.pairwise_cons]
      exact ⟨hd, h.sublist (List.drop_sublist _ _)⟩
    · rcases List.mem_append.1 hb with hb | hb
      · rw [List.mem_singleton.1 hb]; exact ht a ha
      · exact ltE_trans (ht a ha) (hd b hb)
  · rw [List.range_succ]
    have e : out ++ [i] = out.take j ++ (out.drop j ++ [i]) := by rw [← List.append_assoc, List.take_append_drop]
    refine List.Perm.trans ?_ (hp.append_right [i])
    rw [e, List.append_assoc]
    exact List.Perm.append_left _ List.perm_append_comm
end Go.Proofs.YtlmbdafilboblaaGreat

/- Induced sorting as a whole: each place once; in order if the first places are. Plain numbers, no conditions. -/
namespace Go.Proofs.YtlmbdafilboblaaGreat
set_option linter.unusedVariables false
set_option linter.unusedSimpArgs false

theorem Lay.congr {n : Nat} {k1 k2 : Nat → Nat} {base P : List Nat} {r : Nat → Int} (h : Lay n k1 base P r) (hk : ∀ p, p < n → k1 p = k2 p) (hP : ∀ p ∈ P, p < n) (hB : ∀ p ∈ base, p < n) : Lay n k2 base P r := by
  have e : ∀ {L : List Nat}, (∀ p ∈ L, p < n) → ∀ q, pick L k1 q = pick L k2 q := fun hL q => List.filter_congr fun p hp => by rw [hk p (hL p hp)]
  have eo : ∀ q, offK n k1 q = offK n k2 q := fun q => by
    rw [offK_count, offK_count]
    congr 1
    exact List.filter_congr fun p hp => by rw [hk p (List.mem_range.1 hp)]
  have ec : ∀ q, cntK n k1 q = cntK n k2 q := fun q => by unfold cntK; rw [e fun p hp => List.mem_range.1 hp]
  refine ⟨fun q t ht => ?_, fun q u hu => ?_, fun q t h1 h2 h3 => ?_⟩
  · rw [← eo, ← e hP q]
    rw [← e hP q] at ht
    exact h.put q t ht
  · rw [← eo, ← e hB q]
    rw [← e hB q] at hu
    exact h.old q u hu
  · rw [← eo]
    rw [← ec] at h1 h3
    rw [← e hP q] at h2
    rw [← e hB q] at h3
    exact h.none q t h1 h2 h3
theorem keyM_two {K n : Nat} {key : Nat → Nat} (hK : ∀ p, p < n → key p < K) : ∀ p, p < n → keyM K (keyM K key) p = key p := fun p hp => by
  have := hK p hp
  unfold keyM
  omega

theorem lay1 {s : List Int} {K : Nat} {F : List Nat} (f : Fits s K) (hF : Firsts s F) : (st1 s K F F.length).1.length = s.length ∧ Lay s.length (keyN s) F [] (fun x => (st1 s K F F.length).1.getD x 0) := by
  have hFn : ∀ p ∈ F, p < s.length := fun p hp => (hF.kind p hp).1
  obtain ⟨h1, h2⟩ := st1_all f hF.nodup hFn F.length (Nat.le_refl _)
  have hl := h1.rl
  rw [show F.reverse.take F.length = F.reverse by rw [← List.length_reverse, List.take_length]] at h2
  refine ⟨hl, ?_⟩
  have hc := cnt_sub (key := keyM K (keyN s)) (P := F.reverse) (R := []) (List.pairwise_reverse.2 (hF.nodup.imp fun h => Ne.symm h)) List.nodup_nil (fun p hp => hFn p (List.mem_reverse.1 hp)) (fun _ h => by cases h) (fun _ _ h => by cases h)
  have h3 := h2.mirror (K := K) (r' := fun x => (st1 s K F F.length).1.getD x 0) (keyM_lt f.lt) (fun p hp => hFn p (List.mem_reverse.1 hp)) (fun _ h => by cases h) hc (fun x hx => by
    rw [revI_at _ (by omega), hl]
    congr 1
    omega)
  rw [List.reverse_reverse, List.reverse_nil] at h3
  exact h3.congr (keyM_two f.lt) (fun _ h => by cases h) hFn

theorem st2_one {s : List Int} {K : Nat} {F : List Nat} (hn : 0 < s.length) : st2 s K F 1 = putB s (st2 s K F 0) (s.length - 1) := by
  show stepB s _ (if 0 = 0 then (s.length : Int) else _) = _
  rw [if_pos rfl]
  unfold stepB
  rw [show ((s.length : Int) - 1).toNat = s.length - 1 by omega, if_pos ⟨by omega, smB_last (by omega)⟩]
theorem st2_next {s : List Int} {K : Nat} {F : List Nat} (i : Nat) : st2 s K F (i + 2) = stepB s (st2 s K F (i + 1)) ((st2 s K F (i + 1)).1.getD i 0) := by
  show stepB s _ (if i + 1 = 0 then (s.length : Int) else _) = _
  rw [if_neg (by omega)]
  rfl
theorem st2_begin {s : List Int} {K : Nat} {F : List Nat} (f : Fits s K) (hF : Firsts s F) : BegS s K [] (st2 s K F 0) := by
  refine ⟨(lay1 f hF).1, by simp [st2, begN], fun c hc => ?_⟩
  simp only [st2, begN]
  rw [mapI_at _ _ hc]
  simp [pick]
theorem st2_first {s : List Int} {K : Nat} {F : List Nat} (f : Fits s K) (hF : Firsts s F) (hn : 0 < s.length) : keyN s (s.length - 1) < K ∧ (st2 s K F 0).2.getD (keyN s (s.length - 1)) 0 < s.length ∧ Two s K F 0 [s.length - 1] (st2 s K F 1) := by
  have b := based2 f hF
  have hT : lgB s (s.length - 1) = true := by unfold lgB; rw [smB_last (by omega)]; rfl
  have hc := cnt_sub (key := keyN s) (P := [s.length - 1]) (R := F) (by simp) hF.nodup (fun p hp => by simp only [List.mem_singleton] at hp; omega) (fun p hp => (hF.kind p hp).1) (fun p hp h2 => by
    simp only [List.mem_singleton] at hp
    subst hp
    have := (b.kind _ h2).2
    rw [hT] at this
    cases this)
  have hcp := hc (keyN s (s.length - 1))
  rw [show pick [s.length - 1] (keyN s) (keyN s (s.length - 1)) = pick ([] ++ [s.length - 1]) (keyN s) (keyN s (s.length - 1)) from rfl, pick_snoc_same rfl, List.length_append, List.length_singleton] at hcp
  obtain ⟨k1, k2, k3, k4⟩ := (st2_begin f hF).put f (show s.length - 1 < s.length by omega) (by omega)
  rw [st2_one hn]
  refine ⟨f.lt _ (by omega), k2, k1, ⟨?_, by simp, fun p hp => ?_, fun p hp => .inl hp, (fun x hx => by omega), fun p hp => hp⟩, fun lt o q => ?_⟩
  · exact (lay1 f hF).2.snoc (K := K) hc k3 k4
  · simp only [List.mem_singleton] at hp
    subst hp
    exact ⟨by omega, hT⟩
  · refine List.Pairwise.filter _ (List.pairwise_singleton _ _)
theorem st2_all {s : List Int} {K : Nat} {F : List Nat} (f : Fits s K) (hF : Firsts s F) (hn : 0 < s.length) : ∀ i, i ≤ s.length → ∃ P, Two s K F i P (st2 s K F (i + 1)) := by
  intro i
  induction i with
  | zero => intro _; exact ⟨_, (st2_first f hF hn).2.2⟩
  | succ i ih =>
    intro hi
    obtain ⟨P, h⟩ := ih (by omega)
    rw [st2_next]
    exact h.next f (based2 f hF) (by omega)

theorem perm_of {n : Nat} {P : List Nat} {T : Nat → Bool} (hn : P.Nodup) (hk : ∀ p ∈ P, p < n ∧ T p = true) (ha : ∀ p, p < n → T p = true → p ∈ P) : P.Perm ((List.range n).filter T) :=
  (List.perm_ext_iff_of_nodup hn (List.Pairwise.filter _ List.nodup_range)).2 fun p => by
    rw [List.mem_filter, List.mem_range]
    exact ⟨hk p, fun h => ha p h.1 h.2⟩

/-- Behind the second step all large places stand. -/
theorem two_all {s : List Int} {K : Nat} {F P : List Nat} {st : List Int × List Nat} (f : Fits s K) (hF : Firsts s F) (h : Two s K F s.length P st) : ∀ p, p < s.length → lgB s p = true → p ∈ P :=
  h.scan.all (based2 f hF) (fun p hp _ hl => List.mem_singleton.2 (by omega)) fun p hp hT hT1 => by
    refine hF.perm.mem_iff.2 (firN_mem.2 ⟨hp, fsB_iff.2 ⟨by omega, ?_, ?_⟩⟩)
    · simpa [lgB] using hT1
    · rw [Nat.add_sub_cancel]; simpa [lgB] using hT

/-- The small ones taken out. -/
theorem lay3 {s : List Int} {K : Nat} {F P : List Nat} {st : List Int × List Nat} (f : Fits s K) (hF : Firsts s F) {i : Nat} (h : Two s K F i P st) : Lay s.length (keyN s) [] P (fun x => (outI s st.1).getD x 0) := by
  have b := based2 f hF
  have hl := h.beg.rl
  have hcs := cnt_sub (key := keyN s) h.scan.nodup b.nodup (fun p hp => (h.scan.kind p hp).1) (fun p hp => (b.kind p hp).1) (h.scan.apart b)
  refine ⟨fun q t ht => ?_, (fun q u hu => by simp [pick] at hu), fun q t h1 h2 h3 => ?_⟩
  · have h4 := h.scan.lay.put q t ht
    have hm := pick_get ht
    have hc := hcs q
    have hk := h.scan.kind _ hm.1
    have hx := offK_lt f.lt (show q < K by have := f.lt _ hk.1; omega) (show t < cntK s.length (keyN s) q by omega)
    rw [outI_at _ _ (by omega)]
    rw [h4]
    rw [if_neg]
    intro ⟨_, h5⟩
    rw [Int.toNat_natCast] at h5
    have := hk.2
    unfold lgB at this
    rw [h5] at this
    cases this
  · have hq : q < K := by
      have : 0 < (pick (List.range s.length) (keyN s) q).length := by unfold cntK at h1; omega
      have h4 := pick_get this
      have := f.lt _ (List.mem_range.1 h4.1)
      omega
    have hx := offK_lt f.lt hq h1
    rw [outI_at _ _ (by omega)]
    rcases h.scan.lay.cases b.hK hx with ⟨q', t', g1, g2, g3, g4⟩
    obtain ⟨rfl, rfl⟩ := offK_inj h1 g2 g3
    rcases g4 with ⟨a1, a2⟩ | ⟨a1, a3, a2⟩ | a1
    · omega
    · rw [a2, if_pos]
      refine ⟨by omega, ?_⟩
      have := getN_mem (l := (pick F (keyN s) q).reverse) (by rw [List.length_reverse]; exact a1)
      rw [List.mem_reverse] at this
      have := (b.kind _ (pick_mem.1 this).1).2
      rw [Int.toNat_natCast]
      simpa [lgB] using this
    · rw [a1, if_neg (by omega)]

theorem st3_begin {s : List Int} {K : Nat} {F P : List Nat} (f : Fits s K) (hF : Firsts s F) (h : Two s K F s.length P (st2 s K F (s.length + 1))) : Three s K P.reverse 0 [] (st3 s K F 0) := by
  have hl := h.beg.rl
  have hPn : ∀ p ∈ P, p < s.length := fun p hp => (h.scan.kind p hp).1
  have hol : (st3 s K F 0).1.length = s.length := by simp only [st3]; rw [outI_len, hl]
  have hc := cnt_sub (key := keyN s) (P := P) (R := []) h.scan.nodup List.nodup_nil hPn (fun _ h => by cases h) (fun _ _ h => by cases h)
  have h3 := (lay3 f hF h).mirror (K := K) (r' := fun x => (st3 s K F 0).1.reverse.getD x 0) f.lt hPn (fun _ h => by cases h) hc (fun x hx => by
    rw [revI_at _ (by omega), hol]
    rfl)
  refine ⟨⟨hol, by simp [st3, endN], fun c hc2 => ?_⟩, ⟨h3, List.nodup_nil, (fun p hp => by cases hp), (fun p hp => by cases hp), (fun x hx => by omega), (fun p hp => by cases hp)⟩, fun lt o q => by simp [pick]⟩
  simp only [st3, endN]
  rw [mapI_at _ _ hc2]
  simp [pick]
theorem st3_all {s : List Int} {K : Nat} {F P : List Nat} (f : Fits s K) (hF : Firsts s F) (h : Two s K F s.length P (st2 s K F (s.length + 1))) : ∀ i, i ≤ s.length → ∃ P', Three s K P.reverse i P' (st3 s K F i) := by
  intro i
  induction i with
  | zero => intro _; exact ⟨_, st3_begin f hF h⟩
  | succ i ih =>
    intro hi
    obtain ⟨P', h'⟩ := ih (by omega)
    exact h'.next f (based3 f h.scan.nodup h.scan.kind) (by omega)

/-- Of one number the large endings are less than the small ones. -/
theorem ltE_kinds {s : List Int} : ∀ (d a b : Nat), s.length - a = d → a < s.length → b < s.length → s.getD a 0 = s.getD b 0 → smB s a = false → smB s b = true → ltE s a b := by
  intro d
  induction d with
  | zero => intro a b h1 h2; omega
  | succ d ih =>
    intro a b h1 ha hb he h3 h4
    rw [ltE_same ha hb he]
    have hb1 : b + 1 < s.length := by
      apply Nat.lt_of_not_le
      intro hle
      rw [smB_last hle] at h4
      cases h4
    by_cases ha1 : a + 1 < s.length
    · rw [smB_next ha1] at h3
      rw [smB_next hb1] at h4
      simp only [Bool.or_eq_false_iff, decide_eq_false_iff_not, Bool.and_eq_false_iff] at h3
      simp only [Bool.or_eq_true, decide_eq_true_eq, Bool.and_eq_true] at h4
      by_cases h5 : s.getD (a + 1) 0 < s.getD (b + 1) 0
      · exact ltE_less ha1 hb1 h5
      · have e1 : s.getD a 0 = s.getD (a + 1) 0 := by omega
        have e2 : s.getD b 0 = s.getD (b + 1) 0 := by omega
        refine ih (a + 1) (b + 1) (by omega) ha1 hb1 (by omega) ?_ ?_
        · rcases h3.2 with h6 | h6
          · exact absurd e1 h6
          · exact h6
        · rcases h4 with h6 | h6
          · omega
          · exact h6.2
    · exact ltE_end (by omega) hb1

theorem ord2 {s : List Int} {K : Nat} {F : List Nat} (f : Fits s K) (ho : F.Pairwise (ltE s)) : Ordered s.length (keyN s) (lgB s) F [s.length - 1] (ltE s) := by
  refine ⟨fun a b ha hb h => ?_, fun a b ha hb h h1 h2 => ?_, fun a b ha hb _ _ h h3 => ?_, fun a b ha hb hT h => ?_, fun q => ho.filter _⟩
  · exact ltE_less ha hb (by rw [f.num a ha, f.num b hb]; omega)
  · exact ltE_kinds _ a b rfl ha hb (by rw [f.num a ha, f.num b hb, h]) (by simpa [lgB] using h1) (by simpa [lgB] using h2)
  · exact (ltE_same (by omega) (by omega) (by rw [f.num a (by omega), f.num b (by omega), h])).2 h3
  · simp only [List.mem_singleton] at ha
    subst ha
    exact (ltE_same (by omega) (by omega) (by rw [f.num _ (by omega), f.num b (by omega), h])).2 (ltE_end (by omega) hb)
theorem ord3 {s : List Int} {K : Nat} {P : List Nat} (f : Fits s K) (hP : ∀ p ∈ P, p < s.length) (ho : ∀ q, (pick P (keyN s) q).Pairwise (ltE s)) : Ordered s.length (keyM K (keyN s)) (smB s) P.reverse [] (fun a b => ltE s b a) := by
  refine ⟨fun a b ha hb h => ?_, fun a b ha hb h h1 h2 => ?_, fun a b ha hb _ _ h h3 => ?_, (fun a b ha => by cases ha), fun q => ?_⟩
  · have h1 := f.lt a ha
    have h2 := f.lt b hb
    unfold keyM at h
    exact ltE_less hb ha (by rw [f.num a ha, f.num b hb]; omega)
  · have h3 := f.lt a ha
    have h4 := f.lt b hb
    unfold keyM at h
    exact ltE_kinds _ b a rfl hb ha (by rw [f.num a ha, f.num b hb]; omega) h2 h1
  · have h4 := f.lt a (by omega)
    have h5 := f.lt b (by omega)
    unfold keyM at h
    exact (ltE_same (by omega) (by omega) (by rw [f.num a (by omega), f.num b (by omega)]; omega)).2 h3
  · rw [pick_rev, List.pairwise_reverse]
    by_cases h0 : 0 < (pick P (keyM K (keyN s)) q).length
    · obtain ⟨q', hq, rfl⟩ := pick_mirror_of f.lt hP h0
      rw [pick_mirror f.lt hP hq]
      exact ho q'
    · rw [List.length_eq_zero_iff.1 (show (pick P (keyM K (keyN s)) q).length = 0 by omega)]
      exact List.Pairwise.nil

/-- Induced sorting: each place comes once, number by number, and by whatever relation both steps keep. -/
theorem indI_rel {s : List Int} {K : Nat} {F : List Nat} (f : Fits s K) (hF : Firsts s F) : ∃ R : List Nat, indI s K F = natL R ∧ R.Perm (List.range s.length) ∧ R.Pairwise (fun a b => keyN s a ≤ keyN s b) ∧
    ∀ (r2 r : Nat → Nat → Prop), Ordered s.length (keyN s) (lgB s) F [s.length - 1] r2 → (∀ a b, lgB s a = true → lgB s b = true → r2 a b → r a b) →
      (∀ P : List Nat, (∀ p ∈ P, p < s.length ∧ lgB s p = true) → (∀ q, (pick P (keyN s) q).Pairwise r) → Ordered s.length (keyM K (keyN s)) (smB s) P.reverse [] (fun a b => r b a)) →
      (∀ a b, a < s.length → b < s.length → keyN s a < keyN s b → r a b) → (∀ a b, a < s.length → b < s.length → keyN s a = keyN s b → smB s a = false → smB s b = true → r a b) → R.Pairwise r := by
  by_cases hn : 0 < s.length
  · obtain ⟨P, h⟩ := st2_all f hF hn s.length (Nat.le_refl _)
    obtain ⟨Q, h'⟩ := st3_all f hF h s.length (Nat.le_refl _)
    have hPn : ∀ p ∈ P, p < s.length := fun p hp => (h.scan.kind p hp).1
    have hQn : ∀ p ∈ Q, p < s.length := fun p hp => (h'.scan.kind p hp).1
    have b := based2 f hF
    have b' := based3 f h.scan.nodup h.scan.kind
    have hPa := two_all f hF h
    have hQa : ∀ p, p < s.length → smB s p = true → p ∈ Q := h'.scan.all b' (fun p hp hT hl => by
      rw [smB_last hl] at hT
      cases hT) fun p hp hT hT1 => List.mem_reverse.2 (hPa _ hp (by unfold lgB; rw [hT1]; rfl))
    have hperm : (P ++ Q.reverse).Perm (List.range s.length) := by
      refine (List.perm_ext_iff_of_nodup (List.nodup_append.2 ⟨h.scan.nodup, List.pairwise_reverse.2 (h'.scan.nodup.imp fun h => Ne.symm h), fun a ha c hc e => ?_⟩) List.nodup_range).2 fun p => ?_
      · have h1 := (h.scan.kind a ha).2
        have h2 := (h'.scan.kind c (List.mem_reverse.1 hc)).2
        rw [← e] at h2
        unfold lgB at h1
        rw [h2] at h1
        cases h1
      · rw [List.mem_append, List.mem_reverse, List.mem_range]
        constructor
        · rintro (h1 | h1)
          · exact hPn p h1
          · exact hQn p h1
        · intro hp
          cases hs : smB s p
          · exact .inl (hPa p hp (by unfold lgB; rw [hs]; rfl))
          · exact .inr (hQa p hp hs)
    have hl := h'.fin.rl
    have hc := cnt_sub (key := keyM K (keyN s)) h'.scan.nodup b'.nodup hQn (fun p hp => (b'.kind p hp).1) (h'.scan.apart b')
    have hlay : Lay s.length (keyN s) Q.reverse P (fun x => (indI s K F).getD x 0) := by
      have := h'.scan.lay.mirror (K := K) (r' := fun x => (indI s K F).getD x 0) (keyM_lt f.lt) hQn (fun p hp => (b'.kind p hp).1) hc (fun x hx => by
        rw [revI_at _ (by omega), hl]
        unfold indI
        congr 1
        omega)
      rw [List.reverse_reverse] at this
      exact this.congr (keyM_two f.lt) hPn (fun p hp => hQn p (List.mem_reverse.1 hp))
    have hrow := hlay.full f.lt hperm (row := indI s K F) hl (fun x _ => rfl)
    have hkey : ∀ p ∈ P ++ Q.reverse, keyN s p < K := fun p hp => f.lt p (List.mem_range.1 (hperm.mem_iff.1 hp))
    refine ⟨_, hrow, (csort_perm hkey).trans hperm, ?_, fun r2 r ho2 h23 ho3 x1 x2 => ?_⟩
    · refine (csort_sorted K (keyN s) (Q := fun _ _ => True) (List.pairwise_of_forall fun _ _ => trivial)).imp fun h => ?_
      rcases h with h | h
      · omega
      · omega
    · have o2 : ∀ q, (pick P (keyN s) q).Pairwise r := fun q => (h.ord _ ho2 q).imp_of_mem fun ha hb hr => h23 _ _ (h.scan.kind _ (pick_mem.1 ha).1).2 (h.scan.kind _ (pick_mem.1 hb).1).2 hr
      have o3 := h'.ord _ (ho3 P h.scan.kind o2)
      unfold csort
      rw [List.pairwise_flatMap]
      constructor
      · intro q hq
        have hq := List.mem_range.1 hq
        rw [pick_app, pick_rev, List.pairwise_append]
        refine ⟨o2 q, List.pairwise_reverse.2 ?_, fun a ha c hc => ?_⟩
        · have := o3 (K - 1 - q)
          rw [pick_mirror f.lt hQn hq] at this
          exact this
        · obtain ⟨h1, h2⟩ := pick_mem.1 ha
          obtain ⟨h3, h4⟩ := pick_mem.1 (List.mem_reverse.1 hc)
          have k1 := h.scan.kind a h1
          have k2 := h'.scan.kind c h3
          exact x2 a c k1.1 k2.1 (by rw [h2, h4]) (by simpa [lgB] using k1.2) k2.2
      · refine List.pairwise_lt_range.imp ?_
        intro q q' hqq x hx y hy
        obtain ⟨h1, h2⟩ := pick_mem.1 hx
        obtain ⟨h3, h4⟩ := pick_mem.1 hy
        have k1 := List.mem_range.1 (hperm.mem_iff.1 h1)
        have k2 := List.mem_range.1 (hperm.mem_iff.1 h3)
        exact x1 x y k1 k2 (by omega)
  · have h0 : s.length = 0 := by omega
    have hs : s = [] := List.length_eq_zero_iff.1 h0
    have hFe : F = [] := by
      have := hF.perm
      rw [hs] at this
      exact List.perm_nil.1 this
    subst hs
    subst hFe
    exact ⟨[], rfl, List.Perm.refl _, List.Pairwise.nil, fun _ _ _ _ _ _ _ => List.Pairwise.nil⟩
/-- Induced sorting: each place comes once, number by number; in order, if the first places are. -/
theorem indI_all {s : List Int} {K : Nat} {F : List Nat} (f : Fits s K) (hF : Firsts s F) : ∃ R : List Nat, indI s K F = natL R ∧ R.Perm (List.range s.length) ∧ R.Pairwise (fun a b => keyN s a ≤ keyN s b) ∧ (F.Pairwise (ltE s) → R.Pairwise (ltE s)) := by
  obtain ⟨R, h1, h2, h3, h4⟩ := indI_rel f hF
  exact ⟨R, h1, h2, h3, fun ho => h4 _ _ (ord2 f ho) (fun _ _ _ _ h => h) (fun P hP hp => ord3 f (fun p h => (hP p h).1) hp)
    (fun a b ha hb h => ltE_less ha hb (by rw [f.num a ha, f.num b hb]; omega))
    (fun a b ha hb h k1 k2 => ltE_kinds _ a b rfl ha hb (by rw [f.num a ha, f.num b hb, h]) k1 k2)⟩
end Go.Proofs.YtlmbdafilboblaaGreat

/- Parts of a text from one first place to the next: sorted by induced sorting, named, they tell the order of the endings. Plain numbers, no conditions. -/
namespace Go.Proofs.YtlmbdafilboblaaGreat
set_option linter.unusedVariables false
set_option linter.unusedSimpArgs false

/-- A place's number and kind as one. -/
def codeI (s : List Int) (a : Nat) : Int := 2 * s.getD a 0 + (if smB s a = true then 1 else 0)
theorem codeI_small {s : List Int} {a : Nat} (h : smB s a = true) : codeI s a = 2 * s.getD a 0 + 1 := by unfold codeI; rw [if_pos h]
theorem codeI_large {s : List Int} {a : Nat} (h : smB s a = false) : codeI s a = 2 * s.getD a 0 := by unfold codeI; rw [if_neg (by rw [h]; simp)]; omega
theorem codeI_eq {s : List Int} {a b : Nat} (h : codeI s a = codeI s b) : s.getD a 0 = s.getD b 0 ∧ smB s a = smB s b := by
  cases ha : smB s a <;> cases hb : smB s b
  · rw [codeI_large ha, codeI_large hb] at h
    exact ⟨by omega, rfl⟩
  · rw [codeI_large ha, codeI_small hb] at h
    omega
  · rw [codeI_small ha, codeI_large hb] at h
    omega
  · rw [codeI_small ha, codeI_small hb] at h
    exact ⟨by omega, rfl⟩
theorem codeI_lt {s : List Int} {a b : Nat} (ha : a < s.length) (hb : b < s.length) (h : codeI s a < codeI s b) : ltE s a b := by
  cases h1 : smB s a <;> cases h2 : smB s b
  · rw [codeI_large h1, codeI_large h2] at h
    exact ltE_less ha hb (by omega)
  · rw [codeI_large h1, codeI_small h2] at h
    by_cases e : s.getD a 0 = s.getD b 0
    · exact ltE_kinds _ a b rfl ha hb e h1 h2
    · exact ltE_less ha hb (by omega)
  · rw [codeI_small h1, codeI_large h2] at h
    exact ltE_less ha hb (by omega)
  · rw [codeI_small h1, codeI_small h2] at h
    exact ltE_less ha hb (by omega)
theorem fsB_out {s : List Int} {a : Nat} (h : s.length ≤ a) : fsB s a = false := by
  unfold fsB
  rw [smB_last (by omega)]
  simp

/-- From a place to the next first one, that one with it; else to the end. -/
def cutF (s : List Int) : Nat → Nat → List Int
  | 0, _ => []
  | d + 1, a => codeI s a :: (if fsB s (a + 1) = true then [codeI s (a + 1)] else cutF s d (a + 1))
def cutW (s : List Int) (a : Nat) : List Int := cutF s (s.length - a) a
theorem cutW_end {s : List Int} {a : Nat} (h : s.length ≤ a) : cutW s a = [] := by
  unfold cutW
  rw [show s.length - a = 0 by omega]
  rfl
theorem cutW_cons {s : List Int} {a : Nat} (h : a < s.length) : cutW s a = codeI s a :: (if fsB s (a + 1) = true then [codeI s (a + 1)] else cutW s (a + 1)) := by
  unfold cutW
  rw [show s.length - a = (s.length - (a + 1)) + 1 by omega]
  rfl
/-- Likewise, a first place alone. -/
def cutL (s : List Int) (a : Nat) : List Int := if fsB s a = true then [codeI s a] else cutW s a
theorem cutW_tail {s : List Int} {a : Nat} (h : a < s.length) : cutW s a = codeI s a :: cutL s (a + 1) := cutW_cons h
theorem cutL_large {s : List Int} {a : Nat} (h : smB s a = false) : cutL s a = cutW s a := by
  unfold cutL
  rw [if_neg]
  intro hf
  have := (fsB_iff.1 hf).2.1
  rw [h] at this
  cases this
theorem cutL_next {s : List Int} {a : Nat} (h : smB s a = true) : cutL s (a + 1) = cutW s (a + 1) := by
  unfold cutL
  rw [if_neg]
  intro hf
  have := (fsB_iff.1 hf).2.2
  rw [Nat.add_sub_cancel, h] at this
  cases this

theorem cmpI_head {x y : Int} {l l' : List Int} (h : x < y) : cmpI (x :: l) (y :: l') = -1 := by rw [cmpI, if_pos h]
theorem cmpI_tail {x : Int} {l l' : List Int} : cmpI (x :: l) (x :: l') = cmpI l l' := by rw [cmpI, if_neg (by omega), if_neg (by omega)]

theorem key_code {s : List Int} {K a b : Nat} (f : Fits s K) (ha : a < s.length) (hb : b < s.length) (h : keyN s a < keyN s b) : codeI s a < codeI s b := by
  have h1 := f.num a ha
  have h2 := f.num b hb
  unfold codeI
  split <;> split <;> omega
theorem kind_code {s : List Int} {K a b : Nat} (f : Fits s K) (ha : a < s.length) (hb : b < s.length) (h : keyN s a = keyN s b) (h1 : smB s a = false) (h2 : smB s b = true) : codeI s a < codeI s b := by
  have h3 := f.num a ha
  have h4 := f.num b hb
  rw [codeI_large h1, codeI_small h2]
  omega
theorem same_code {s : List Int} {K a b : Nat} (f : Fits s K) (ha : a < s.length) (hb : b < s.length) (h : keyN s a = keyN s b) (h1 : smB s a = smB s b) : codeI s a = codeI s b := by
  have h3 := f.num a ha
  have h4 := f.num b hb
  unfold codeI
  rw [h1, h3, h4, h]
theorem cutL_head {s : List Int} {a : Nat} (h : a < s.length) : ∃ l, cutL s a = codeI s a :: l := by
  unfold cutL
  split
  · exact ⟨[], rfl⟩
  · exact ⟨_, cutW_cons h⟩

/-- Whatever the order of the first places, what comes out stands in order of the parts. -/
theorem indI_cut {s : List Int} {K : Nat} {F : List Nat} (f : Fits s K) (hF : Firsts s F) : ∃ R : List Nat, indI s K F = natL R ∧ R.Perm (List.range s.length) ∧ R.Pairwise (fun a b => cmpI (cutW s a) (cutW s b) ≤ 0) := by
  obtain ⟨R, h1, h2, _, h4⟩ := indI_rel f hF
  refine ⟨R, h1, h2, h4 (fun a b => cmpI (cutL s a) (cutL s b) ≤ 0) _ ⟨fun a b ha hb h => ?_, fun a b ha hb h k1 k2 => ?_, fun a b ha hb k1 k2 h h3 => ?_, fun a b ha hb k2 h => ?_, fun q => ?_⟩ (fun a b k1 k2 h => ?_) (fun P hP hp => ⟨fun a b ha hb h => ?_, fun a b ha hb h k1 k2 => ?_, fun a b ha hb k1 k2 h h3 => ?_, (fun a b ha => by cases ha), fun q => ?_⟩) (fun a b ha hb h => ?_) (fun a b ha hb h k1 k2 => ?_)⟩
  · obtain ⟨l, e⟩ := cutL_head ha
    obtain ⟨l', e'⟩ := cutL_head hb
    rw [e, e', cmpI_head (key_code f ha hb h)]
    omega
  · obtain ⟨l, e⟩ := cutL_head ha
    obtain ⟨l', e'⟩ := cutL_head hb
    rw [e, e', cmpI_head (kind_code f ha hb h (by simpa [lgB] using k1) (by simpa [lgB] using k2))]
    omega
  · have k1' : smB s a = false := by simpa [lgB] using k1
    have k2' : smB s b = false := by simpa [lgB] using k2
    rw [cutL_large k1', cutL_large k2', cutW_tail (by omega), cutW_tail (by omega), same_code f (by omega) (by omega) h (by rw [k1', k2']), cmpI_tail]
    exact h3
  · simp only [List.mem_singleton] at ha
    subst ha
    have k1' : smB s (s.length - 1) = false := smB_last (by omega)
    have k2' : smB s b = false := by simpa [lgB] using k2
    have e : cutL s (s.length - 1 + 1) = [] := by
      unfold cutL
      rw [fsB_out (by omega), if_neg (by simp), cutW_end (by omega)]
    obtain ⟨l, e'⟩ := cutL_head hb
    rw [cutL_large k1', cutL_large k2', cutW_tail (by omega), cutW_tail (by omega), same_code f (by omega) (by omega) h (by rw [k1', k2']), cmpI_tail, e, e']
    exact (by decide : (-1 : Int) ≤ 0)
  · refine (List.pairwise_of_forall (R := fun _ _ => True) fun _ _ => trivial).imp_of_mem fun ha hb _ => ?_
    obtain ⟨m1, e1⟩ := pick_mem.1 ha
    obtain ⟨m2, e2⟩ := pick_mem.1 hb
    obtain ⟨n1, f1⟩ := hF.kind _ m1
    obtain ⟨n2, f2⟩ := hF.kind _ m2
    unfold cutL
    rw [if_pos f1, if_pos f2, same_code f n1 n2 (by rw [e1, e2]) (by rw [(fsB_iff.1 f1).2.1, (fsB_iff.1 f2).2.1]), cmpI_self]
    exact Int.le_refl _
  · have k1' : smB s a = false := by simpa [lgB] using k1
    have k2' : smB s b = false := by simpa [lgB] using k2
    rw [cutL_large k1', cutL_large k2'] at h
    exact h
  · have h5 := f.lt a ha
    have h6 := f.lt b hb
    unfold keyM at h
    rw [cutW_tail ha, cutW_tail hb, cmpI_head (key_code f hb ha (by omega))]
    omega
  · have h5 := f.lt a ha
    have h6 := f.lt b hb
    unfold keyM at h
    rw [cutW_tail ha, cutW_tail hb, cmpI_head (kind_code f hb ha (by omega) k2 k1)]
    omega
  · have h5 := f.lt a (by omega)
    have h6 := f.lt b (by omega)
    unfold keyM at h
    rw [cutW_tail (show a < s.length by omega), cutW_tail (show b < s.length by omega), cutL_next k1, cutL_next k2, same_code f (by omega) (by omega) (show keyN s a = keyN s b by omega) (by rw [k1, k2]), cmpI_tail]
    exact h3
  · rw [pick_rev, List.pairwise_reverse]
    by_cases h0 : 0 < (pick P (keyM K (keyN s)) q).length
    · obtain ⟨q', hq, rfl⟩ := pick_mirror_of f.lt (fun p h => (hP p h).1) h0
      rw [pick_mirror f.lt (fun p h => (hP p h).1) hq]
      exact hp q'
    · rw [List.length_eq_zero_iff.1 (show (pick P (keyM K (keyN s)) q).length = 0 by omega)]
      exact List.Pairwise.nil
  · rw [cutW_tail ha, cutW_tail hb, cmpI_head (key_code f ha hb h)]
    omega
  · rw [cutW_tail ha, cutW_tail hb, cmpI_head (kind_code f ha hb h k1 k2)]
    omega

/-- Behind a large place stands a first one, a large one, or nothing. -/
theorem behind_large {s : List Int} {a : Nat} (h : smB s a = false) (hf : fsB s (a + 1) = false) : smB s (a + 1) = false := by
  cases h2 : smB s (a + 1)
  · rfl
  · have : fsB s (a + 1) = true := fsB_iff.2 ⟨by omega, h2, by rw [Nat.add_sub_cancel]; exact h⟩
    rw [hf] at this
    cases this
theorem ahead_first {s : List Int} {a : Nat} (hf : fsB s (a + 1) = true) : smB s a = false ∧ smB s (a + 1) = true ∧ a + 1 < s.length := by
  have h := fsB_iff.1 hf
  rw [Nat.add_sub_cancel] at h
  refine ⟨h.2.2, h.2.1, ?_⟩
  apply Nat.lt_of_not_le
  intro hle
  rw [fsB_out hle] at hf
  cases hf

/-- A less part is of a less ending. -/
theorem cut_lt {s : List Int} : ∀ (d a b : Nat), s.length - a = d → a < s.length → b < s.length → cmpI (cutW s a) (cutW s b) < 0 → ltE s a b := by
  intro d
  induction d with
  | zero => intro a b h1 h2; omega
  | succ d ih =>
    intro a b hd ha hb h
    rw [cutW_cons ha, cutW_cons hb] at h
    rcases Int.lt_trichotomy (codeI s a) (codeI s b) with hc | hc | hc
    · exact codeI_lt ha hb hc
    · obtain ⟨c1, c2⟩ := codeI_eq hc
      rw [hc, cmpI_tail] at h
      rw [ltE_same ha hb c1]
      cases f1 : fsB s (a + 1) <;> cases f2 : fsB s (b + 1) <;> rw [f1, f2] at h <;> simp only [if_true, if_false, Bool.false_eq_true] at h
      · by_cases ha1 : a + 1 < s.length
        · by_cases hb1 : b + 1 < s.length
          · exact ih (a + 1) (b + 1) (by omega) ha1 hb1 h
          · rw [cutW_end (a := b + 1) (by omega), cutW_cons ha1] at h
            exact absurd h (by rw [cmpI]; decide)
        · by_cases hb1 : b + 1 < s.length
          · exact ltE_end (by omega) hb1
          · rw [cutW_end (a := a + 1) (by omega), cutW_end (a := b + 1) (by omega)] at h
            exact absurd h (by decide)
      · obtain ⟨k1, k2, k3⟩ := ahead_first f2
        by_cases ha1 : a + 1 < s.length
        · have k4 := behind_large (by rw [c2]; exact k1) f1
          rw [cutW_cons ha1] at h
          rcases Int.lt_trichotomy (codeI s (a + 1)) (codeI s (b + 1)) with hc2 | hc2 | hc2
          · exact codeI_lt ha1 k3 hc2
          · have := (codeI_eq hc2).2
            rw [k4, k2] at this
            cases this
          · rw [cmpI, if_neg (by omega), if_pos hc2] at h
            omega
        · exact ltE_end (by omega) k3
      · obtain ⟨k1, k2, k3⟩ := ahead_first f1
        by_cases hb1 : b + 1 < s.length
        · have k4 := behind_large (by rw [← c2]; exact k1) f2
          rw [cutW_cons hb1] at h
          rcases Int.lt_trichotomy (codeI s (a + 1)) (codeI s (b + 1)) with hc2 | hc2 | hc2
          · exact codeI_lt k3 hb1 hc2
          · have := (codeI_eq hc2).2
            rw [k4, k2] at this
            cases this
          · rw [cmpI, if_neg (by omega), if_pos hc2] at h
            omega
        · rw [cutW_end (a := b + 1) (by omega)] at h
          exact absurd h (by rw [cmpI]; decide)
      · obtain ⟨k1, k2, k3⟩ := ahead_first f1
        obtain ⟨k4, k5, k6⟩ := ahead_first f2
        rcases Int.lt_trichotomy (codeI s (a + 1)) (codeI s (b + 1)) with hc2 | hc2 | hc2
        · exact codeI_lt k3 k6 hc2
        · rw [hc2, cmpI_tail] at h
          exact absurd h (by decide)
        · rw [cmpI, if_neg (by omega), if_pos hc2] at h
          omega
    · rw [cmpI, if_neg (by omega), if_pos hc] at h
      omega

/-- Parts that are one end as far off, both at a first place. -/
theorem cut_same {s : List Int} : ∀ (d a b : Nat), s.length - a = d → a < s.length → b < s.length → a ≠ b → cutW s a = cutW s b →
    ∃ e, 1 ≤ e ∧ fsB s (a + e) = true ∧ fsB s (b + e) = true ∧ (∀ x, 1 ≤ x → x < e → fsB s (a + x) = false ∧ fsB s (b + x) = false) ∧ (ltE s a b ↔ ltE s (a + e) (b + e)) := by
  intro d
  induction d with
  | zero => intro a b h1 h2; omega
  | succ d ih =>
    intro a b hd ha hb hne h
    rw [cutW_cons ha, cutW_cons hb] at h
    simp only [List.cons.injEq] at h
    obtain ⟨hc, h⟩ := h
    obtain ⟨c1, c2⟩ := codeI_eq hc
    cases f1 : fsB s (a + 1) <;> cases f2 : fsB s (b + 1) <;> rw [f1, f2] at h <;> simp only [if_true, if_false, Bool.false_eq_true] at h
    · by_cases ha1 : a + 1 < s.length
      · by_cases hb1 : b + 1 < s.length
        · obtain ⟨e, e1, e2, e3, e4, e5⟩ := ih (a + 1) (b + 1) (by omega) ha1 hb1 (by omega) h
          refine ⟨e + 1, by omega, ?_, ?_, fun x h1 h2 => ?_, ?_⟩
          · rw [show a + (e + 1) = a + 1 + e by omega]; exact e2
          · rw [show b + (e + 1) = b + 1 + e by omega]; exact e3
          · by_cases hx : x = 1
            · subst hx
              exact ⟨f1, f2⟩
            · have := e4 (x - 1) (by omega) (by omega)
              rw [show a + 1 + (x - 1) = a + x by omega, show b + 1 + (x - 1) = b + x by omega] at this
              exact this
          · rw [ltE_same ha hb c1, e5, show a + (e + 1) = a + 1 + e by omega, show b + (e + 1) = b + 1 + e by omega]
        · rw [cutW_end (a := b + 1) (by omega), cutW_cons ha1] at h
          cases h
      · by_cases hb1 : b + 1 < s.length
        · rw [cutW_end (a := a + 1) (by omega), cutW_cons hb1] at h
          cases h
        · omega
    · obtain ⟨k1, k2, k3⟩ := ahead_first f2
      by_cases ha1 : a + 1 < s.length
      · have k4 := behind_large (by rw [c2]; exact k1) f1
        rw [cutW_cons ha1] at h
        simp only [List.cons.injEq] at h
        have := (codeI_eq h.1).2
        rw [k4, k2] at this
        cases this
      · rw [cutW_end (a := a + 1) (by omega)] at h
        cases h
    · obtain ⟨k1, k2, k3⟩ := ahead_first f1
      by_cases hb1 : b + 1 < s.length
      · have k4 := behind_large (by rw [← c2]; exact k1) f2
        rw [cutW_cons hb1] at h
        simp only [List.cons.injEq] at h
        have := (codeI_eq h.1).2
        rw [k4, k2] at this
        cases this
      · rw [cutW_end (a := b + 1) (by omega)] at h
        cases h
    · exact ⟨1, Nat.le_refl _, f1, f2, fun x h1 h2 => by omega, ltE_same ha hb c1⟩
end Go.Proofs.YtlmbdafilboblaaGreat

/- Rows that have each place once, and where each stands. Plain numbers, no conditions. -/
namespace Go.Proofs.YtlmbdafilboblaaGreat
set_option linter.unusedVariables false
set_option linter.unusedSimpArgs false

theorem nodup_perm {l : List Int} : ∀ {l' : List Int}, l.Nodup → (∀ x ∈ l, x ∈ l') → l'.length ≤ l.length → l.Perm l' := by
  induction l with
  | nil => intro l' _ _ h; rw [List.length_eq_zero_iff.1 (Nat.le_zero.1 h)]
  | cons a l ih =>
    intro l' hn hs hl
    rw [List.nodup_cons] at hn
    have ha := hs a List.mem_cons_self
    have h2 := List.length_erase_of_mem ha
    rw [List.length_cons] at hl
    have h1 := ih (l' := l'.erase a) hn.2 (fun x hx => by
      have hne : x ≠ a := fun e => hn.1 (e ▸ hx)
      exact (List.mem_erase_of_ne hne).2 (hs x (List.mem_cons_of_mem _ hx))) (by omega)
    exact (List.Perm.cons a h1).trans (List.perm_cons_erase ha).symm
theorem natL_mem {l : List Nat} {z : Int} : z ∈ natL l ↔ ∃ p, p ∈ l ∧ z = (p : Int) := by
  unfold natL
  rw [List.mem_map]
  exact ⟨fun ⟨p, h1, h2⟩ => ⟨p, h1, h2.symm⟩, fun ⟨p, h1, h2⟩ => ⟨p, h1, h2.symm⟩⟩
theorem natL_nodup {l : List Nat} (h : l.Nodup) : (natL l).Nodup := by
  unfold natL List.Nodup
  rw [List.pairwise_map]
  exact h.imp fun h e => h (Int.ofNat.inj e)
theorem takeI_succ {l : List Int} {i : Nat} (h : i < l.length) : l.take (i + 1) = l.take i ++ [l.getD i 0] := by
  rw [List.take_add_one, List.getElem?_eq_getElem h, List.getD_eq_getElem?_getD, List.getElem?_eq_getElem h]
  rfl
theorem nodup_getI {l : List Int} (h : l.Nodup) {i j : Nat} (hi : i < l.length) (hj : j < l.length) (e : l.getD i 0 = l.getD j 0) : i = j := by
  rw [List.getD_eq_getElem?_getD, List.getD_eq_getElem?_getD, List.getElem?_eq_getElem hi, List.getElem?_eq_getElem hj] at e
  exact (List.getElem_inj h).1 e

/-- Is it each place once? -/
def ordB (l : List Int) : Bool := l.isPerm (natL (List.range l.length))
theorem ordB_iff {l : List Int} : ordB l = true ↔ l.Perm (natL (List.range l.length)) := List.isPerm_iff
theorem ordB_no {l : List Int} (h : ¬ l.Perm (natL (List.range l.length))) : ordB l = false := by
  rw [Bool.eq_false_iff]
  exact fun e => h (ordB_iff.1 e)
theorem ordB_nat {n : Nat} {R : List Nat} (h : R.Perm (List.range n)) : ordB (natL R) = true := by
  rw [ordB_iff, natL_len, h.length_eq, List.length_range]
  exact h.map _
theorem ordB_nodup {l : List Int} (h : ordB l = true) : l.Nodup := (ordB_iff.1 h).nodup_iff.2 (natL_nodup List.nodup_range)
theorem ordB_mem {l : List Int} (h : ordB l = true) {z : Int} : z ∈ l ↔ 0 ≤ z ∧ z < l.length := by
  rw [(ordB_iff.1 h).mem_iff, natL_mem]
  constructor
  · rintro ⟨p, h1, rfl⟩
    have := List.mem_range.1 h1
    omega
  · intro ⟨h1, h2⟩
    exact ⟨z.toNat, List.mem_range.2 (by omega), by omega⟩
/-- Where each stands. -/
def invI (l : List Int) : List Int := if ordB l = true then natL ((List.range l.length).map fun (x : Nat) => l.idxOf (x : Int)) else []
theorem invI_no {l : List Int} (h : ordB l = false) : invI l = [] := by unfold invI; rw [h]; rfl
theorem invI_len {l : List Int} (h : ordB l = true) : (invI l).length = l.length := by
  unfold invI
  rw [if_pos h, natL_len, List.length_map, List.length_range]
theorem invI_at {l : List Int} (h : ordB l = true) {i p : Nat} (hi : i < l.length) (hp : l.getD i 0 = (p : Int)) : (invI l).getD p 0 = (i : Int) := by
  have hpn : p < l.length := by
    have := (ordB_mem h).1 (getI_mem hi)
    omega
  unfold invI
  rw [if_pos h, natL_at, mapI_at _ _ hpn]
  have hm : (p : Int) ∈ l := (ordB_mem h).2 ⟨by omega, by omega⟩
  have h1 := List.idxOf_lt_length_of_mem hm
  have h2 : l.getD (l.idxOf (p : Int)) 0 = (p : Int) := by
    rw [List.getD_eq_getElem?_getD, List.getElem?_eq_getElem h1]
    exact List.getElem_idxOf h1
  have := nodup_getI (ordB_nodup h) h1 hi (by rw [h2, hp])
  omega
theorem invI_eq {l bs : List Int} (h : ordB l = true) (hl : bs.length = l.length) (hb : ∀ i p : Nat, i < l.length → l.getD i 0 = (p : Int) → bs.getD p 0 = (i : Int)) : bs = invI l := by
  refine getD_ext (by rw [hl, invI_len h]) fun p hp => ?_
  rw [hl] at hp
  have hm : (p : Int) ∈ l := (ordB_mem h).2 ⟨by omega, by omega⟩
  obtain ⟨i, hi, e⟩ := mem_getI hm
  rw [hb i p hi e, invI_at h hi e]

/-- What the search for where each stands keeps. -/
structure Inv (l : List Int) (i : Nat) (bs : List Int) : Prop where
  len : bs.length = l.length
  nodup : (l.take i).Nodup
  good : ∀ z ∈ l.take i, 0 ≤ z ∧ z < l.length
  at' : ∀ j p : Nat, j < i → j < l.length → l.getD j 0 = (p : Int) → bs.getD p 0 = (j : Int)
  none : ∀ p : Nat, p < l.length → (p : Int) ∉ l.take i → bs.getD p 0 = -1
theorem Inv.start {l bs : List Int} (hl : bs.length = l.length) (h : ∀ x, x < l.length → bs.getD x 0 = -1) : Inv l 0 bs :=
  ⟨hl, by simp, by simp, (fun j p hj => by omega), fun p hp _ => h p hp⟩
theorem Inv.bad {l bs : List Int} {i : Nat} (h : Inv l i bs) (hi : i < l.length) (hz : l.getD i 0 < 0 ∨ (l.length : Int) ≤ l.getD i 0 ∨ 0 ≤ bs.getD (l.getD i 0).toNat 0) : ordB l = false ∧ invI l = [] := by
  have : ordB l = false := by
    rw [Bool.eq_false_iff]
    intro ho
    have hm := (ordB_mem ho).1 (getI_mem hi)
    rcases hz with hz | hz | hz
    · omega
    · omega
    · obtain ⟨p, hp⟩ : ∃ p : Nat, l.getD i 0 = (p : Int) := ⟨(l.getD i 0).toNat, by omega⟩
      rw [hp, Int.toNat_natCast] at hz
      by_cases hin : (p : Int) ∈ l.take i
      · have hd : (l.take (i + 1)).Nodup := List.Pairwise.sublist (List.take_sublist _ _) (ordB_nodup ho)
        rw [takeI_succ hi, List.nodup_append] at hd
        exact hd.2.2 _ hin _ (List.mem_singleton.2 rfl) hp.symm
      · rw [h.none p (by omega) hin] at hz
        omega
  exact ⟨this, invI_no this⟩
theorem Inv.next {l bs : List Int} {i p : Nat} (h : Inv l i bs) (hi : i < l.length) (hp : l.getD i 0 = (p : Int)) (hpn : p < l.length) (hb : bs.getD p 0 < 0) : Inv l (i + 1) (bs.set p (i : Int)) := by
  have hnot : (p : Int) ∉ l.take i := fun hm => by
    obtain ⟨j, hj, e⟩ := mem_getI hm
    rw [List.length_take] at hj
    have e2 : (l.take i).getD j 0 = l.getD j 0 := by
      simp only [List.getD_eq_getElem?_getD, List.getElem?_take]
      rw [if_pos (by omega)]
    rw [e2] at e
    have := h.at' j p (by omega) (by omega) e
    omega
  refine ⟨by rw [List.length_set]; exact h.len, ?_, fun z hz => ?_, fun j q hj hjl hq => ?_, fun q hq hnq => ?_⟩
  · rw [takeI_succ hi, hp]
    refine List.nodup_append.2 ⟨h.nodup, by simp, fun a ha c hc e => ?_⟩
    simp only [List.mem_singleton] at hc
    exact hnot (by rw [← hc, ← e]; exact ha)
  · rw [takeI_succ hi, hp] at hz
    rcases List.mem_append.1 hz with h1 | h1
    · exact h.good z h1
    · simp only [List.mem_singleton] at h1
      omega
  · by_cases e : j = i
    · subst e
      have : q = p := by omega
      subst this
      rw [setI_same (by rw [h.len]; exact hpn)]
    · have hqp : p ≠ q := fun e2 => by
        subst e2
        refine hnot ?_
        rw [← hq]
        have : (l.take i).getD j 0 = l.getD j 0 := by
          simp only [List.getD_eq_getElem?_getD, List.getElem?_take]
          rw [if_pos (by omega)]
        rw [← this]
        exact getI_mem (by rw [List.length_take]; omega)
      rw [setI_other hqp]
      exact h.at' j q (by omega) hjl hq
  · rw [takeI_succ hi, hp, List.mem_append, List.mem_singleton] at hnq
    rw [setI_other (fun e => hnq (.inr (by rw [e])))]
    exact h.none q hq (fun e => hnq (.inl e))
theorem Inv.done {l bs : List Int} (h : Inv l l.length bs) : ordB l = true ∧ invI l = bs := by
  have h1 := h.nodup
  have h2 := h.good
  rw [List.take_length] at h1 h2
  have ho : ordB l = true := by
    rw [ordB_iff]
    refine nodup_perm h1 (fun z hz => natL_mem.2 ?_) (by rw [natL_len, List.length_range]; exact Nat.le_refl _)
    have := h2 z hz
    exact ⟨z.toNat, List.mem_range.2 (by omega), by omega⟩
  exact ⟨ho, (invI_eq ho h.len fun i p hi hp => h.at' i p hi hi hp).symm⟩
end Go.Proofs.YtlmbdafilboblaaGreat
