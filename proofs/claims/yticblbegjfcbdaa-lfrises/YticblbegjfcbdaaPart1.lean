/- Texts laid together: Krip, Lib, LexMath, RepMath, CsMath, BktMath, OrdMath, OrdMore, PermMath, RankMath, BwtMath, BwtMore, InvMath, KasMath, BwtMath2, BwCnt, But, Byt, LfUp, Ints, NatRow, BktFit, BktCounts, BktStarts. -/
import Derived.Deep.Quiet
import Derived.WalkKit
import Derived.ProofKit
import Derived.WalkLawsBesides
import Derived.WalkSpells
import Derived.Laws.BytesArg
import Derived.OpenShut
import Derived.Laws.AppendOwnNone
import Derived.Laws.BitsAllLaws
import Derived.BigQuiet
import Derived.Deep.QuietTactic
import Derived.Lib.Bytealg
import Derived.Lib.BytesEntry
import Derived.Laws.Pointers
import Derived.Test.YticblbegjfcbdaaRows
import Derived.Laws.OwnMore
/- A region that draws its order, whose operations leave all old memory as it was and may make new memory: one walk in the order of the text serves every order. Over any program; no conditions. -/
namespace Go.Proofs.Yticblbegjfcbdaa
set_option linter.unusedVariables false
set_option linter.unusedSimpArgs false
open Go.RowKit

/-- All that there was is as it was; there may be more. -/
def Ext (w w' : World) : Prop := Below w.heap.size w w'
theorem Ext.refl (w : World) : Ext w w := Below.refl _ _
theorem Ext.trans {a b c : World} (h : Ext a b) (k : Ext b c) : Ext a c := Below.trans h (Below.mono k h.size)
theorem Ext.drawn (w : World) : Ext w { w with drawn := w.drawn + 1 } := ⟨rfl, rfl, rfl, Nat.le_refl _, fun _ _ => rfl⟩

/-- What is known of a slot's value, in a world. -/
abbrev Facts := Tmp → World → Prop
def Facts.add (F : Facts) (d : Option Tmp) (G : World → Prop) : Facts := fun t w => F t w ∧ (d = some t → G w)
def UpW (G : World → Prop) : Prop := ∀ w w', Ext w w' → G w → G w'

section
variable {P : Program} {ops : Array Oper} {md : Region.Mode} {S : FuncId → Array Value → Value → World → Prop} {w0 : World} {Q : Act → Facts → Prop}

def kUpon (P : Program) (S : FuncId → Array Value → Value → World → Prop) (w : World) (R : Value → World → Prop) : Result Next → Prop
  | .ok (.value u) w' => Ext w w' ∧ R u w'
  | .ok .skip w' => Ext w w' ∧ R undef w'
  | .ok (.enter f args) w' => Ext w w' ∧ Calls P f args w' (fun e w'' => ∃ v, e = .returned v ∧ Ext w' w'' ∧ S f args v w'') ∧ (∀ v w'', S f args v w'' → R v w'')
  | _ => False

/-- From w0 on, whatever else has come: the operation yields a value of which R holds. -/
def KY (P : Program) (ops : Array Oper) (S : FuncId → Array Value → Value → World → Prop) (w0 : World) (o : Oper) (a : Act) (F : Facts) (R : Value → World → Prop) : Prop :=
  (∀ v, UpW (R v)) ∧
  ((Region.wanted o (yielded ops a.tmps) = true ∧ ∀ w, Ext w0 w → (∀ t ∈ o.looksAt ops, F t w) → kUpon P S w R ((execOp a.eval o).run P w)) ∨
   (Region.wanted o (yielded ops a.tmps) = false ∧ R = fun v _ => v = undef))

def kStep (P : Program) (ops : Array Oper) (S : FuncId → Array Value → Value → World → Prop) (w0 : World) (o : Oper) (a : Act) (F : Facts) (K : Act → Facts → Prop) : Prop :=
  ∃ R, KY P ops S w0 o a F R ∧ ∀ v, (∃ w, Ext w0 w ∧ (∀ t, F t w) ∧ R v w) → K (a.put o.dst v) (F.add o.dst (R v))

def lexK (P : Program) (ops : Array Oper) (S : FuncId → Array Value → Value → World → Prop) (w0 : World) (Q : Act → Facts → Prop) : List Oper → Act → Facts → Prop
  | [], a, F => Q a F
  | o :: rest, a, F => kStep P ops S w0 o a F (lexK P ops S w0 Q rest)

def kOp (P : Program) (ops : Array Oper) (S : FuncId → Array Value → Value → World → Prop) (w0 : World) (i : Nat) (K : Act → Facts → Prop) (a : Act) (F : Facts) : Prop :=
  match ops[i]? with
  | none => K a F
  | some o => kStep P ops S w0 o a F K

def anyK (P : Program) (md : Region.Mode) (ops : Array Oper) (S : FuncId → Array Value → Value → World → Prop) (w0 : World) (Q : Act → Facts → Prop) : Nat → Array Bool → Act → Facts → Prop
  | 0, listed, a, F => Region.ready md ops listed = [] ∧ Q a F
  | fuel + 1, listed, a, F =>
    (Region.ready md ops listed = [] → Q a F) ∧
    ∀ i ∈ Region.ready md ops listed, kOp P ops S w0 i (anyK P md ops S w0 Q fuel (listed.setIfInBounds i true)) a F

theorem Facts.add_anti {F F' : Facts} (h : ∀ t w, F' t w → F t w) {G G' : World → Prop} (hG : ∀ w, G' w → G w) (d : Option Tmp) : ∀ t w, F'.add d G' t w → F.add d G t w :=
  fun t w hh => ⟨h t w hh.1, fun e => hG w (hh.2 e)⟩

theorem KY.anti {o : Oper} {a : Act} {F F' : Facts} (h : ∀ t w, F' t w → F t w) {R : Value → World → Prop} (hy : KY P ops S w0 o a F R) : KY P ops S w0 o a F' R := by
  refine ⟨hy.1, ?_⟩
  rcases hy.2 with ⟨hw, hk⟩ | hn
  · exact .inl ⟨hw, fun w he hf => hk w he fun t ht => h t w (hf t ht)⟩
  · exact .inr hn

theorem kStep_anti {o : Oper} {a : Act} {F F' : Facts} {K K' : Act → Facts → Prop} (hK : ∀ a F F', (∀ t w, F' t w → F t w) → K a F → K' a F') (h : ∀ t w, F' t w → F t w)
    (hh : kStep P ops S w0 o a F K) : kStep P ops S w0 o a F' K' := by
  obtain ⟨R, hy, hn⟩ := hh
  exact ⟨R, hy.anti h, fun v ⟨w, he, hf, hr⟩ => hK _ _ _ (Facts.add_anti h (fun _ x => x) _) (hn v ⟨w, he, fun t => h t w (hf t), hr⟩)⟩

theorem kOp_anti {i : Nat} {a : Act} {F F' : Facts} {K K' : Act → Facts → Prop} (hK : ∀ a F F', (∀ t w, F' t w → F t w) → K a F → K' a F') (h : ∀ t w, F' t w → F t w)
    (hh : kOp P ops S w0 i K a F) : kOp P ops S w0 i K' a F' := by
  unfold kOp at *
  cases ho : ops[i]? with
  | none => simp only [ho] at hh ⊢; exact hK _ _ _ h hh
  | some o => simp only [ho] at hh ⊢; exact kStep_anti hK h hh

theorem anyK_anti (hQ : ∀ a F F', (∀ t w, F' t w → F t w) → Q a F → Q a F') : ∀ (fuel : Nat) (listed : Array Bool) (a : Act) (F F' : Facts), (∀ t w, F' t w → F t w) →
    anyK P md ops S w0 Q fuel listed a F → anyK P md ops S w0 Q fuel listed a F'
  | 0, _, _, _, _, h, hh => ⟨hh.1, hQ _ _ _ h hh.2⟩
  | fuel + 1, _, _, _, _, h, hh => ⟨fun e => hQ _ _ _ h (hh.1 e), fun i hi => kOp_anti (fun a F F' h => anyK_anti hQ fuel _ a F F' h) h (hh.2 i hi)⟩

theorem wpAny_of_anyK {Q' : Exit → Act → World → Prop} (hQ : ∀ a F w, Ext w0 w → (∀ t, F t w) → Q a F → Q' .normal a w) : ∀ (fuel : Nat) (listed : Array Bool) (a : Act) (F : Facts) (w : World),
    Ext w0 w → (∀ t, UpW (F t)) → (∀ t, F t w) → anyK P md ops S w0 Q fuel listed a F → wpAny P md ops Q' fuel listed a w
  | 0, _, _, _, _, he, _, hf, h => ⟨h.1, hQ _ _ _ he hf h.2⟩
  | fuel + 1, listed, a, F, w, he, hup, hf, h => by
    refine ⟨fun e => hQ _ _ _ he hf (h.1 e), fun i hi => ?_⟩
    have h1 := h.2 i hi
    unfold kOp at h1
    unfold wpOp
    cases ho : ops[i]? with
    | none => simp only [ho] at h1 ⊢; exact wpAny_of_anyK hQ fuel _ _ _ _ he hup hf h1
    | some o =>
      simp only [ho] at h1 ⊢
      obtain ⟨R, ⟨hR, hy⟩, hn⟩ := h1
      have go : ∀ v w', Ext w w' → R v w' → wpAny P md ops Q' fuel (listed.setIfInBounds i true) (a.put o.dst v) w' := fun v w' hx hr =>
        wpAny_of_anyK hQ fuel _ _ _ _ (he.trans hx) (fun t w1 w2 h12 hh => ⟨hup t w1 w2 h12 hh.1, fun e => hR v w1 w2 h12 (hh.2 e)⟩) (fun t => ⟨hup t w w' hx (hf t), fun _ => hr⟩)
          (hn v ⟨w', he.trans hx, fun t => hup t w w' hx (hf t), hr⟩)
      rcases hy with ⟨hw, hk⟩ | ⟨hw, rfl⟩
      · rw [if_pos hw]
        refine .inl ?_
        have h2 := hk w he fun t _ => hf t
        unfold Oper.wp
        generalize (execOp a.eval o).run P w = r at *
        cases r with
        | ok n w' =>
          cases n <;> simp only [kUpon] at h2 <;> simp only [Oper.upon]
          case value u => exact go _ _ h2.1 h2.2
          case skip => exact go _ _ h2.1 h2.2
          case enter f args =>
            obtain ⟨h3, h4, h5⟩ := h2
            exact h4.mono fun e w'' ⟨v, hv, h6, h7⟩ => by subst hv; exact go _ _ (h3.trans h6) (h5 _ _ h7)
        | halt x w' => simp only [kUpon] at h2
      · rw [if_neg (by rw [hw]; exact Bool.false_ne_true)]
        exact go _ _ (Ext.refl _) rfl

theorem kUpon_all {ι : Type} (i0 : ι) {w : World} {R : ι → Value → World → Prop} {r : Result Next} (h : ∀ i, kUpon P S w (R i) r) : kUpon P S w (fun v w' => ∀ i, R i v w') r := by
  cases r with
  | halt x w' => exact (h i0).elim
  | ok n w' =>
    cases n with
    | value u => exact ⟨(h i0).1, fun i => (h i).2⟩
    | skip => exact ⟨(h i0).1, fun i => (h i).2⟩
    | enter f args => exact ⟨(h i0).1, (h i0).2.1, fun v w'' hs i => (h i).2.2 v w'' hs⟩
    | _ => exact (h i0).elim

theorem KY.of_same {o : Oper} {a a' : Act} {F F' : Facts} {R : Value → World → Prop} (hy : KY P ops S w0 o a F R) (hF : ∀ w, ∀ t ∈ o.looksAt ops, F' t w → F t w) (he : execOp a'.eval o = execOp a.eval o)
    (hw : Region.wanted o (yielded ops a'.tmps) = Region.wanted o (yielded ops a.tmps)) : KY P ops S w0 o a' F' R := by
  refine ⟨hy.1, ?_⟩
  rw [he, hw]
  rcases hy.2 with ⟨h1, h2⟩ | h1
  · exact .inl ⟨h1, fun w hx hf => h2 w hx fun t ht => hF w t ht (hf t ht)⟩
  · exact .inr h1

/-- In a world where all facts hold the operation yields some value. -/
theorem KY.some {o : Oper} {a : Act} {F : Facts} {R : Value → World → Prop} (hy : KY P ops S w0 o a F R) (hup : ∀ t, UpW (F t)) {w : World} (he : Ext w0 w) (hf : ∀ t, F t w) : ∃ v w', Ext w0 w' ∧ (∀ t, F t w') ∧ R v w' := by
  rcases hy.2 with ⟨_, h2⟩ | ⟨_, rfl⟩
  · have h3 := h2 w he fun t _ => hf t
    generalize (execOp a.eval o).run P w = r at *
    cases r with
    | halt x w' => exact h3.elim
    | ok n w' =>
      cases n with
      | value u => exact ⟨u, w', he.trans h3.1, fun t => hup t _ _ h3.1 (hf t), h3.2⟩
      | skip => exact ⟨undef, w', he.trans h3.1, fun t => hup t _ _ h3.1 (hf t), h3.2⟩
      | enter f args =>
        obtain ⟨h4, h5, h6⟩ := h3
        obtain ⟨e, w'', _, ⟨v, _, h7, h8⟩, _⟩ := h5 []
        exact ⟨v, w'', he.trans (h4.trans h7), fun t => hup t _ _ (h4.trans h7) (hf t), h6 _ _ h8⟩
      | _ => exact h3.elim
  · exact ⟨undef, w, he, hf, rfl⟩

theorem anyK_first (hQ : ∀ a F F', (∀ t w, F' t w → F t w) → Q a F → Q a F') {i : Nat} {oi : Oper} (hi : ops[i]? = some oi) (hsel : ∀ (j : Nat) (o : Oper) cs b, ops[j]? = some o → o.op ≠ .select cs b)
    (hdst : ∀ (j : Nat) (o : Oper), ops[j]? = some o → ∃ d, o.dst = Option.some d) :
    ∀ (fuel : Nat) (listed : Array Bool) (a : Act) (F : Facts) (R : Value → World → Prop),
      (∀ j oj, ops[j]? = some oj → j ≠ i → listed.getD j true = false → (∀ e ∈ oj.after, Region.binds md e = true → e.on ≠ i) → oi.apart ops oj = true) →
      i ∈ Region.ready md ops listed → KY P ops S w0 oi a F R → (∀ t, UpW (F t)) → (∃ w, Ext w0 w ∧ ∀ t, F t w) →
      (∀ v, (∃ w, Ext w0 w ∧ (∀ t, F t w) ∧ R v w) → anyK P md ops S w0 Q fuel (listed.setIfInBounds i true) (a.put oi.dst v) (F.add oi.dst (R v))) →
      anyK P md ops S w0 Q (fuel + 1) listed a F := by
  intro fuel
  induction fuel with
  | zero =>
    intro listed a F R _ hr hy hup ⟨w, hw, hf⟩ H
    refine ⟨fun h => (by rw [h] at hr; cases hr), fun j hj => ?_⟩
    by_cases hji : j = i
    · subst hji; unfold kOp; simp only [hi]; exact ⟨R, hy, H⟩
    · obtain ⟨v, w', h1, h2, h3⟩ := hy.some hup hw hf
      have := ready_mono hj hji
      rw [(H v ⟨w', h1, h2, h3⟩).1] at this
      cases this
  | succ fuel ih =>
    intro listed a F R hfree hr hy hup ⟨w, hw, hf⟩ H
    refine ⟨fun h => (by rw [h] at hr; cases hr), fun j hj => ?_⟩
    by_cases hji : j = i
    · subst hji; unfold kOp; simp only [hi]; exact ⟨R, hy, H⟩
    · obtain ⟨hjun, oj, hoj, hall⟩ := mem_ready.1 hj
      have hnot : ∀ e ∈ oj.after, Region.binds md e = true → e.on ≠ i := fun e he hb heq => by
        have h1 := hall e he hb
        have h0 := (mem_ready.1 hr).1
        rw [heq] at h1
        rcases Nat.lt_or_ge i listed.size with h' | h'
        · simp [h'] at h0 h1; rw [h0] at h1; cases h1
        · simp [Array.getElem?_eq_none h'] at h1
      have hap := hfree j oj hoj hji hjun hnot
      obtain ⟨p1, p2, p3⟩ := Oper.apart_spec hap
      have hsi : ∀ cs b, oi.op ≠ .select cs b := fun cs b => hsel i oi cs b hi
      have hsj : ∀ cs b, oj.op ≠ .select cs b := fun cs b => hsel j oj cs b hoj
      -- what each value of 'oi' says of 'oj'
      have H1 : ∀ v : { v // ∃ w, Ext w0 w ∧ (∀ t, F t w) ∧ R v w }, kStep P ops S w0 oj (a.put oi.dst v.1) (F.add oi.dst (R v.1)) (anyK P md ops S w0 Q fuel ((listed.setIfInBounds i true).setIfInBounds j true)) := fun v => by
        have h1 := (H v.1 v.2).2 j (ready_mono hj hji)
        unfold kOp at h1
        simpa only [hoj] using h1
      obtain ⟨v0, w', e1, e2, e3⟩ := hy.some hup hw hf
      let i0 : { v // ∃ w, Ext w0 w ∧ (∀ t, F t w) ∧ R v w } := ⟨v0, w', e1, e2, e3⟩
      let Rj : { v // ∃ w, Ext w0 w ∧ (∀ t, F t w) ∧ R v w } → Value → World → Prop := fun v => Classical.choose (H1 v)
      have HRj : ∀ v, KY P ops S w0 oj (a.put oi.dst v.1) (F.add oi.dst (R v.1)) (Rj v) ∧ ∀ u, (∃ w, Ext w0 w ∧ (∀ t, (F.add oi.dst (R v.1)) t w) ∧ Rj v u w) →
          anyK P md ops S w0 Q fuel ((listed.setIfInBounds i true).setIfInBounds j true) ((a.put oi.dst v.1).put oj.dst u) ((F.add oi.dst (R v.1)).add oj.dst (Rj v u)) := fun v => Classical.choose_spec (H1 v)
      have hyj : ∀ v, KY P ops S w0 oj a F (Rj v) := fun v => (HRj v).1.of_same (fun w t ht hft => ⟨hft, fun e => absurd ht (p1 t e)⟩) (execOp_put oj hsj a oi.dst v.1 p1).symm (wanted_put oj a oi.dst v.1 p1).symm
      unfold kOp
      simp only [hoj]
      refine ⟨fun u w => ∀ v, Rj v u w, ⟨fun u w1 w2 h12 hh v => (hyj v).1 u w1 w2 h12 (hh v), ?_⟩, fun u hu => ?_⟩
      · by_cases hwant : Region.wanted oj (yielded ops a.tmps) = true
        · refine .inl ⟨hwant, fun w1 hx hf1 => kUpon_all i0 fun v => ?_⟩
          rcases (hyj v).2 with ⟨_, h2⟩ | ⟨h2, _⟩
          · exact h2 w1 hx hf1
          · rw [hwant] at h2; cases h2
        · have hwf : Region.wanted oj (yielded ops a.tmps) = false := by simpa using hwant
          refine .inr ⟨hwf, ?_⟩
          funext u w1
          have : ∀ v, Rj v = fun v _ => v = undef := fun v => by
            rcases (hyj v).2 with ⟨h2, _⟩ | ⟨_, h2⟩
            · rw [hwf] at h2; cases h2
            · exact h2
          simp only [this, eq_iff_iff]
          exact ⟨fun h => h i0, fun h _ => h⟩
      · obtain ⟨w1, f1, f2, f3⟩ := hu
        have hfree' : ∀ k ok, ops[k]? = some ok → k ≠ i → (listed.setIfInBounds j true).getD k true = false →
            (∀ e ∈ ok.after, Region.binds md e = true → e.on ≠ i) → oi.apart ops ok = true := fun k ok hk hki hun hno => by
          refine hfree k ok hk hki ?_ hno
          by_cases hjk : j = k
          · subst hjk; exact hjun
          · rw [getD_set_ne true hjk] at hun; exact hun
        refine ih (listed.setIfInBounds j true) (a.put oj.dst u) (F.add oj.dst fun w => ∀ v, Rj v u w) R hfree' (ready_mono hr (Ne.symm hji)) ?_ ?_ ⟨w1, f1, fun t => ⟨f2 t, fun _ => f3⟩⟩ ?_
        · exact hy.of_same (fun w t ht hft => hft.1) (execOp_put oi hsi a oj.dst u p3) (wanted_put oi a oj.dst u p3)
        · exact fun t w2 w3 h23 hh => ⟨hup t w2 w3 h23 hh.1, fun e v => (hyj v).1 u w2 w3 h23 (hh.2 e v)⟩
        · intro v ⟨w2, g1, g2, g3⟩
          have hv : ∃ w, Ext w0 w ∧ (∀ t, F t w) ∧ R v w := ⟨w2, g1, fun t => (g2 t).1, g3⟩
          obtain ⟨d, hd⟩ := hdst j oj hoj
          have h3 := (HRj ⟨v, hv⟩).2 u ⟨w2, g1, fun t => ⟨(g2 t).1, fun _ => g3⟩, (g2 d).2 hd ⟨v, hv⟩⟩
          rw [Array.setIfInBounds_comm _ _ (Ne.symm hji), Act.put_comm a v u p2] at h3
          refine anyK_anti hQ _ _ _ _ _ ?_ h3
          intro t w3 hh
          exact ⟨⟨hh.1.1, hh.2⟩, fun e => hh.1.2 e ⟨v, hv⟩⟩

theorem anyK_lex (hQ : ∀ a F F', (∀ t w, F' t w → F t w) → Q a F → Q a F') (hs : Region.noSelect ops = true) (hdst : ∀ (j : Nat) (o : Oper), ops[j]? = some o → ∃ d, o.dst = Option.some d) :
    ∀ (l : List Oper) (k : Nat) (listed : Array Bool) (a : Act) (F : Facts), (∀ j, l[j]? = ops[k + j]?) → Region.lexFrom md ops l.length k listed = true → (∀ t, UpW (F t)) → (∃ w, Ext w0 w ∧ ∀ t, F t w) →
      lexK P ops S w0 Q l a F → anyK P md ops S w0 Q l.length listed a F
  | [], _, _, _, _, _, hB, _, _, h => ⟨by simpa [Region.lexFrom] using hB, h⟩
  | o :: l, k, listed, a, F, hl, hB, hup, hcon, h => by
    have h0 : ops[k]? = Option.some o := by simpa using (hl 0).symm
    simp only [List.length_cons, Region.lexFrom, Bool.and_eq_true] at hB
    obtain ⟨⟨hr, hf⟩, hB'⟩ := hB
    obtain ⟨R, hy, hn⟩ := h
    refine anyK_first hQ h0 (Region.noSelect_spec hs) hdst l.length listed a F R (Region.free_spec h0 hf) (by simpa using hr) hy hup hcon fun v ⟨w, g1, g2, g3⟩ => ?_
    refine anyK_lex hQ hs hdst l (k + 1) _ _ _ (fun j => by have := hl (j + 1); simpa [Nat.add_assoc, Nat.add_comm 1 j] using this) hB' ?_ ⟨w, g1, fun t => ⟨g2 t, fun _ => g3⟩⟩ (hn v ⟨w, g1, g2, g3⟩)
    exact fun t w2 w3 h23 hh => ⟨hup t w2 w3 h23 hh.1, fun e => hy.1 v w2 w3 h23 (hh.2 e)⟩

/-- What stands behind a region. -/
def endK (Q' : Exit → Act → World → Prop) (w : World) (a' : Act) (F : Facts) : Prop := ∀ w', Ext w w' → (∀ t, F t w') → Q' .normal a' w'

/-- ONE WALK IN THE ORDER OF THE TEXT: what stands behind is asked in every later world in which the facts hold. -/
theorem wp_region_k (S : FuncId → Array Value → Value → World → Prop) {id : Nat} {Q' : Exit → Act → World → Prop} {a : Act} {w : World} {l : List Oper} (hm : P.follows .mixedOrders = true)
    (hB : Region.lexB .any l.toArray = true) (hd : l.all (fun o => o.dst.isSome) = true)
    (h : lexK P l.toArray S w (endK Q' w) l a (fun _ _ => True)) : (Code.region id l.toArray true).wp P Q' a w := by
  simp only [Region.lexB, Bool.and_eq_true] at hB
  refine wp_region_any hm (wpAny_of_anyK (w0 := w) (Q := fun a' F => ∀ w', Ext w w' → (∀ t, F t w') → Q' .normal a' w') (S := S) (fun a F w' he hf hq => hq w' he hf) _ _ _ (fun _ _ => True) _ (Ext.drawn w) (fun _ _ _ _ _ => trivial) (fun _ => trivial) ?_)
  have hdst : ∀ (j : Nat) (o : Oper), l.toArray[j]? = Option.some o → ∃ d, o.dst = Option.some d := fun j o ho => by
    have := List.all_eq_true.1 hd o (by simpa using Array.mem_of_getElem? ho)
    exact Option.isSome_iff_exists.1 this
  have := anyK_lex (P := P) (S := S) (w0 := w) (md := .any) (Q := fun a' F => ∀ w', Ext w w' → (∀ t, F t w') → Q' .normal a' w') (fun a F F' hx hq w' he hf => hq w' he fun t => hx t w' (hf t)) hB.1 hdst l 0 (Array.replicate l.toArray.size false) a (fun _ _ => True)
    (by simp) (by simpa using hB.2) (fun _ _ _ _ _ => trivial) ⟨w, Ext.refl _, fun _ => trivial⟩ h
  simpa using this

theorem lexK_anti (hQ : ∀ a F F', (∀ t w, F' t w → F t w) → Q a F → Q a F') : ∀ (l : List Oper) (a : Act) (F F' : Facts), (∀ t w, F' t w → F t w) → lexK P ops S w0 Q l a F → lexK P ops S w0 Q l a F'
  | [], _, _, _, h, hh => hQ _ _ _ h hh
  | _ :: l, _, _, _, h, hh => kStep_anti (fun a F F' h => lexK_anti hQ l a F F' h) h hh

theorem endK_anti {Q' : Exit → Act → World → Prop} (a : Act) (F F' : Facts) (h : ∀ t w, F' t w → F t w) (hh : endK Q' w0 a F) : endK Q' w0 a F' :=
  fun w' he hf => hh w' he fun t => h t w' (hf t)

/-- A world later than w0. -/
structure Later (w0 : World) where
  val : World
  ext : Ext w0 val

/-- One of the operations that only read or reckon. -/
def plainOp (o : Oper) : Bool :=
  match o.op with
  | .move _ | .assign _ | .pick .. | .load .. | .binOp .. | .unOp .. | .convert .. | .slice .. | .fieldAddr .. | .field .. | .indexAddr .. | .index .. | .extract .. | .lookup .. | .nilCheck .. => true
  | .call c => (match c.callee with | .builtin .len => true | .builtin .cap => true | .builtin .min => true | .builtin .max => true | _ => false)
  | _ => false

variable {Q' : Exit → Act → World → Prop}

/-- One operation whose value is known. -/
theorem lexK_val {o : Oper} {rest : List Oper} {a : Act} {F : Facts} (u : Value) (hw : Region.wanted o (yielded ops a.tmps) = true)
    (hrun : ∀ w, Ext w0 w → (∀ t ∈ o.looksAt ops, F t w) → (execOp a.eval o).run P w = .ok (.value u) w)
    (hn : lexK P ops S w0 (endK Q' w0) rest (a.put o.dst u) F) : lexK P ops S w0 (endK Q' w0) (o :: rest) a F := by
  refine ⟨fun v _ => v = u, ⟨fun _ _ _ _ h => h, .inl ⟨hw, fun w he hf => by rw [hrun w he hf]; exact ⟨Ext.refl _, rfl⟩⟩⟩, ?_⟩
  rintro v ⟨_, _, _, rfl⟩
  exact lexK_anti endK_anti _ _ _ _ (fun _ _ h => h.1) hn

theorem lexK_skip {o : Oper} {rest : List Oper} {a : Act} {F : Facts} (hw : Region.wanted o (yielded ops a.tmps) = false)
    (hn : lexK P ops S w0 (endK Q' w0) rest (a.put o.dst undef) F) : lexK P ops S w0 (endK Q' w0) (o :: rest) a F := by
  refine ⟨fun v _ => v = undef, ⟨fun _ _ _ _ h => h, .inr ⟨hw, rfl⟩⟩, ?_⟩
  rintro v ⟨_, _, _, rfl⟩
  exact lexK_anti endK_anti _ _ _ _ (fun _ _ h => h.1) hn

/-- One operation that leaves something of which R holds. -/
theorem lexK_some {o : Oper} {rest : List Oper} {a : Act} {F : Facts} (R : Value → World → Prop) (hR : ∀ v, UpW (R v)) (hw : Region.wanted o (yielded ops a.tmps) = true)
    (hrun : ∀ w, Ext w0 w → (∀ t ∈ o.looksAt ops, F t w) → ∃ u w', (execOp a.eval o).run P w = .ok (.value u) w' ∧ Ext w w' ∧ R u w')
    (hn : ∀ v w, Ext w0 w → (∀ t, F t w) → R v w → lexK P ops S w0 (endK Q' w0) rest (a.put o.dst v) (F.add o.dst (R v))) : lexK P ops S w0 (endK Q' w0) (o :: rest) a F := by
  refine ⟨R, ⟨hR, .inl ⟨hw, fun w he hf => ?_⟩⟩, fun v ⟨w, h1, h2, h3⟩ => hn v w h1 h2 h3⟩
  obtain ⟨u, w', h1, h2, h3⟩ := hrun w he hf
  rw [h1]
  exact ⟨h2, h3⟩

/-- A call of a Go function. -/
theorem lexK_call {o : Oper} {rest : List Oper} {a : Act} {F : Facts} (f : FuncId) (args : Array Value) (hS : ∀ v, UpW (S f args v)) (hw : Region.wanted o (yielded ops a.tmps) = true)
    (hrun : ∀ w, (execOp a.eval o).run P w = .ok (.enter f args) w)
    (hc : ∀ w, Ext w0 w → (∀ t ∈ o.looksAt ops, F t w) → Calls P f args w fun e w'' => ∃ v, e = .returned v ∧ Ext w w'' ∧ S f args v w'')
    (hn : ∀ v w, Ext w0 w → (∀ t, F t w) → S f args v w → lexK P ops S w0 (endK Q' w0) rest (a.put o.dst v) (F.add o.dst (S f args v))) : lexK P ops S w0 (endK Q' w0) (o :: rest) a F := by
  refine ⟨S f args, ⟨hS, .inl ⟨hw, fun w he hf => ?_⟩⟩, fun v ⟨w, h1, h2, h3⟩ => hn v w h1 h2 h3⟩
  rw [hrun w]
  exact ⟨Ext.refl _, hc w he hf, fun _ _ h => h⟩

/-- A call of a Go function that hands back one known value. -/
theorem lexK_call1 {o : Oper} {rest : List Oper} {a : Act} {F : Facts} (f : FuncId) (args : Array Value) (u : Value) (hS : ∀ v w, S f args v w ↔ v = u) (hw : Region.wanted o (yielded ops a.tmps) = true)
    (hrun : ∀ w, (execOp a.eval o).run P w = .ok (.enter f args) w)
    (hc : ∀ w, Ext w0 w → (∀ t ∈ o.looksAt ops, F t w) → Calls P f args w fun e w'' => e = .returned u ∧ Ext w w'')
    (hn : lexK P ops S w0 (endK Q' w0) rest (a.put o.dst u) F) : lexK P ops S w0 (endK Q' w0) (o :: rest) a F := by
  refine lexK_call f args (fun v w w' _ h => (hS v w').2 ((hS v w).1 h)) hw hrun (fun w he hf => (hc w he hf).mono fun e w'' ⟨h1, h2⟩ => ⟨u, h1, h2, (hS u w'').2 rfl⟩) ?_
  intro v w _ _ h
  rw [(hS v w).1 h]
  exact lexK_anti endK_anti _ _ _ _ (fun _ _ h => h.1) hn

theorem bind_value_ne {s : Sem Value} {w w' : World} {f : FuncId} {args : Array Value} : (do pure (Next.value (← s)) : Sem Next).run P w ≠ .ok (.enter f args) w' := by
  simp only [Sem.run_bind]
  cases s.run P w with
  | ok a w1 => simp [Result.andThen]
  | halt x w1 => simp [Result.andThen]

theorem andThen_ne {α β : Type} {r : Result α} {g : α → World → Result β} {b : β} {w' : World} (h : ∀ a w1, g a w1 ≠ .ok b w') : r.andThen g ≠ .ok b w' := by
  cases r with
  | ok a w1 => exact h a w1
  | halt x w1 => simp [Result.andThen]

theorem run_value_of_plain {o : Oper} {ρ : Operand → Value} {w w' : World} {f : FuncId} {args : Array Value} (h : plainOp o = true) : (execOp ρ o).run P w ≠ .ok (.enter f args) w' := by
  unfold plainOp at h
  unfold execOp
  cases ho : o.op <;> simp only [ho] at h <;> simp only [] <;> first | exact bind_value_ne | (simp; done) | skip
  case call c =>
    cases hc : c.callee <;> simp only [hc] at h
    case builtin b =>
      simp only [resolve, hc, invoke]
      cases b <;> simp at h <;> simp only [builtin] <;> exact bind_value_ne
    all_goals simp at h
  case pick c a b =>
    simp only [Sem.run_bind]
    cases (asBool (ρ c)).run P w with
    | ok a w1 => simp [Result.andThen]
    | halt x w1 => simp [Result.andThen]
  case nilCheck x =>
    have hp : (runtimePanic (α := Next) .nilDeref).run P w ≠ .ok (.enter f args) w' := by simp [runtimePanic, goPanic]
    split
    · exact hp
    · exact hp
    · exact hp
    · split
      · exact hp
      · simp only [Sem.run_bind]
        refine andThen_ne fun a1 w1 => andThen_ne fun a2 w2 => ?_
        split
        · simp [unsupported]
        · simp
      · simp
    · simp
  all_goals simp at h

/-- So many operations that only read: the kit's quiet walk, over all later worlds. -/
theorem lexK_quiet {F : Facts} : ∀ (l rest : List Oper) (a : Act), l.all plainOp = true →
    wpQuiet P ops (fun w' => ∃ l : Later w0, w' = l.val) (fun a' => lexK P ops S w0 (endK Q' w0) rest a' F) l a → lexK P ops S w0 (endK Q' w0) (l ++ rest) a F
  | [], _, _, _, h => h
  | o :: l, rest, a, hp, h => by
    simp only [List.all_cons, Bool.and_eq_true] at hp
    unfold wpQuiet at h
    split at h
    · rename_i hw
      obtain ⟨u, h1, h2⟩ := h
      refine ⟨fun v _ => v = u, ⟨fun _ _ _ _ h => h, .inl ⟨hw, fun w he hf => ?_⟩⟩, fun v ⟨_, _, _, hv⟩ => by subst hv; exact lexK_anti endK_anti _ _ _ _ (fun _ _ h => h.1) (lexK_quiet l rest _ hp.2 h2)⟩
      have h3 := h1 w ⟨⟨w, he⟩, rfl⟩
      unfold Oper.quietAt at h3
      have hne := fun f args w' => run_value_of_plain (P := P) (o := o) (ρ := a.eval) (w := w) (w' := w') (f := f) (args := args) hp.1
      generalize (execOp a.eval o).run P w = r at *
      cases r with
      | halt x w' => simp only [Oper.quietUpon] at h3
      | ok n w' =>
        cases n <;> simp only [Oper.quietUpon] at h3
        case value v => obtain ⟨rfl, rfl⟩ := h3; exact ⟨Ext.refl _, rfl⟩
        case skip => obtain ⟨rfl, rfl⟩ := h3; exact ⟨Ext.refl _, rfl⟩
        case enter f args => exact absurd rfl (hne f args w')
    · rename_i hw
      exact lexK_skip (by simpa using hw) (lexK_quiet l rest _ hp.2 h)

theorem lexK_take (n : Nat) {F : Facts} {l : List Oper} {a : Act} (hp : (l.take n).all plainOp = true)
    (h : wpQuiet P ops (fun w' => ∃ l : Later w0, w' = l.val) (fun a' => lexK P ops S w0 (endK Q' w0) (l.drop n) a' F) (l.take n) a) : lexK P ops S w0 (endK Q' w0) l a F := by
  have := lexK_quiet (l.take n) (l.drop n) a hp h
  rwa [List.take_append_drop] at this

theorem lexK_nil {F : Facts} {a : Act} (h : ∀ w', Ext w0 w' → (∀ t, F t w') → Q' .normal a w') : lexK P ops S w0 (endK Q' w0) [] a F := h

end

theorem later_some (w : World) : Nonempty (Later w) := ⟨⟨w, Ext.refl _⟩⟩
theorem later_cell {w : World} {a : Addr} {v : Value} (h : w.cell? a = some v) : ∀ l : Later w, l.val.cell? a = some v :=
  fun l => (Below.cell l.ext (World.block_lt_of_cell? _ _ h)).trans h
end Go.Proofs.Yticblbegjfcbdaa

/- Small laws over any program: rows of numbers that a call owns, and what lies below. No conditions. -/
namespace Go.Proofs.Yticblbegjfcbdaa
set_option linter.unusedVariables false
set_option linter.unusedSimpArgs false
open Go.RowKit

/-- The call's own row of numbers of kind k (element type e): the slice value s holds just zs, in blocks from B on. -/
def Own (k : IntKind) (e : TypeId) (B : Nat) (w : World) (s : Value) (zs : List Int) : Prop :=
  w.ownsRow B e 1 s zs.length (zs.map (Value.int k))

theorem Own.below {k : IntKind} {e : TypeId} {B : Nat} {w wr w1 : World} {s : Value} {zs : List Int} (h : Own k e B wr s zs) (hb : Below B w wr) (hB : B ≤ w.heap.size)
    {o : Obj} (hg : (wr.alloc o).grownBy w1 s.ownBlock) : Below B w w1 := by
  have hs := hb.size
  exact (hb.alloc (by omega) o).grown hg (by simp; omega) (fun k hk => (World.ownsRow.lt h k hk).1)

theorem Own.snoc {k : IntKind} {e : TypeId} {B : Nat} {w1 : World} {s' : Value} {zs : List Int} {z : Int}
    (h : w1.ownsRow B e 1 s' (zs.length + 1) (zs.map (Value.int k) ++ [Value.int k z])) : Own k e B w1 s' (zs ++ [z]) := by
  unfold Own
  simpa using h

theorem Own.nil (k : IntKind) (e : TypeId) (B : Nat) (w : World) : Own k e B w (.slice none 0 0) [] := World.ownsRow_nil _ _ _ _

theorem Own.made {k : IntKind} {e : TypeId} {B : Nat} {w : World} (cur : Array Value) (cap : Nat) (hb : B ≤ w.heap.size) (hm : cap ≤ maxLen) (hs : cur.size = cap) :
    Own k e B (w.alloc (.cells cur e)) (.slice (some ⟨w.heap.size, 0, none⟩) 0 cap) [] :=
  World.ownsRow_made w cur cap hb hm (by simpa using hs)

theorem one1 {k : IntKind} {z : Int} : ∀ u ∈ [Value.int k z], u.oneCell' = true := by
  intro u hu; simp at hu; subst hu; rfl

/-- 'append(s, x)', s the call's own. -/
theorem wpList_snoc {P : Program} (w : World) {ops : Array Oper} {rest : List Oper} {o : Oper} {a : Act} {Q : Exit → Act → World → Prop} (hgd : o.guard = none) (s x : Operand) (t : TypeId)
    (ho : o.op = .call { callee := .builtin .append, args := #[s, x], argTypes := #[t, t] }) (e : TypeId) (k : IntKind) (bytes : Nat) (ht : P.underlying t = some (.slice e))
    (hinfo : (P.info? e).map (fun i => (i.zero, i.size, i.bytes)) = some (some (.int k 0), 1, bytes)) (B : Nat) (v : Value) (zs : List Int) (z : Int) (ad : Addr) (hs : a.eval s = v) (hx : a.eval x = .slice (some ad) 1 1)
    (hcell : w.cell? ad = some (.int k z)) (hown : Own k e B w v zs) (hlen : (zs.length + 1) * bytes ≤ 140737488355328 ∧ zs.length + 1 ≤ maxLen) (hB : B ≤ w.heap.size)
    (h : ∀ v' w', Own k e B w' v' (zs ++ [z]) → Below B w w' → wpList P ops Q rest (a.put o.dst v') w') : wpList P ops Q (o :: rest) a w := by
  obtain ⟨i0, hi, hz0, hz1, hz2⟩ := info_parts hinfo
  refine wpList_append_own w hgd s x t ho B e i0 (.int k 0) 1 bytes ht hi hz0 hz1 hz2 rfl (by decide) v _ _ hs hown ad 1 1 [.int k z] hx rfl ?_ one1 hlen.2 hlen.1 hB ?_
  · intro j u hj
    match j, hj with
    | 0, hj => simp at hj; subst hj; simpa [Addr.add] using hcell
  · intro v' w' h1 h2 _
    exact h v' w' (Own.snoc h1) ((Below.refl _ _).grown h2 hB (fun k hk => (World.ownsRow.lt hown k hk).1))

theorem Own.alloc {k : IntKind} {e : TypeId} {B : Nat} {w : World} {s : Value} {zs : List Int} (h : Own k e B w s zs) (o : Obj) : Own k e B (w.alloc o) s zs := World.ownsRow.alloc h o

/-- The slice value v reads as the numbers zs, of kind k. -/
def Sl (k : IntKind) (w : World) (v : Value) (zs : List Int) : Prop :=
  ∃ a c, v = .slice a zs.length c ∧ zs.length ≤ c ∧ c ≤ maxLen ∧ (a = none → c = 0) ∧ (zs = [] ∨ ∃ b off, a = some ⟨b, off, none⟩ ∧ ∀ i, i < zs.length → w.cell? ⟨b, off + i, none⟩ = some (.int k (zs.getD i 0)))

theorem Ext.cellOf {w w' : World} (h : Ext w w') {a : Addr} {v : Value} (hc : w.cell? a = some v) : w'.cell? a = some v := cell_later h hc

theorem Sl.up {k : IntKind} {v : Value} {zs : List Int} : UpW (fun w => Sl k w v zs) := by
  rintro w w' he ⟨a, c, h1, h2, h3, h0, h4⟩
  refine ⟨a, c, h1, h2, h3, h0, ?_⟩
  rcases h4 with h4 | ⟨b, off, h4, h5⟩
  · exact .inl h4
  · exact .inr ⟨b, off, h4, fun i hi => he.cellOf (h5 i hi)⟩

theorem Sl.ext {k : IntKind} {w w' : World} {v : Value} {zs : List Int} (h : Sl k w v zs) (he : Ext w w') : Sl k w' v zs := Sl.up _ _ he h

theorem Own.sl {k : IntKind} {e : TypeId} {B : Nat} {w : World} {s : Value} {zs : List Int} (h : Own k e B w s zs) : Sl k w s zs := by
  obtain ⟨h1, h2⟩ := h
  rcases h2 with ⟨rfl, h2⟩ | ⟨g, cap, cur, rfl, _, hh, hn, hm, hs, ht⟩
  · exact ⟨none, 0, by rw [h2], by omega, by simp [maxLen], fun _ => rfl, .inl (List.length_eq_zero_iff.1 h2)⟩
  · refine ⟨_, cap, rfl, hn, hm, (fun h => by cases h), .inr ⟨g, 0, rfl, fun i hi => ?_⟩⟩
    have : w.cell? ⟨g, 0 + i, none⟩ = cur[i]? := by simp [World.cell?, hh]
    rw [this]
    have h5 : cur.toList[i]? = (zs.map (Value.int k))[i]? := by
      rw [← ht, List.getElem?_take, if_pos (by simpa using hi)]
    have h6 : cur[i]? = cur.toList[i]? := by simp
    rw [h6, h5]
    simp [List.getD, List.getElem?_eq_getElem hi]

/-- 'string(b)' -/
theorem Sl.str {P : Program} {w : World} {v : Value} {zs : List Int} (h : Sl .u8 w v zs) (src e dst : TypeId) (hs : P.underlying src = some (.slice e)) (he : P.underlying e = some (.int .u8)) (hd : P.underlying dst = some .string) :
    (convert src dst v).run P w = .ok (.string (strOfNums zs)) w := by
  obtain ⟨a, c, rfl, _, _, _, h4⟩ := h
  rcases h4 with rfl | ⟨b, off, rfl, h5⟩
  · rw [run_convert_bytes_string w src dst e _ _ c hs he hd]
    cases a <;> simp [Conv.bytesToString, loadCells, strOfNums]
    all_goals rfl
  · exact run_convert_bytes_arg w src e hs he b off _ c zs rfl h5 dst hd

/-- Two strings of bytes are alike just if the bytes are. -/
theorem strOfNums_inj {xs ys : List Int} (hx : ∀ x ∈ xs, 0 ≤ x ∧ x ≤ 255) (hy : ∀ y ∈ ys, 0 ≤ y ∧ y ≤ 255) : ((strOfNums xs).toList == (strOfNums ys).toList) = decide (xs = ys) := by
  have key : ∀ xs ys : List Int, (∀ x ∈ xs, 0 ≤ x ∧ x ≤ 255) → (∀ y ∈ ys, 0 ≤ y ∧ y ≤ 255) → xs.map (fun n => UInt8.ofNat n.toNat) = ys.map (fun n => UInt8.ofNat n.toNat) → xs = ys := by
    intro xs
    induction xs with
    | nil => intro ys _ _ h; cases ys with | nil => rfl | cons y ys => simp at h
    | cons x xs ih =>
      intro ys h1 h2 h
      cases ys with
      | nil => simp at h
      | cons y ys =>
        simp only [List.map_cons, List.cons.injEq] at h
        have a1 := h1 x (by simp)
        have a2 := h2 y (by simp)
        have e1 : x.toNat = y.toNat := by
          have := congrArg UInt8.toNat h.1
          simp only [UInt8.toNat_ofNat'] at this
          omega
        have e2 : x = y := by omega
        rw [e2, ih ys (fun z hz => h1 z (by simp [hz])) (fun z hz => h2 z (by simp [hz])) h.2]
  rw [Bool.eq_iff_iff, ByteArray.toList_eq, ByteArray.toList_eq, strOfNums_data, strOfNums_data]
  simp only [beq_iff_eq, decide_eq_true_eq]
  exact ⟨key xs ys hx hy, fun h => by rw [h]⟩

/-- A row just laid reads as its numbers. -/
theorem Sl.lit {k : IntKind} {e : TypeId} (w : World) (zs : List Int) (n : Nat) (hn : zs.length = n) (hm : n ≤ maxLen) : Sl k (w.alloc (.cells (zs.map (Value.int k)).toArray e)) (.slice (some ⟨w.heap.size, 0, none⟩) n n) zs := by
  subst hn
  refine ⟨_, _, rfl, Nat.le_refl _, hm, (fun h => by cases h), .inr ⟨w.heap.size, 0, rfl, fun i hi => ?_⟩⟩
  have h : (w.alloc (.cells (zs.map (Value.int k)).toArray e)).heap[w.heap.size]? = some (.cells (zs.map (Value.int k)).toArray e) := heap_alloc_new w _
  simp only [World.cell?, h]
  simp [hi]

theorem ints_one {k : IntKind} (zs : List Int) : ∀ u ∈ zs.map (Value.int k), u.oneCell' = true := by
  intro u hu
  simp only [List.mem_map] at hu
  obtain ⟨z, _, rfl⟩ := hu
  rfl

/-- 'append(s, xs...)', s the call's own, xs whatever numbers. -/
theorem wpList_join {P : Program} (w : World) {ops : Array Oper} {rest : List Oper} {o : Oper} {a : Act} {Q : Exit → Act → World → Prop} (hgd : o.guard = none) (s x : Operand) (t : TypeId)
    (ho : o.op = .call { callee := .builtin .append, args := #[s, x], argTypes := #[t, t] }) (e : TypeId) (k : IntKind) (bytes : Nat) (ht : P.underlying t = some (.slice e))
    (hinfo : (P.info? e).map (fun i => (i.zero, i.size, i.bytes)) = some (some (.int k 0), 1, bytes)) (B : Nat) (v u : Value) (zs ys : List Int) (hs : a.eval s = v) (hx : a.eval x = u)
    (hown : Own k e B w v zs) (hsl : Sl k w u ys) (hlen : (zs.length + ys.length) * bytes ≤ 140737488355328 ∧ zs.length + ys.length ≤ maxLen) (hB : B ≤ w.heap.size)
    (h : ∀ v' w', Own k e B w' v' (zs ++ ys) → Below B w w' → wpList P ops Q rest (a.put o.dst v') w') : wpList P ops Q (o :: rest) a w := by
  obtain ⟨i0, hi, hz0, hz1, hz2⟩ := info_parts hinfo
  obtain ⟨ad, c, rfl, h1, h2, h3, h4⟩ := hsl
  have fin : ∀ v' w', w'.ownsRow B e 1 v' (zs.length + ys.length) (zs.map (Value.int k) ++ ys.map (Value.int k)) → w.grownBy w' v.ownBlock → wpList P ops Q rest (a.put o.dst v') w' := fun v' w' g1 g2 =>
    h v' w' (by unfold Own; simpa using g1) ((Below.refl _ _).grown g2 hB (fun k hk => (World.ownsRow.lt hown k hk).1))
  cases ad with
  | none =>
    have hc := h3 rfl
    subst hc
    have hy : ys = [] := List.length_eq_zero_iff.1 (by omega)
    subst hy
    refine wpList_append_own_none hgd s x t ho B e i0 1 ht hi v _ _ hs hown hx ?_
    refine h v w ?_ (Below.refl _ _)
    rw [List.append_nil]; exact hown
  | some ad =>
    refine wpList_append_own w hgd s x t ho B e i0 (.int k 0) 1 bytes ht hi hz0 hz1 hz2 rfl (by decide) v _ _ hs hown ad ys.length c (ys.map (Value.int k)) hx (by simp) ?_ (ints_one ys) hlen.2 hlen.1 hB (fun v' w' g1 g2 _ => fin v' w' g1 g2)
    intro j u hj
    rcases h4 with rfl | ⟨b, off, hb, h5⟩
    · simp at hj
    · simp only [Option.some.injEq] at hb
      subst hb
      have hjl : j < ys.length := by
        rcases Nat.lt_or_ge j ys.length with g | g
        · exact g
        · simp [List.getElem?_eq_none (show (ys.map (Value.int k)).length ≤ j by simpa using g)] at hj
      rw [Go.WideShapes.add_plain, h5 j hjl]
      simp [List.getElem?_eq_getElem hjl] at hj
      subst hj
      simp [List.getD, List.getElem?_eq_getElem hjl]

/-- 's[:n]' -/
theorem Sl.take {k : IntKind} {w : World} {b off c : Nat} {zs : List Int} (n : Nat) (hn : n ≤ zs.length) (hc : zs.length ≤ c) (hm : c ≤ maxLen)
    (h : ∀ i, i < zs.length → w.cell? ⟨b, off + i, none⟩ = some (.int k (zs.getD i 0))) : Sl k w (.slice (some ⟨b, off, none⟩) n c) (zs.take n) := by
  have hl : (zs.take n).length = n := by simp; omega
  refine ⟨_, c, by rw [hl], by omega, hm, (fun h => by cases h), .inr ⟨b, off, rfl, fun i hi => ?_⟩⟩
  rw [hl] at hi
  rw [h i (by omega)]
  congr 2
  simp [List.getD, List.getElem?_take, hi]

/-- 'string(b)' in every later world. -/
theorem later_str {P : Program} {w : World} {v : Value} {zs : List Int} (h : Sl .u8 w v zs) (src e dst : TypeId) (hs : P.underlying src = some (.slice e)) (he : P.underlying e = some (.int .u8)) (hd : P.underlying dst = some .string) :
    ∀ l : Later w, (convert src dst v).run P l.val = .ok (.string (strOfNums zs)) l.val :=
  fun l => (h.ext l.ext).str src e dst hs he hd

theorem run_convert_op {P : Program} {w w' : World} {ρ : Operand → Value} {o : Oper} {src dst : TypeId} {x : Operand} {v u : Value} (ho : o.op = .convert src dst x) (hx : ρ x = v) (h : (convert src dst v).run P w = .ok u w') :
    (execOp ρ o).run P w = .ok (.value u) w' := by
  unfold execOp
  simp only [ho, hx, Sem.run_bind, h, Result.andThen, Sem.run_pure]

/-- A slice of numbers that came in. -/
theorem Sl.ofRow {k : IntKind} {w : World} {a : Option Addr} {len cap : Nat} {zs : List Int}
    (h : (a = none ∧ len = 0 ∧ cap = 0 ∧ zs = []) ∨ ∃ x, a = some x ∧ len ≤ cap ∧ cap ≤ maxLen ∧ zs.length = cap ∧ (∀ i, i < zs.length → w.cell? (x.add i) = some (.int k (zs.getD i 0))) ∧ ∀ n ∈ zs, (Lit.int k n).wf = true) :
    Sl k w (.slice a len cap) (zs.take len) ∧ (zs.take len).length = len ∧ ∀ z ∈ zs.take len, (Lit.int k z).wf = true := by
  rcases h with ⟨rfl, rfl, rfl, rfl⟩ | ⟨x, rfl, h1, h2, h3, h4, h5⟩
  · exact ⟨⟨none, 0, rfl, by simp, by simp [maxLen], fun _ => rfl, .inl rfl⟩, rfl, fun z hz => by simp at hz⟩
  · have hl : (zs.take len).length = len := by simp; omega
    refine ⟨?_, hl, fun z hz => h5 z (List.mem_of_mem_take hz)⟩
    by_cases h0 : len = 0
    · subst h0
      exact ⟨some x, cap, rfl, by simp, h2, (fun h => by cases h), .inl rfl⟩
    · obtain ⟨b, off, rfl, hc⟩ := Go.ints_at h4 (by omega)
      exact Sl.take len (by omega) (by omega) h2 hc

theorem wf_u8 {zs : List Int} (h : ∀ z ∈ zs, (Lit.int .u8 z).wf = true) : ∀ z ∈ zs, 0 ≤ z ∧ z ≤ 255 := fun z hz => Go.bounds_u8 (h z hz)

/-- 's[:m]' of whatever slice. -/
theorem Sl.take' {k : IntKind} {w : World} {a : Option Addr} {n c : Nat} {zs : List Int} (h : Sl k w (.slice a n c) zs) (m : Nat) (hm : m ≤ n) : Sl k w (.slice a m c) (zs.take m) := by
  obtain ⟨a', c', h1, h2, h3, h4, h5⟩ := h
  simp only [Value.slice.injEq] at h1
  obtain ⟨rfl, rfl, rfl⟩ := h1
  rcases h5 with rfl | ⟨b, off, rfl, h5⟩
  · simp at hm; subst hm
    exact ⟨a, c, rfl, by simp, h3, h4, .inl rfl⟩
  · exact Sl.take m hm h2 h3 h5

/-- What an owned row that is not empty looks like. -/
theorem Own.shape {k : IntKind} {e : TypeId} {B : Nat} {w : World} {s : Value} {zs : List Int} (h : Own k e B w s zs) (hn : zs ≠ []) : ∃ g cap, s = .slice (some ⟨g, 0, none⟩) zs.length cap ∧ B ≤ g ∧ zs.length ≤ cap ∧ cap ≤ maxLen := by
  rcases h.2 with ⟨_, h2⟩ | ⟨g, cap, cur, h2, h3, _, h4, h5, _⟩
  · exact absurd (List.length_eq_zero_iff.1 h2) hn
  · exact ⟨g, cap, h2, h3, h4, h5⟩

theorem Own.cell {k : IntKind} {e : TypeId} {B : Nat} {w : World} {g n cap : Nat} {zs : List Int} (h : Own k e B w (.slice (some ⟨g, 0, none⟩) n cap) zs) (hn : zs.length = n) (j : Nat) (hj : j < n) : w.cell? ⟨g, j, none⟩ = some (.int k (zs.getD j 0)) := by
  subst hn
  have := World.ownsRow.cellAt h j (by simpa using hj)
  rw [this]
  simp [List.getD, List.getElem?_eq_getElem hj]

theorem Own.frozen {k : IntKind} {e : TypeId} {B : Nat} {w : World} {g n cap : Nat} {zs : List Int} (h : Own k e B w (.slice (some ⟨g, 0, none⟩) n cap) zs) (hn : zs.length = n) (j : Nat) : w.frozen? ⟨g, j, none⟩ = false := by
  subst hn
  exact World.ownsRow.frozenAt h j

theorem Own.store {k : IntKind} {e : TypeId} {B : Nat} {w : World} {g n cap : Nat} {zs : List Int} (h : Own k e B w (.slice (some ⟨g, 0, none⟩) n cap) zs) (hn : zs.length = n) (j : Nat) (z : Int) :
    Own k e B (w.setCell ⟨g, j, none⟩ (.int k z)) (.slice (some ⟨g, 0, none⟩) n cap) (zs.set j z) := by
  subst hn
  have := (World.ownsRow.stored h j (.int k z)).1
  unfold Own
  rw [List.length_set, List.map_set]
  exact this

theorem hide' {p : Prop} (h : p) : Hid p := h

/-- 'y | d << n', no digit in both. -/
theorem or_shift_nat (y d n : Nat) (h : y < 2 ^ n) (hy : y < 18446744073709551616) (h64 : d * 2 ^ n < 18446744073709551616) : bits .or .u64 (y : Int) (IntKind.u64.wrap ((d : Int) * 2 ^ n)) = ((y + d * 2 ^ n : Nat) : Int) := by
  have e1 : (d : Int) * 2 ^ n = ((d * 2 ^ n : Nat) : Int) := by simp
  rw [e1, IntKind.wrap_u64, Int.emod_eq_of_lt (by omega) (by omega), u64_or_nat _ _ hy h64]
  have := Nat.shiftLeft_add_eq_or_of_lt h d
  rw [Nat.shiftLeft_eq] at this
  rw [Nat.or_comm, ← this, Nat.add_comm]

theorem pow128 (k : Nat) : (2 : Nat) ^ (7 * k) = 128 ^ k := by rw [Nat.pow_mul]

theorem or_shift (y d : Int) (k : Nat) (h0 : 0 ≤ y) (h1 : y < 128 ^ k) (h2 : 0 ≤ d) (hy : y < 18446744073709551616) (h64 : d * 128 ^ k < 18446744073709551616) :
    bits .or .u64 y (IntKind.u64.wrap (d * 2 ^ (7 * k))) = y + d * 128 ^ k := by
  obtain ⟨y, rfl⟩ := Int.eq_ofNat_of_zero_le h0
  obtain ⟨d, rfl⟩ := Int.eq_ofNat_of_zero_le h2
  have e := pow128 k
  have e2 : ((128 : Int) ^ k) = ((128 ^ k : Nat) : Int) := by simp
  rw [e2] at h1 h64 ⊢
  have h5 : ((d * 128 ^ k : Nat) : Int) < 18446744073709551616 := by rw [Int.natCast_mul]; exact h64
  have h3 := or_shift_nat y d (7 * k) (by rw [e]; omega) (by omega) (by rw [e]; omega)
  rw [h3, e, Int.natCast_add, Int.natCast_mul]

/-- 'y&127 | 128' -/
theorem low7 (y : Int) (h0 : 0 ≤ y) (h1 : y < 18446744073709551616) : bits .or .u64 (bits .and .u64 y 127) 128 = y % 128 + 128 := by
  obtain ⟨y, rfl⟩ := Int.eq_ofNat_of_zero_le h0
  have e1 : bits .and .u64 (y : Int) ((127 : Nat) : Int) = ((y &&& 127 : Nat) : Int) := u64_and_nat y 127 (by omega) (by omega)
  have e2 : y &&& 127 = y % 128 := Nat.and_two_pow_sub_one_eq_mod y 7
  have e3 : bits .or .u64 ((y % 128 : Nat) : Int) ((128 : Nat) : Int) = ((y % 128 ||| 128 : Nat) : Int) := u64_or_nat _ 128 (by omega) (by omega)
  have e4 : y % 128 ||| 128 = y % 128 + 128 := by
    have := Nat.shiftLeft_add_eq_or_of_lt (i := 7) (b := y % 128) (by omega) 1
    rw [Nat.or_comm]
    have h : 1 <<< 7 = 128 := rfl
    rw [h] at this
    omega
  have a1 : ((127 : Nat) : Int) = 127 := rfl
  have a2 : ((128 : Nat) : Int) = 128 := rfl
  rw [a1] at e1
  rw [a2] at e3
  rw [e1, e2, e3, e4]
  omega

theorem or128 (d : Int) (h0 : 0 ≤ d) (h1 : d < 128) : bits .or .u8 d 128 = d + 128 := by
  obtain ⟨d, rfl⟩ := Int.eq_ofNat_of_zero_le h0
  have e3 : bits .or .u8 (d : Int) ((128 : Nat) : Int) = ((d ||| 128 : Nat) : Int) := u8_or_nat _ 128 (by omega) (by omega)
  have e4 : d ||| 128 = d + 128 := by
    have := Nat.shiftLeft_add_eq_or_of_lt (i := 7) (b := d) (by omega) 1
    rw [Nat.or_comm]
    have h : 1 <<< 7 = 128 := rfl
    rw [h] at this
    omega
  have a2 : ((128 : Nat) : Int) = 128 := rfl
  rw [a2] at e3
  rw [e3, e4]
  omega
end Go.Proofs.Yticblbegjfcbdaa

/- Two rows of numbers, compared; how much they have alike; rotations. Plain numbers, no conditions. -/
namespace Go.Proofs.Yticblbegjfcbdaa
set_option linter.unusedVariables false
set_option linter.unusedSimpArgs false

/-- -1, 0, 1. -/
def cmpI : List Int → List Int → Int
  | [], [] => 0
  | [], _ :: _ => -1
  | _ :: _, [] => 1
  | a :: x, b :: y => if a < b then -1 else if b < a then 1 else cmpI x y

/-- How many are alike. -/
def comI : List Int → List Int → Nat
  | a :: x, b :: y => if a = b then comI x y + 1 else 0
  | _, _ => 0

def turnI (s : List Int) (i : Nat) : List Int := s.drop i ++ s.take i

def endL (s : List Int) (i j : Int) : Int := if (0 ≤ i ∧ i ≤ (s.length : Int)) ∧ 0 ≤ j ∧ j ≤ (s.length : Int) then cmpI (s.drop i.toNat) (s.drop j.toNat) else 0
def turnsL (s : List Int) (i j : Int) : Int := if (0 ≤ i ∧ i < (s.length : Int)) ∧ 0 ≤ j ∧ j < (s.length : Int) then cmpI (turnI s i.toNat) (turnI s j.toNat) else 0
def comL (s : List Int) (i j : Int) : Int := if (0 ≤ i ∧ i ≤ (s.length : Int)) ∧ 0 ≤ j ∧ j ≤ (s.length : Int) then (comI (s.drop i.toNat) (s.drop j.toNat) : Int) else 0

theorem endL_out {s : List Int} {i j : Int} (h : ¬ ((0 ≤ i ∧ i ≤ (s.length : Int)) ∧ 0 ≤ j ∧ j ≤ (s.length : Int))) : endL s i j = 0 := if_neg h
theorem endL_in {s : List Int} {i j : Nat} (h : i ≤ s.length) (h' : j ≤ s.length) : endL s i j = cmpI (s.drop i) (s.drop j) := by
  unfold endL; rw [if_pos (by omega)]; simp
theorem turnsL_out {s : List Int} {i j : Int} (h : ¬ ((0 ≤ i ∧ i < (s.length : Int)) ∧ 0 ≤ j ∧ j < (s.length : Int))) : turnsL s i j = 0 := if_neg h
theorem turnsL_in {s : List Int} {i j : Nat} (h : i < s.length) (h' : j < s.length) : turnsL s i j = cmpI (turnI s i) (turnI s j) := by
  unfold turnsL; rw [if_pos (by omega)]; simp
theorem comL_out {s : List Int} {i j : Int} (h : ¬ ((0 ≤ i ∧ i ≤ (s.length : Int)) ∧ 0 ≤ j ∧ j ≤ (s.length : Int))) : comL s i j = 0 := if_neg h
theorem comL_in {s : List Int} {i j : Nat} (h : i ≤ s.length) (h' : j ≤ s.length) : comL s i j = (comI (s.drop i) (s.drop j) : Int) := by
  unfold comL; rw [if_pos (by omega)]; simp

theorem drop_getD {x : List Int} {k : Nat} (h : k < x.length) : x.drop k = x.getD k 0 :: x.drop (k + 1) := by
  rw [List.drop_eq_getElem_cons h]
  simp [List.getD, List.getElem?_eq_getElem h]

theorem cmpI_same {x y : List Int} {k : Nat} (hx : k < x.length) (hy : k < y.length) (h : x.getD k 0 = y.getD k 0) : cmpI (x.drop k) (y.drop k) = cmpI (x.drop (k + 1)) (y.drop (k + 1)) := by
  rw [drop_getD hx, drop_getD hy, h, cmpI, if_neg (by omega), if_neg (by omega)]
theorem cmpI_lt {x y : List Int} {k : Nat} (hx : k < x.length) (hy : k < y.length) (h : x.getD k 0 < y.getD k 0) : cmpI (x.drop k) (y.drop k) = -1 := by
  rw [drop_getD hx, drop_getD hy, cmpI, if_pos h]
theorem cmpI_gt {x y : List Int} {k : Nat} (hx : k < x.length) (hy : k < y.length) (h : y.getD k 0 < x.getD k 0) : cmpI (x.drop k) (y.drop k) = 1 := by
  rw [drop_getD hx, drop_getD hy, cmpI, if_neg (by omega), if_pos h]
theorem cmpI_short {x y : List Int} {k : Nat} (hx : k = x.length) (hy : k < y.length) : cmpI (x.drop k) (y.drop k) = -1 := by
  rw [List.drop_of_length_le (by omega), drop_getD hy]; rfl
theorem cmpI_long {x y : List Int} {k : Nat} (hx : k < x.length) (hy : k = y.length) : cmpI (x.drop k) (y.drop k) = 1 := by
  rw [List.drop_of_length_le (l := y) (by omega), drop_getD hx]; rfl
theorem cmpI_end {x y : List Int} {k : Nat} (hx : k = x.length) (hy : k = y.length) : cmpI (x.drop k) (y.drop k) = 0 := by
  rw [List.drop_of_length_le (l := y) (by omega), List.drop_of_length_le (l := x) (by omega)]; rfl

theorem comI_same {x y : List Int} {k : Nat} (hx : k < x.length) (hy : k < y.length) (h : x.getD k 0 = y.getD k 0) : comI (x.drop k) (y.drop k) = comI (x.drop (k + 1)) (y.drop (k + 1)) + 1 := by
  rw [drop_getD hx, drop_getD hy, h, comI, if_pos rfl]
theorem comI_other {x y : List Int} {k : Nat} (hx : k < x.length) (hy : k < y.length) (h : x.getD k 0 ≠ y.getD k 0) : comI (x.drop k) (y.drop k) = 0 := by
  rw [drop_getD hx, drop_getD hy, comI, if_neg h]
theorem comI_nil_left {y : List Int} : comI [] y = 0 := by cases y <;> rfl
theorem comI_nil_right {x : List Int} : comI x [] = 0 := by cases x <;> rfl
theorem comI_left {x y : List Int} {k : Nat} (hx : x.length ≤ k) : comI (x.drop k) (y.drop k) = 0 := by
  rw [List.drop_of_length_le hx]; exact comI_nil_left
theorem comI_right {x y : List Int} {k : Nat} (hy : y.length ≤ k) : comI (x.drop k) (y.drop k) = 0 := by
  rw [List.drop_of_length_le (l := y) hy]; exact comI_nil_right

theorem cmpI_self (x : List Int) : cmpI x x = 0 := by
  induction x with
  | nil => rfl
  | cons a x ih => rw [cmpI, if_neg (by omega), if_neg (by omega), ih]
theorem cmpI_swap : ∀ (x y : List Int), cmpI y x = - cmpI x y
  | [], [] => rfl
  | [], _ :: _ => rfl
  | _ :: _, [] => rfl
  | a :: x, b :: y => by
    simp only [cmpI]
    by_cases h1 : a < b
    · rw [if_neg (by omega), if_pos h1, if_pos h1]; rfl
    · by_cases h2 : b < a
      · rw [if_pos h2, if_neg h1, if_pos h2]
      · rw [if_neg h2, if_neg h1, if_neg h1, if_neg h2, cmpI_swap x y]
theorem cmpI_zero : ∀ {x y : List Int}, cmpI x y = 0 → x = y
  | [], [], _ => rfl
  | [], _ :: _, h => by simp [cmpI] at h
  | _ :: _, [], h => by simp [cmpI] at h
  | a :: x, b :: y, h => by
    simp only [cmpI] at h
    by_cases h1 : a < b
    · rw [if_pos h1] at h; cases h
    · by_cases h2 : b < a
      · rw [if_neg h1, if_pos h2] at h; cases h
      · rw [if_neg h1, if_neg h2] at h
        rw [cmpI_zero h, show a = b by omega]
theorem cmpI_three (x y : List Int) : cmpI x y = -1 ∨ cmpI x y = 0 ∨ cmpI x y = 1 := by
  induction x generalizing y with
  | nil => cases y <;> simp [cmpI]
  | cons a x ih =>
    cases y with
    | nil => simp [cmpI]
    | cons b y =>
      simp only [cmpI]
      split
      · exact .inl rfl
      · split
        · exact .inr (.inr rfl)
        · exact ih y
theorem cmpI_trans : ∀ (x y z : List Int), cmpI x y ≤ 0 → cmpI y z ≤ 0 → cmpI x z ≤ 0
  | [], _, [], _, _ => by simp [cmpI]
  | [], _, _ :: _, _, _ => by simp [cmpI]
  | _ :: _, [], _, h, _ => by simp [cmpI] at h
  | _ :: _, _ :: _, [], _, h => by simp [cmpI] at h
  | a :: x, b :: y, c :: z, h1, h2 => by
    simp only [cmpI] at h1 h2 ⊢
    by_cases g1 : a < b
    · by_cases g2 : c < b
      · rw [if_neg (by omega), if_pos g2] at h2; omega
      · rw [if_pos (by omega)]; omega
    · by_cases g1' : b < a
      · rw [if_neg g1, if_pos g1'] at h1; omega
      · rw [if_neg g1, if_neg g1'] at h1
        have e : a = b := by omega
        subst e
        by_cases g2 : a < c
        · rw [if_pos g2]; omega
        · by_cases g3 : c < a
          · rw [if_neg g2, if_pos g3] at h2; omega
          · rw [if_neg g2, if_neg g3] at h2 ⊢
            exact cmpI_trans x y z h1 h2
theorem comI_swap : ∀ (x y : List Int), comI x y = comI y x
  | [], _ => by rw [comI_nil_left, comI_nil_right]
  | _ :: _, [] => rfl
  | a :: x, b :: y => by
    simp only [comI]
    by_cases h : a = b
    · rw [if_pos h, if_pos h.symm, comI_swap x y]
    · rw [if_neg h, if_neg (fun e => h e.symm)]
theorem comI_self (x : List Int) : comI x x = x.length := by
  induction x with
  | nil => rfl
  | cons a x ih => rw [comI, if_pos rfl, ih]; rfl
theorem comI_le : ∀ (x y : List Int), comI x y ≤ x.length ∧ comI x y ≤ y.length
  | [], _ => by rw [comI_nil_left]; omega
  | _ :: _, [] => by rw [comI_nil_right]; omega
  | a :: x, b :: y => by
    have := comI_le x y
    simp only [comI, List.length_cons]
    split <;> omega
/-- Behind what is alike the first other one tells. -/
theorem cmpI_comI : ∀ (x y : List Int), cmpI x y =
    if comI x y = x.length then (if comI x y = y.length then 0 else -1) else if comI x y = y.length then 1 else if x.getD (comI x y) 0 < y.getD (comI x y) 0 then -1 else 1
  | [], [] => by simp [cmpI, comI]
  | [], _ :: _ => by simp [cmpI, comI]
  | _ :: _, [] => by simp [cmpI, comI]
  | a :: x, b :: y => by
    by_cases h : a = b
    · subst h
      have hc : comI (a :: x) (a :: y) = comI x y + 1 := by simp [comI]
      have hm : cmpI (a :: x) (a :: y) = cmpI x y := by simp [cmpI]
      rw [hc, hm, cmpI_comI x y]
      simp
    · have hc : comI (a :: x) (b :: y) = 0 := by simp [comI, h]
      rw [hc, cmpI]
      simp only [List.length_cons, List.getD_cons_zero]
      rw [if_neg (show ¬ 0 = x.length + 1 by omega), if_neg (show ¬ 0 = y.length + 1 by omega)]
      split
      · rfl
      · rw [if_pos (by omega)]

theorem turnI_len {s : List Int} {i : Nat} (h : i ≤ s.length) : (turnI s i).length = s.length := by
  simp [turnI]; omega
theorem turnI_at {s : List Int} {i k : Nat} (hi : i < s.length) (hk : k < s.length) : (turnI s i).getD k 0 = s.getD ((i + k) % s.length) 0 := by
  unfold turnI
  by_cases h : i + k < s.length
  · rw [Nat.mod_eq_of_lt h]
    simp only [List.getD_eq_getElem?_getD]
    rw [List.getElem?_append_left (by simp; omega), List.getElem?_drop]
  · have e : (i + k) % s.length = i + k - s.length := by
      rw [Nat.mod_eq_sub_mod (by omega), Nat.mod_eq_of_lt (by omega)]
    rw [e]
    simp only [List.getD_eq_getElem?_getD]
    rw [List.getElem?_append_right (by simp; omega), List.getElem?_take, if_pos (by simp; omega)]
    congr 2
    simp; omega

theorem toUInt8_lt {a b : Int} (ha : 0 ≤ a ∧ a ≤ 255) (hb : 0 ≤ b ∧ b ≤ 255) : a.toNat.toUInt8 < b.toNat.toUInt8 ↔ a < b := by
  rw [UInt8.lt_iff_toNat_lt]
  simp only [Nat.toUInt8, UInt8.toNat_ofNat']
  omega

theorem cmpI_bytes : ∀ (x y : List Int), (∀ z ∈ x, 0 ≤ z ∧ z ≤ 255) → (∀ z ∈ y, 0 ≤ z ∧ z ≤ 255) → Go.Lib.compareBytes (Go.Lib.bytesOf x) (Go.Lib.bytesOf y) = cmpI x y
  | [], [], _, _ => rfl
  | [], _ :: _, _, _ => rfl
  | _ :: _, [], _, _ => rfl
  | a :: x, b :: y, hx, hy => by
    have ih := cmpI_bytes x y (fun z hz => hx z (by simp [hz])) (fun z hz => hy z (by simp [hz]))
    have ha := hx a (by simp)
    have hb := hy b (by simp)
    show (if a.toNat.toUInt8 < b.toNat.toUInt8 then (-1 : Int) else if b.toNat.toUInt8 < a.toNat.toUInt8 then 1 else Go.Lib.compareBytes (Go.Lib.bytesOf x) (Go.Lib.bytesOf y)) = _
    simp only [toUInt8_lt ha hb, toUInt8_lt hb ha, ih]
    rfl

/-- The model's entry bytealg.Compare at two slices of bytes. -/
theorem Sl.bytesOf {P : Program} {w : World} {v : Value} {x : List Int} (h : Sl .u8 w v x) : (Extern.Bytes.bytesOf v).run P w = .ok ⟨(Go.Lib.bytesOf x).toArray⟩ w := by
  obtain ⟨a, c, rfl, _, _, h0, h4⟩ := h
  cases a with
  | none =>
    have hx : x = [] := by
      rcases h4 with h4 | ⟨b, off, h4, _⟩
      · exact h4
      · cases h4
    subst hx
    rfl
  | some a =>
    rcases h4 with rfl | ⟨b, off, h4, h5⟩
    · rfl
    · simp only [Option.some.injEq] at h4
      subst h4
      have := Go.Lib.run_loadBytesX (P := P) w x ⟨b, off, none⟩ .empty (fun j z hj => by
        have hjl : j < x.length := (List.getElem?_eq_some_iff.1 hj).1
        rw [Go.WideShapes.add_plain, h5 j hjl]
        simp [List.getD, hj])
      show (Extern.Bytes.loadBytes ⟨b, off, none⟩ x.length .empty).run P w = _
      rw [this]
      simp [ByteArray.empty, ByteArray.emptyWithCapacity]
      rfl

theorem run_compareBytes {P : Program} {w : World} {u v : Value} {x y : List Int} (h : Sl .u8 w u x) (h' : Sl .u8 w v y) (hx : ∀ z ∈ x, 0 ≤ z ∧ z ≤ 255) (hy : ∀ z ∈ y, 0 ≤ z ∧ z ≤ 255) :
    (Extern.BytealgCompare.compare #[u, v]).run P w = .ok (.int .i64 (cmpI x y)) w := by
  change Sem.run P (do pure (goInt (Extern.BytealgCompare.cmp (← Extern.Bytes.bytesOf u) (← Extern.Bytes.bytesOf v)))) w = _
  simp only [Sem.run_bind, h.bytesOf, h'.bytesOf, Sem.run_pure, Result.andThen]
  rw [Go.Lib.cmp_eq]
  simp only [cmpI_bytes x y hx hy]
  rfl
end Go.Proofs.Yticblbegjfcbdaa

/- A row of numbers again and again. Plain numbers, no conditions. -/
namespace Go.Proofs.Yticblbegjfcbdaa
set_option linter.unusedVariables false
set_option linter.unusedSimpArgs false

def repI (x : List Int) (n : Nat) : List Int := (List.replicate n x).flatten

theorem repI_zero (x : List Int) : repI x 0 = [] := rfl
theorem repI_succ (x : List Int) (n : Nat) : repI x (n + 1) = repI x n ++ x := by
  unfold repI
  rw [List.replicate_succ', List.flatten_append]
  simp
theorem repI_cons (x : List Int) (n : Nat) : repI x (n + 1) = x ++ repI x n := by
  unfold repI
  rw [List.replicate_succ, List.flatten_cons]
theorem repI_len (x : List Int) (n : Nat) : (repI x n).length = n * x.length := by
  induction n with
  | zero => simp [repI]
  | succ n ih => rw [repI_succ, List.length_append, ih, Nat.succ_mul]
theorem repI_at (x : List Int) (n k : Nat) (h : k < n * x.length) : (repI x n).getD k 0 = x.getD (k % x.length) 0 := by
  induction n generalizing k with
  | zero => omega
  | succ n ih =>
    rw [repI_cons]
    by_cases hk : k < x.length
    · rw [Nat.mod_eq_of_lt hk]
      simp only [List.getD_eq_getElem?_getD]
      rw [List.getElem?_append_left hk]
    · have e : k % x.length = (k - x.length) % x.length := Nat.mod_eq_sub_mod (by omega)
      rw [e, ← ih (k - x.length) (by rw [Nat.succ_mul] at h; omega)]
      simp only [List.getD_eq_getElem?_getD]
      rw [List.getElem?_append_right (by omega)]
theorem getD_ext {x y : List Int} (hl : x.length = y.length) (h : ∀ k, k < x.length → x.getD k 0 = y.getD k 0) : x = y := by
  refine List.ext_getElem hl fun k h1 h2 => ?_
  have := h k h1
  simpa [List.getD, List.getElem?_eq_getElem h1, List.getElem?_eq_getElem h2] using this
/-- Rotations of a row again and again are the same, a row apart. -/
theorem turnI_rep (x : List Int) (n i : Nat) (hi : i < n * x.length) : turnI (repI x n) i = turnI (repI x n) ((i + x.length) % (n * x.length)) := by
  have hN := repI_len x n
  have hj : (i + x.length) % (n * x.length) < n * x.length := Nat.mod_lt _ (by omega)
  have hm : 0 < x.length := Nat.pos_of_ne_zero fun h => by rw [h] at hi; omega
  refine getD_ext (by rw [turnI_len (by omega), turnI_len (by omega)]) fun k hk => ?_
  rw [turnI_len (by omega), hN] at hk
  rw [turnI_at (by omega) (by omega), turnI_at (by omega) (by omega), hN, repI_at _ _ _ (Nat.mod_lt _ (by omega)), repI_at _ _ _ (Nat.mod_lt _ (by omega))]
  congr 1
  rw [Nat.mod_add_mod, Nat.mod_mul_left_mod, Nat.mod_mul_left_mod, show i + x.length + k = i + k + x.length by omega, Nat.add_mod_right]

theorem take_ext_succ {x y : List Int} {k : Nat} (h1 : k < x.length) (h2 : k < y.length) (h : x.take k = y.take k) (he : x.getD k 0 = y.getD k 0) : x.take (k + 1) = y.take (k + 1) := by
  rw [List.take_add_one, List.take_add_one, h]
  simp only [List.getD_eq_getElem?_getD, List.getElem?_eq_getElem h1, List.getElem?_eq_getElem h2, Option.getD_some] at he
  rw [List.getElem?_eq_getElem h1, List.getElem?_eq_getElem h2, he]
end Go.Proofs.Yticblbegjfcbdaa

/- Sorting by counting, and the order that it makes. Plain numbers, no conditions. -/
namespace Go.Proofs.Yticblbegjfcbdaa
set_option linter.unusedVariables false
set_option linter.unusedSimpArgs false

/-- Natural numbers as Go's. -/
def natL (l : List Nat) : List Int := l.map fun (n : Nat) => (n : Int)
theorem natL_len (l : List Nat) : (natL l).length = l.length := List.length_map _
theorem natL_at (l : List Nat) (i : Nat) : (natL l).getD i 0 = ((l.getD i 0 : Nat) : Int) := by
  simp only [natL, List.getD_eq_getElem?_getD, List.getElem?_map]
  cases l[i]? <;> rfl
theorem natL_set (l : List Nat) (i x : Nat) : natL (l.set i x) = (natL l).set i (x : Int) := by simp [natL, List.map_set]
theorem natL_ext {l l' : List Nat} (hl : l.length = l'.length) (h : ∀ i, i < l.length → l.getD i 0 = l'.getD i 0) : l = l' := by
  refine List.ext_getElem hl fun k h1 h2 => ?_
  have := h k h1
  simpa [List.getD, List.getElem?_eq_getElem h1, List.getElem?_eq_getElem h2] using this
theorem set_same {l : List Nat} {i x : Nat} (h : i < l.length) : (l.set i x).getD i 0 = x := by simp [List.getD, h]
theorem set_other {l : List Nat} {i j x : Nat} (h : i ≠ j) : (l.set i x).getD j 0 = l.getD j 0 := by
  simp only [List.getD_eq_getElem?_getD]
  rw [List.getElem?_set_ne h]
theorem getN_mem {l : List Nat} {i : Nat} (h : i < l.length) : l.getD i 0 ∈ l := by
  rw [List.getD_eq_getElem?_getD, List.getElem?_eq_getElem h]
  exact List.getElem_mem h
theorem mem_getN {l : List Nat} {x : Nat} (h : x ∈ l) : ∃ i, i < l.length ∧ l.getD i 0 = x := by
  obtain ⟨i, hi, e⟩ := List.mem_iff_getElem.1 h
  exact ⟨i, hi, by rw [List.getD_eq_getElem?_getD, List.getElem?_eq_getElem hi]; exact e⟩
theorem takeN_succ {l : List Nat} {i : Nat} (h : i < l.length) : l.take (i + 1) = l.take i ++ [l.getD i 0] := by
  rw [List.take_add_one, List.getElem?_eq_getElem h, List.getD_eq_getElem?_getD, List.getElem?_eq_getElem h]
  rfl
theorem dropN_cons {l : List Nat} {i : Nat} (h : i < l.length) : l.drop i = l.getD i 0 :: l.drop (i + 1) := by
  rw [List.drop_eq_getElem_cons h, List.getD_eq_getElem?_getD, List.getElem?_eq_getElem h]
  rfl
theorem rangeN_at {n i : Nat} (h : i < n) : (List.range n).getD i 0 = i := by simp [List.getD, h]

/-- Those of one key, as they stand. -/
def pick (ps : List Nat) (key : Nat → Nat) (k : Nat) : List Nat := ps.filter fun p => key p == k
/-- Key by key. -/
def csort (K : Nat) (ps : List Nat) (key : Nat → Nat) : List Nat := (List.range K).flatMap (pick ps key)
/-- How many have a less key. -/
def offs (ps : List Nat) (key : Nat → Nat) (k : Nat) : Nat := (csort k ps key).length

theorem csort_succ (K : Nat) (ps : List Nat) (key : Nat → Nat) : csort (K + 1) ps key = csort K ps key ++ pick ps key K := by
  unfold csort
  rw [List.range_succ, List.flatMap_append]
  simp
theorem offs_succ (ps : List Nat) (key : Nat → Nat) (k : Nat) : offs ps key (k + 1) = offs ps key k + (pick ps key k).length := by
  unfold offs
  rw [csort_succ, List.length_append]
theorem offs_zero (ps : List Nat) (key : Nat → Nat) : offs ps key 0 = 0 := rfl
theorem offs_mono (ps : List Nat) (key : Nat → Nat) : ∀ {k l : Nat}, k ≤ l → offs ps key k ≤ offs ps key l := by
  intro k l h
  induction h with
  | refl => exact Nat.le_refl _
  | step _ ih => rw [offs_succ]; omega
theorem offs_in (ps : List Nat) (key : Nat → Nat) {k l t : Nat} (h : k < l) (ht : t < (pick ps key k).length) : offs ps key k + t < offs ps key l := by
  have := offs_mono ps key (show k + 1 ≤ l from h)
  rw [offs_succ] at this
  omega
/-- No two places of the keys' rows are one. -/
theorem offs_inj (ps : List Nat) (key : Nat → Nat) {k l t u : Nat} (ht : t < (pick ps key k).length) (hu : u < (pick ps key l).length) (h : offs ps key k + t = offs ps key l + u) : k = l ∧ t = u := by
  rcases Nat.lt_trichotomy k l with g | g | g
  · have := offs_in ps key g ht; omega
  · subst g; omega
  · have := offs_in ps key g hu; omega
theorem csort_at (ps : List Nat) (key : Nat → Nat) : ∀ {K k t : Nat}, k < K → t < (pick ps key k).length → (csort K ps key).getD (offs ps key k + t) 0 = (pick ps key k).getD t 0 := by
  intro K
  induction K with
  | zero => intro k t h _; omega
  | succ K ih =>
    intro k t hk ht
    rw [csort_succ]
    by_cases h : k < K
    · have hlt : offs ps key k + t < (csort K ps key).length := offs_in ps key h ht
      rw [← ih h ht]
      simp only [List.getD_eq_getElem?_getD]
      rw [List.getElem?_append_left hlt]
    · have e : k = K := by omega
      subst e
      simp only [List.getD_eq_getElem?_getD]
      rw [List.getElem?_append_right (by unfold offs; omega)]
      congr 2
      unfold offs; omega
theorem csort_split (ps : List Nat) (key : Nat → Nat) : ∀ {K j : Nat}, j < (csort K ps key).length → ∃ k t, k < K ∧ t < (pick ps key k).length ∧ j = offs ps key k + t := by
  intro K
  induction K with
  | zero => intro j h; simp [csort] at h
  | succ K ih =>
    intro j hj
    by_cases h : j < (csort K ps key).length
    · obtain ⟨k, t, h1, h2, h3⟩ := ih h
      exact ⟨k, t, by omega, h2, h3⟩
    · refine ⟨K, j - offs ps key K, by omega, ?_, by unfold offs; omega⟩
      rw [csort_succ, List.length_append] at hj
      unfold offs; omega
theorem csort_perm_lt (ps : List Nat) (key : Nat → Nat) : ∀ K, (csort K ps key).Perm (ps.filter fun p => decide (key p < K)) := by
  intro K
  induction K with
  | zero =>
    have : (ps.filter fun p => decide (key p < 0)) = [] := by rw [List.filter_eq_nil_iff]; intro a _; simp
    rw [this]
    exact List.Perm.refl _
  | succ K ih =>
    rw [csort_succ]
    have h := List.filter_append_perm (fun p => decide (key p < K)) (ps.filter fun p => decide (key p < K + 1))
    rw [List.filter_filter, List.filter_filter] at h
    have e1 : (ps.filter fun a => decide (key a < K) && decide (key a < K + 1)) = ps.filter fun p => decide (key p < K) := by
      congr 1; funext a; rw [Bool.eq_iff_iff]; simp; omega
    have e2 : (ps.filter fun a => !decide (key a < K) && decide (key a < K + 1)) = pick ps key K := by
      unfold pick; congr 1; funext a; rw [Bool.eq_iff_iff]; simp; omega
    rw [e1, e2] at h
    exact (ih.append_right _).trans h
theorem csort_perm {K : Nat} {ps : List Nat} {key : Nat → Nat} (h : ∀ p ∈ ps, key p < K) : (csort K ps key).Perm ps := by
  have := csort_perm_lt ps key K
  have e : (ps.filter fun p => decide (key p < K)) = ps := by
    rw [List.filter_eq_self]; intro a ha; simpa using h a ha
  rwa [e] at this
theorem csort_len {K : Nat} {ps : List Nat} {key : Nat → Nat} (h : ∀ p ∈ ps, key p < K) : offs ps key K = ps.length := (csort_perm h).length_eq
/-- By key; those of one key as they stood. -/
theorem csort_sorted (K : Nat) {ps : List Nat} (key : Nat → Nat) {Q : Nat → Nat → Prop} (h : ps.Pairwise Q) : (csort K ps key).Pairwise fun p q => key p < key q ∨ (key p = key q ∧ Q p q) := by
  unfold csort
  rw [List.pairwise_flatMap]
  have hk : ∀ {k p}, p ∈ pick ps key k → key p = k := fun hp => by
    have := (List.mem_filter.1 hp).2
    simpa using this
  constructor
  · intro k _
    refine (List.Pairwise.imp_of_mem ?_ (h.filter (p := fun p => key p == k)))
    intro a b ha hb hq
    exact .inr ⟨(hk ha).trans (hk hb).symm, hq⟩
  · refine List.pairwise_lt_range.imp ?_
    intro a b hab x hx y hy
    rw [hk hx, hk hy]
    exact .inl hab

/-- How many of the first i have key k. -/
def cntN (ks : List Nat) (i k : Nat) : Nat := (pick (List.range i) (fun p => ks.getD p 0) k).length
theorem cntN_zero (ks : List Nat) (k : Nat) : cntN ks 0 k = 0 := rfl
theorem cntN_same {ks : List Nat} {i k : Nat} (h : ks.getD i 0 = k) : cntN ks (i + 1) k = cntN ks i k + 1 := by
  unfold cntN pick
  rw [List.range_succ, List.filter_append, List.length_append, List.filter_cons_of_pos (by simpa using h)]
  rfl
theorem cntN_other {ks : List Nat} {i k : Nat} (h : ks.getD i 0 ≠ k) : cntN ks (i + 1) k = cntN ks i k := by
  unfold cntN pick
  rw [List.range_succ, List.filter_append, List.length_append]
  have : ([i].filter fun p => ks.getD p 0 == k) = [] := by
    rw [List.filter_eq_nil_iff]; intro a ha; simp only [List.mem_singleton] at ha; subst ha; simpa using h
  rw [this]; rfl
theorem cntN_all {ks ps : List Nat} {n : Nat} (h : ps.Perm (List.range n)) (k : Nat) : cntN ks n k = (pick ps (fun p => ks.getD p 0) k).length := ((h.filter _).length_eq).symm

theorem pick_snoc_same {ps : List Nat} {key : Nat → Nat} {p k : Nat} (h : key p = k) : pick (ps ++ [p]) key k = pick ps key k ++ [p] := by
  unfold pick
  rw [List.filter_append]
  congr 1
  simp [h]
theorem pick_snoc_other {ps : List Nat} {key : Nat → Nat} {p k : Nat} (h : key p ≠ k) : pick (ps ++ [p]) key k = pick ps key k := by
  unfold pick
  rw [List.filter_append]
  have : ([p].filter fun q => key q == k) = [] := by
    rw [List.filter_eq_nil_iff]; intro a ha; simp only [List.mem_singleton] at ha; subst ha; simpa using h
  rw [this, List.append_nil]
theorem pick_split (ps : List Nat) (key : Nat → Nat) (i k : Nat) : pick ps key k = pick (ps.take i) key k ++ pick (ps.drop i) key k := by
  unfold pick
  rw [← List.filter_append, List.take_append_drop]
theorem pick_le (ps : List Nat) (key : Nat → Nat) (i k : Nat) : (pick (ps.take i) key k).length ≤ (pick ps key k).length := by
  rw [pick_split ps key i k, List.length_append]; omega
/-- The next of a key's row. -/
theorem pick_next {ps : List Nat} {key : Nat → Nat} {i : Nat} (hi : i < ps.length) : (pick (ps.take i) key (key (ps.getD i 0))).length < (pick ps key (key (ps.getD i 0))).length ∧
    (pick ps key (key (ps.getD i 0))).getD (pick (ps.take i) key (key (ps.getD i 0))).length 0 = ps.getD i 0 := by
  have e : pick (ps.drop i) key (key (ps.getD i 0)) = ps.getD i 0 :: pick (ps.drop (i + 1)) key (key (ps.getD i 0)) := by
    rw [dropN_cons hi]
    unfold pick
    rw [List.filter_cons_of_pos (by simp)]
  have e2 := pick_split ps key i (key (ps.getD i 0))
  rw [e] at e2
  constructor
  · rw [e2, List.length_append, List.length_cons]; omega
  · conv => lhs; rw [e2]
    simp only [List.getD_eq_getElem?_getD]
    rw [List.getElem?_append_right (Nat.le_refl _)]
    simp

/-- What the last loop of the sort keeps. -/
def Fill (ps : List Nat) (key : Nat → Nat) (K i : Nat) (fr row : List Nat) : Prop :=
  (∀ k, k < K → fr.getD k 0 = offs ps key k + (pick (ps.take i) key k).length) ∧
  ∀ k t, k < K → t < (pick (ps.take i) key k).length → row.getD (offs ps key k + t) 0 = (pick ps key k).getD t 0

theorem Fill.start {ps : List Nat} {key : Nat → Nat} {K : Nat} {fr row : List Nat} (h : ∀ k, k < K → fr.getD k 0 = offs ps key k) : Fill ps key K 0 fr row :=
  ⟨fun k hk => by rw [h k hk]; simp [pick], fun k t _ ht => by simp [pick] at ht⟩
theorem Fill.at {ps : List Nat} {key : Nat → Nat} {K i : Nat} {fr row : List Nat} (h : Fill ps key K i fr row) (hK : ∀ p ∈ ps, key p < K) (hi : i < ps.length) : fr.getD (key (ps.getD i 0)) 0 < ps.length := by
  have hk := hK _ (getN_mem hi)
  rw [h.1 _ hk, ← csort_len hK]
  exact offs_in ps key hk (pick_next hi).1
theorem Fill.next {ps : List Nat} {key : Nat → Nat} {K i : Nat} {fr row : List Nat} (h : Fill ps key K i fr row) (hK : ∀ p ∈ ps, key p < K) (hi : i < ps.length) (hr : row.length = ps.length) (hf : K ≤ fr.length) :
    Fill ps key K (i + 1) (fr.set (key (ps.getD i 0)) (fr.getD (key (ps.getD i 0)) 0 + 1)) (row.set (fr.getD (key (ps.getD i 0)) 0) (ps.getD i 0)) := by
  have hk := hK _ (getN_mem hi)
  have hat := h.at hK hi
  obtain ⟨n1, n2⟩ := pick_next (key := key) hi
  generalize hp : ps.getD i 0 = p at *
  have hs : ∀ k, key p = k → pick (ps.take (i + 1)) key k = pick (ps.take i) key k ++ [p] := fun k e => by rw [takeN_succ hi, hp, pick_snoc_same e]
  have ho : ∀ k, key p ≠ k → pick (ps.take (i + 1)) key k = pick (ps.take i) key k := fun k e => by rw [takeN_succ hi, hp, pick_snoc_other e]
  constructor
  · intro k hk2
    by_cases e : key p = k
    · rw [hs k e, ← e, set_same (by omega), h.1 _ hk, List.length_append]
      simp; omega
    · rw [ho k e, set_other e, h.1 k hk2]
  · intro k t hk2 ht
    by_cases e : key p = k
    · rw [hs k e, List.length_append] at ht
      simp at ht
      by_cases et : t = (pick (ps.take i) key k).length
      · have : offs ps key k + t = fr.getD (key p) 0 := by rw [h.1 _ hk, e, et]
        rw [this, set_same (by omega), et, ← e, n2]
      · rw [set_other ?_]
        · exact h.2 k t hk2 (by omega)
        · rw [h.1 _ hk]
          intro e2
          have := offs_inj ps key (k := key p) (l := k) n1 (by have := pick_le ps key i k; omega) e2
          rw [e] at this
          omega
    · rw [ho k e] at ht
      rw [set_other ?_]
      · exact h.2 k t hk2 ht
      · rw [h.1 _ hk]
        intro e2
        exact e (offs_inj ps key (k := key p) (l := k) n1 (by have := pick_le ps key i k; omega) e2).1
theorem Fill.done {ps : List Nat} {key : Nat → Nat} {K : Nat} {fr row : List Nat} (h : Fill ps key K ps.length fr row) (hK : ∀ p ∈ ps, key p < K) (hr : row.length = ps.length) : row = csort K ps key := by
  have hl : (csort K ps key).length = ps.length := csort_len hK
  refine natL_ext (by omega) fun j hj => ?_
  obtain ⟨k, t, h1, h2, rfl⟩ := csort_split ps key (K := K) (j := j) (by omega)
  rw [csort_at ps key h1 h2, h.2 k t h1 (by rwa [List.take_length])]
theorem nodup_getN {l : List Nat} (h : l.Nodup) {i j : Nat} (hi : i < l.length) (hj : j < l.length) (e : l.getD i 0 = l.getD j 0) : i = j := by
  rw [List.getD_eq_getElem?_getD, List.getD_eq_getElem?_getD, List.getElem?_eq_getElem hi, List.getElem?_eq_getElem hj] at e
  exact (List.getElem_inj h).1 e
theorem natL_snoc (l : List Nat) (i : Nat) : natL l ++ [(i : Int)] = natL (l ++ [i]) := by simp [natL]
end Go.Proofs.Yticblbegjfcbdaa

/- Keys that may be, counted; what stands ahead of each; the document's insertion by key. Plain numbers, no conditions. -/
namespace Go.Proofs.Yticblbegjfcbdaa
set_option linter.unusedVariables false
set_option linter.unusedSimpArgs false

theorem getI_mem {l : List Int} {i : Nat} (h : i < l.length) : l.getD i 0 ∈ l := by
  rw [List.getD_eq_getElem?_getD, List.getElem?_eq_getElem h]
  exact List.getElem_mem h
theorem mem_getI {l : List Int} {x : Int} (h : x ∈ l) : ∃ i, i < l.length ∧ l.getD i 0 = x := by
  obtain ⟨i, hi, e⟩ := List.mem_iff_getElem.1 h
  exact ⟨i, hi, by rw [List.getD_eq_getElem?_getD, List.getElem?_eq_getElem hi]; exact e⟩
theorem setI_same {l : List Int} {i : Nat} {x : Int} (h : i < l.length) : (l.set i x).getD i 0 = x := by simp [List.getD, h]
theorem setI_other {l : List Int} {i j : Nat} {x : Int} (h : i ≠ j) : (l.set i x).getD j 0 = l.getD j 0 := by
  simp only [List.getD_eq_getElem?_getD]
  rw [List.getElem?_set_ne h]
theorem mapI_at {α : Type} (f : Nat → α) (d : α) {n i : Nat} (h : i < n) : ((List.range n).map f).getD i d = f i := by simp [List.getD, h]

/-- All are 0 to n - 1. -/
def goodI (n : Int) (zs : List Int) : Bool := zs.all fun z => decide (0 ≤ z) && decide (z < n)
theorem goodI_iff {n : Int} {zs : List Int} : goodI n zs = true ↔ ∀ z ∈ zs, 0 ≤ z ∧ z < n := by simp [goodI]
theorem goodI_of {n : Int} {zs : List Int} (h : ∀ j, j < zs.length → 0 ≤ zs.getD j 0 ∧ zs.getD j 0 < n) : goodI n zs = true :=
  goodI_iff.2 fun z hz => by obtain ⟨i, hi, rfl⟩ := mem_getI hz; exact h i hi
theorem goodI_at {n : Int} {zs : List Int} (h : goodI n zs = true) {j : Nat} (hj : j < zs.length) : 0 ≤ zs.getD j 0 ∧ zs.getD j 0 < n := goodI_iff.1 h _ (getI_mem hj)
theorem goodI_bad {n : Int} {zs : List Int} {j : Nat} (hj : j < zs.length) (h : zs.getD j 0 < 0 ∨ n ≤ zs.getD j 0) : goodI n zs = false := by
  rw [Bool.eq_false_iff]
  intro hg
  have := goodI_at hg hj
  omega
/-- k may be, and each key is 0 to k - 1. -/
def fitB (zs : List Int) (k : Int) : Bool := decide (0 ≤ k) && decide (k ≤ 1048576) && goodI k zs
theorem fitB_iff {zs : List Int} {k : Int} : fitB zs k = true ↔ 0 ≤ k ∧ k ≤ 1048576 ∧ goodI k zs = true := by simp [fitB, and_assoc]
theorem fitB_eq {zs : List Int} {k : Int} (h0 : 0 ≤ k) (h1 : k ≤ 1048576) : fitB zs k = goodI k zs := by simp [fitB, h0, h1]
theorem fitB_neg {zs : List Int} {k : Int} (h : k < 0) : fitB zs k = false := by simp [fitB]; omega
theorem fitB_big {zs : List Int} {k : Int} (h : 1048576 < k) : fitB zs k = false := by simp [fitB]; omega

/-- Go's numbers as natural ones. -/
def toN (zs : List Int) : List Nat := zs.map Int.toNat
theorem toN_len (zs : List Int) : (toN zs).length = zs.length := List.length_map _
theorem toN_at (zs : List Int) (i : Nat) : (toN zs).getD i 0 = (zs.getD i 0).toNat := by
  simp only [toN, List.getD_eq_getElem?_getD, List.getElem?_map]
  cases zs[i]? <;> rfl
theorem toN_nat (l : List Nat) : toN (natL l) = l := by
  unfold toN natL
  rw [List.map_map]
  conv => rhs; rw [← List.map_id l]
  rfl
theorem natL_toN {n : Int} {zs : List Int} (h : goodI n zs = true) : natL (toN zs) = zs := by
  refine getD_ext (by rw [natL_len, toN_len]) fun k hk => ?_
  rw [natL_len, toN_len] at hk
  have := goodI_at h hk
  rw [natL_at, toN_at]
  omega
theorem good_nat {n : Nat} {l : List Nat} (h : ∀ x ∈ l, x < n) : goodI (n : Int) (natL l) = true := by
  rw [goodI_iff]
  intro z hz
  obtain ⟨x, hx, rfl⟩ := List.mem_map.1 hz
  have := h x hx
  omega

/-- How often q stands among the first i. -/
def cntI (zs : List Int) (q : Nat) : Nat → Nat
  | 0 => 0
  | i + 1 => cntI zs q i + if zs.getD i 0 = (q : Int) then 1 else 0
theorem cntI_le (zs : List Int) (q i : Nat) : cntI zs q i ≤ i := by
  induction i with
  | zero => exact Nat.le_refl _
  | succ i ih => unfold cntI; split <;> omega
theorem cntI_succ (zs : List Int) (q i : Nat) : cntI zs q (i + 1) = cntI zs q i + if zs.getD i 0 = (q : Int) then 1 else 0 := rfl
theorem cntI_same {zs : List Int} {q i : Nat} (h : zs.getD i 0 = (q : Int)) : cntI zs q (i + 1) = cntI zs q i + 1 := by rw [cntI_succ, if_pos h]
theorem cntI_other {zs : List Int} {q i : Nat} (h : zs.getD i 0 ≠ (q : Int)) : cntI zs q (i + 1) = cntI zs q i := by rw [cntI_succ, if_neg h]; omega
def cntsI (zs : List Int) (K : Nat) : List Nat := (List.range K).map fun q => cntI zs q zs.length
theorem cntsI_len (zs : List Int) (K : Nat) : (cntsI zs K).length = K := by simp [cntsI]
theorem cntsI_at (zs : List Int) {K q : Nat} (h : q < K) : (cntsI zs K).getD q 0 = cntI zs q zs.length := mapI_at _ _ h
theorem cntI_pick {ps : List Nat} {key : Nat → Nat} {zs : List Int} (hz : ∀ j, j < ps.length → zs.getD j 0 = (key (ps.getD j 0) : Int)) (q : Nat) : ∀ i, i ≤ ps.length → cntI zs q i = (pick (ps.take i) key q).length := by
  intro i
  induction i with
  | zero => intro _; simp [cntI, pick]
  | succ i ih =>
    intro hi
    have h1 := hz i (by omega)
    rw [takeN_succ (by omega)]
    by_cases e : key (ps.getD i 0) = q
    · rw [pick_snoc_same e, cntI_same (by rw [h1, e]), ih (by omega), List.length_append]; rfl
    · rw [pick_snoc_other e, cntI_other (by rw [h1]; omega), ih (by omega)]

/-- How many there are ahead, together. -/
def sumI (cs : List Int) : Nat → Int
  | 0 => 0
  | i + 1 => sumI cs i + cs.getD i 0
def startsI (cs : List Int) : List Int := (List.range cs.length).map (sumI cs)
theorem startsI_len (cs : List Int) : (startsI cs).length = cs.length := by simp [startsI]
theorem startsI_at (cs : List Int) {i : Nat} (h : i < cs.length) : (startsI cs).getD i 0 = sumI cs i := mapI_at _ _ h
theorem sumI_le {cs : List Int} {b : Int} (h : ∀ j, j < cs.length → -b ≤ cs.getD j 0 ∧ cs.getD j 0 ≤ b) : ∀ i : Nat, i ≤ cs.length → -(i * b) ≤ sumI cs i ∧ sumI cs i ≤ i * b := by
  intro i
  induction i with
  | zero => intro _; simp [sumI]
  | succ i ih =>
    intro hi
    have h1 := ih (by omega)
    have h2 := h i (by omega)
    have e : ((i + 1 : Nat) : Int) * b = i * b + b := by rw [Int.natCast_add, Int.add_mul]; simp
    rw [e]
    unfold sumI
    omega
theorem sum_offs {ps : List Nat} {key : Nat → Nat} {K : Nat} {bs : List Nat} (hb : ∀ q, q < K → bs.getD q 0 = (pick ps key q).length) : ∀ q, q ≤ K → sumI (natL bs) q = (offs ps key q : Int) := by
  intro q
  induction q with
  | zero => intro _; rfl
  | succ q ih =>
    intro hq
    unfold sumI
    rw [ih (by omega), natL_at, hb q (by omega), offs_succ]
    simp

/-- Which numbers a pass may take, and what it makes of them. -/
def passB (os ks : List Int) (k : Int) : Bool := fitB ks k && goodI (ks.length : Int) os
def keyN (ks : List Int) (p : Nat) : Nat := (ks.getD p 0).toNat
def passI (os ks : List Int) (k : Int) : List Int := if passB os ks k = true then natL (csort k.toNat (toN os) (keyN ks)) else []
theorem passI_yes {os ks : List Int} {k : Int} (h : passB os ks k = true) : passI os ks k = natL (csort k.toNat (toN os) (keyN ks)) := if_pos h
theorem passI_no {os ks : List Int} {k : Int} (h : passB os ks k = false) : passI os ks k = [] := by unfold passI; rw [h]; rfl
theorem passB_iff {os ks : List Int} {k : Int} : passB os ks k = true ↔ fitB ks k = true ∧ goodI (ks.length : Int) os = true := by simp [passB]
theorem keyN_lt {ks : List Int} {k : Int} (h : fitB ks k = true) {p : Nat} (hp : p < ks.length) : keyN ks p < k.toNat := by
  have := goodI_at (fitB_iff.1 h).2.2 hp
  unfold keyN
  omega
theorem passB_key {os ks : List Int} {k : Int} (h : passB os ks k = true) : ∀ p ∈ toN os, keyN ks p < k.toNat := by
  intro p hp
  obtain ⟨h1, h2⟩ := passB_iff.1 h
  obtain ⟨z, hz, rfl⟩ := List.mem_map.1 hp
  have := goodI_iff.1 h2 z hz
  exact keyN_lt h1 (by omega)
/-- The keys of an order's places. -/
def ownI (os ks : List Int) : List Int := os.map fun z => ks.getD z.toNat 0
theorem ownI_len (os ks : List Int) : (ownI os ks).length = os.length := List.length_map _
theorem ownI_at (os ks : List Int) {j : Nat} (h : j < os.length) : (ownI os ks).getD j 0 = ks.getD (os.getD j 0).toNat 0 := by simp [ownI, List.getD, h]
theorem ownI_key {os ks : List Int} {k : Int} (h : passB os ks k = true) {j : Nat} (hj : j < os.length) : (ownI os ks).getD j 0 = (keyN ks ((toN os).getD j 0) : Int) := by
  obtain ⟨h1, h2⟩ := passB_iff.1 h
  have h3 := goodI_at h2 hj
  have h4 := goodI_at (fitB_iff.1 h1).2.2 (j := (os.getD j 0).toNat) (by omega)
  rw [ownI_at _ _ hj, toN_at]
  unfold keyN
  omega
theorem ownI_fit {os ks : List Int} {k : Int} (h : passB os ks k = true) : fitB (ownI os ks) k = true := by
  obtain ⟨h1, h2⟩ := passB_iff.1 h
  obtain ⟨h3, h4, h5⟩ := fitB_iff.1 h1
  refine fitB_iff.2 ⟨h3, h4, goodI_of fun j hj => ?_⟩
  rw [ownI_len] at hj
  have := goodI_at h2 hj
  rw [ownI_at _ _ hj]
  exact goodI_at h5 (by omega)

/-- The document's insertion. -/
theorem mem_csort {K : Nat} {ps : List Nat} {key : Nat → Nat} {x : Nat} (h : x ∈ csort K ps key) : x ∈ ps ∧ key x < K := by
  obtain ⟨q, hq, hx⟩ := List.mem_flatMap.1 h
  obtain ⟨h1, h2⟩ := List.mem_filter.1 hx
  have := List.mem_range.1 hq
  have e : key x = q := by simpa using h2
  exact ⟨h1, by omega⟩
theorem csort_snoc_lt {ps : List Nat} {key : Nat → Nat} {p : Nat} : ∀ {K : Nat}, K ≤ key p → csort K (ps ++ [p]) key = csort K ps key := by
  intro K
  induction K with
  | zero => intro _; rfl
  | succ K ih => intro h; rw [csort_succ, csort_succ, ih (by omega), pick_snoc_other (by omega)]
theorem csort_snoc {ps : List Nat} {key : Nat → Nat} {p : Nat} : ∀ {K : Nat}, key p < K → ∃ R, csort K ps key = csort (key p + 1) ps key ++ R ∧ csort K (ps ++ [p]) key = csort (key p + 1) ps key ++ [p] ++ R ∧ ∀ x ∈ R, key p < key x := by
  intro K
  induction K with
  | zero => intro h; omega
  | succ K ih =>
    intro h
    by_cases hK : key p < K
    · obtain ⟨R, h1, h2, h3⟩ := ih hK
      refine ⟨R ++ pick ps key K, ?_, ?_, fun x hx => ?_⟩
      · rw [csort_succ, h1, List.append_assoc]
      · rw [csort_succ, h2, pick_snoc_other (by omega), List.append_assoc]
      · rcases List.mem_append.1 hx with hx | hx
        · exact h3 x hx
        · have : key x = K := by simpa using (List.mem_filter.1 hx).2
          omega
    · have e : key p = K := by omega
      refine ⟨[], ?_, ?_, fun x hx => by cases hx⟩
      · rw [e]; simp
      · rw [csort_succ, csort_snoc_lt (by omega), pick_snoc_same e, List.append_nil, e, csort_succ, List.append_assoc]
theorem ins_place {K : Nat} {ps : List Nat} {key : Nat → Nat} {p j : Nat} (hk : key p < K) (hj : j ≤ (csort K ps key).length) (h1 : ∀ m, j ≤ m → m < (csort K ps key).length → key p < key ((csort K ps key).getD m 0))
    (h2 : j = 0 ∨ key ((csort K ps key).getD (j - 1) 0) ≤ key p) : (csort K ps key).take j ++ [p] ++ (csort K ps key).drop j = csort K (ps ++ [p]) key := by
  obtain ⟨R, e1, e2, e3⟩ := csort_snoc (ps := ps) hk
  have hA : ∀ x ∈ csort (key p + 1) ps key, key x ≤ key p := fun x hx => by have := (mem_csort hx).2; omega
  rw [e2]
  rw [e1] at hj h1 h2 ⊢
  generalize csort (key p + 1) ps key = A at *
  have hjA : j = A.length := by
    rcases Nat.lt_trichotomy j A.length with g | g | g
    · have h3 := h1 j (Nat.le_refl _) (by rw [List.length_append]; omega)
      have e : (A ++ R).getD j 0 = A.getD j 0 := by
        simp only [List.getD_eq_getElem?_getD]
        rw [List.getElem?_append_left g]
      rw [e] at h3
      have := hA _ (getN_mem g)
      omega
    · exact g
    · rcases h2 with h2 | h2
      · omega
      · rw [List.length_append] at hj
        have e : (A ++ R).getD (j - 1) 0 = R.getD (j - 1 - A.length) 0 := by
          simp only [List.getD_eq_getElem?_getD]
          rw [List.getElem?_append_right (by omega)]
        rw [e] at h2
        have := e3 _ (getN_mem (l := R) (i := j - 1 - A.length) (by omega))
        omega
  subst hjA
  rw [List.take_left, List.drop_left]
theorem pairN_at {R : Nat → Nat → Prop} {l : List Nat} (h : l.Pairwise R) {i j : Nat} (hij : i < j) (hj : j < l.length) : R (l.getD i 0) (l.getD j 0) := by
  have := List.pairwise_iff_getElem.1 h i j (by omega) hj hij
  simpa [List.getD, List.getElem?_eq_getElem hj, List.getElem?_eq_getElem (show i < l.length by omega)] using this
/-- A pass over all places. -/
theorem all_at {K n : Nat} {key : Nat → Nat} (hK : ∀ p, p < n → key p < K) : (csort K (List.range n) key).length = n ∧ (∀ i, i < n → (csort K (List.range n) key).getD i 0 < n) ∧
    (csort K (List.range n) key).Nodup ∧ ∀ i, i + 1 < n → key ((csort K (List.range n) key).getD i 0) < key ((csort K (List.range n) key).getD (i + 1) 0) ∨
      (key ((csort K (List.range n) key).getD i 0) = key ((csort K (List.range n) key).getD (i + 1) 0) ∧ (csort K (List.range n) key).getD i 0 < (csort K (List.range n) key).getD (i + 1) 0) := by
  have hp : (csort K (List.range n) key).Perm (List.range n) := csort_perm fun p hp => hK p (List.mem_range.1 hp)
  have hl : (csort K (List.range n) key).length = n := by rw [hp.length_eq, List.length_range]
  refine ⟨hl, fun i hi => List.mem_range.1 (hp.mem_iff.1 (getN_mem (by omega))), hp.nodup_iff.2 List.nodup_range, fun i hi => ?_⟩
  exact pairN_at (csort_sorted K key List.pairwise_lt_range) (Nat.lt_succ_self i) (by omega)
/-- By the lower key, then by the higher one. -/
theorem two_at {K n : Nat} {H L : Nat → Nat} (hH : ∀ p, p < n → H p < K) (hL : ∀ p, p < n → L p < K) {b : List Nat} (hb : b = csort K (csort K (List.range n) L) H) : b.length = n ∧ (∀ i, i < n → b.getD i 0 < n) ∧
    ∀ i, i + 1 < n → H (b.getD i 0) < H (b.getD (i + 1) 0) ∨ (H (b.getD i 0) = H (b.getD (i + 1) 0) ∧ (L (b.getD i 0) < L (b.getD (i + 1) 0) ∨ (L (b.getD i 0) = L (b.getD (i + 1) 0) ∧ b.getD i 0 < b.getD (i + 1) 0))) := by
  have hp : (csort K (List.range n) L).Perm (List.range n) := csort_perm fun p hp => hL p (List.mem_range.1 hp)
  have hq : (csort K (csort K (List.range n) L) H).Perm (csort K (List.range n) L) := csort_perm fun p h => hH p (List.mem_range.1 (hp.mem_iff.1 h))
  have hr := hq.trans hp
  have hs := csort_sorted K H (csort_sorted K L (List.pairwise_lt_range (n := n)))
  rw [← hb] at hr hs
  have hl : b.length = n := by rw [hr.length_eq, List.length_range]
  refine ⟨hl, fun i hi => List.mem_range.1 (hr.mem_iff.1 (getN_mem (by omega))), fun i hi => ?_⟩
  exact pairN_at hs (Nat.lt_succ_self i) (by omega)
end Go.Proofs.Yticblbegjfcbdaa

/- Places in order of their endings: there is just one such row. Plain numbers, no conditions. -/
namespace Go.Proofs.Yticblbegjfcbdaa
set_option linter.unusedVariables false
set_option linter.unusedSimpArgs false

/-- Endings in order. -/
def ltE (s : List Int) (a b : Nat) : Prop := cmpI (s.drop a) (s.drop b) < 0
theorem ltE_less {s : List Int} {a b : Nat} (ha : a < s.length) (hb : b < s.length) (h : s.getD a 0 < s.getD b 0) : ltE s a b := by
  unfold ltE
  rw [drop_getD ha, drop_getD hb, cmpI, if_pos h]
  decide
theorem ltE_same {s : List Int} {a b : Nat} (ha : a < s.length) (hb : b < s.length) (h : s.getD a 0 = s.getD b 0) : ltE s a b ↔ ltE s (a + 1) (b + 1) := by
  unfold ltE
  rw [drop_getD ha, drop_getD hb, cmpI, if_neg (by omega), if_neg (by omega)]
theorem ltE_end {s : List Int} {a b : Nat} (ha : s.length ≤ a) (hb : b < s.length) : ltE s a b := by
  unfold ltE
  rw [List.drop_of_length_le ha, drop_getD hb, cmpI]
  decide
theorem ltE_irrefl {s : List Int} {a : Nat} : ¬ ltE s a a := by
  unfold ltE
  rw [cmpI_self]
  omega
theorem ltE_trans {s : List Int} {a b c : Nat} (h1 : ltE s a b) (h2 : ltE s b c) : ltE s a c := by
  unfold ltE at *
  have h3 := cmpI_trans (s.drop a) (s.drop b) (s.drop c) (by omega) (by omega)
  by_cases e : cmpI (s.drop a) (s.drop c) = 0
  · have e2 := cmpI_zero e
    rw [← e2, cmpI_swap] at h2
    omega
  · omega
theorem ltE_total {s : List Int} {a b : Nat} (ha : a ≤ s.length) (hb : b ≤ s.length) (hne : a ≠ b) (h : ¬ ltE s a b) : ltE s b a := by
  unfold ltE at *
  rw [cmpI_swap]
  by_cases e : cmpI (s.drop a) (s.drop b) = 0
  · have e2 := congrArg List.length (cmpI_zero e)
    rw [List.length_drop, List.length_drop] at e2
    omega
  · omega
/-- Each place once, in order of endings. -/
def InOrd (s : List Int) (R : List Nat) : Prop := R.Perm (List.range s.length) ∧ R.Pairwise (ltE s)
theorem InOrd.eq {s : List Int} {R R' : List Nat} (h : InOrd s R) (h' : InOrd s R') : R = R' :=
  List.Perm.eq_of_pairwise (fun a b _ _ h3 h4 => absurd (ltE_trans h3 h4) ltE_irrefl) h.2 h'.2 (h.1.trans h'.1.symm)
theorem InOrd.len {s : List Int} {R : List Nat} (h : InOrd s R) : R.length = s.length := by rw [h.1.length_eq, List.length_range]
theorem InOrd.mem {s : List Int} {R : List Nat} (h : InOrd s R) {i : Nat} (hi : i < s.length) : R.getD i 0 < s.length := List.mem_range.1 (h.1.mem_iff.1 (getN_mem (by rw [h.len]; exact hi)))
/-- A place put into its place. -/
theorem ins_ord {s : List Int} {out : List Nat} {i j : Nat} (h : out.Pairwise (ltE s)) (hp : out.Perm (List.range i)) (hi : i < s.length) (hj : j ≤ out.length) (h1 : ∀ q, j ≤ q → q < out.length → ltE s i (out.getD q 0)) (h2 : j = 0 ∨ ¬ ltE s i (out.getD (j - 1) 0)) :
    (out.take j ++ [i] ++ out.drop j).Pairwise (ltE s) ∧ (out.take j ++ [i] ++ out.drop j).Perm (List.range (i + 1)) := by
  have ht : ∀ a ∈ out.take j, ltE s a i := fun a ha => by
    obtain ⟨q, hq, rfl⟩ := mem_getN ha
    rw [List.length_take] at hq
    have e : (out.take j).getD q 0 = out.getD q 0 := by
      simp only [List.getD_eq_getElem?_getD, List.getElem?_take]
      rw [if_pos (by omega)]
    rw [e]
    rcases h2 with h2 | h2
    · omega
    · have hm := List.mem_range.1 (hp.mem_iff.1 (getN_mem (l := out) (i := j - 1) (by omega)))
      have h3 := ltE_total (a := i) (by omega) (by omega) (by omega) h2
      by_cases e2 : q = j - 1
      · rw [e2]; exact h3
      · exact ltE_trans (pairN_at h (show q < j - 1 by omega) (by omega)) h3
  have hd : ∀ a ∈ out.drop j, ltE s i a := fun a ha => by
    obtain ⟨q, hq, rfl⟩ := mem_getN ha
    rw [List.length_drop] at hq
    have e : (out.drop j).getD q 0 = out.getD (j + q) 0 := by simp only [List.getD_eq_getElem?_getD, List.getElem?_drop]
    rw [e]
    exact h1 (j + q) (by omega) (by omega)
  constructor
  · rw [List.append_assoc, List.pairwise_append]
    refine ⟨h.sublist (List.take_sublist _ _), ?_, fun a ha b hb => ?_⟩
    · rw [List.singleton_append, List.pairwise_cons]
      exact ⟨hd, h.sublist (List.drop_sublist _ _)⟩
    · rcases List.mem_append.1 hb with hb | hb
      · rw [List.mem_singleton.1 hb]; exact ht a ha
      · exact ltE_trans (ht a ha) (hd b hb)
  · rw [List.range_succ]
    have e : out ++ [i] = out.take j ++ (out.drop j ++ [i]) := by rw [← List.append_assoc, List.take_append_drop]
    refine List.Perm.trans ?_ (hp.append_right [i])
    rw [e, List.append_assoc]
    exact List.Perm.append_left _ List.perm_append_comm
end Go.Proofs.Yticblbegjfcbdaa

/- The order of one number again and again, and of numbers spread apart. Plain numbers, no conditions. -/
namespace Go.Proofs.Yticblbegjfcbdaa
set_option linter.unusedVariables false
set_option linter.unusedSimpArgs false

theorem same_lt {n : Nat} {z : Int} : ∀ (d a b : Nat), n - a = d → b < a → a ≤ n → ltE (List.replicate n z) a b := by
  intro d
  induction d with
  | zero =>
    intro a b h1 h2 h3
    exact ltE_end (by rw [List.length_replicate]; omega) (by rw [List.length_replicate]; omega)
  | succ d ih =>
    intro a b h1 h2 h3
    rw [ltE_same (by rw [List.length_replicate]; omega) (by rw [List.length_replicate]; omega) (by simp [List.getD, show a < n by omega, show b < n by omega])]
    exact ih (a + 1) (b + 1) (by omega) (by omega) (by omega)
theorem same_ord (n : Nat) (z : Int) : InOrd (List.replicate n z) (List.range n).reverse := by
  refine ⟨by rw [List.length_replicate]; exact List.reverse_perm _, ?_⟩
  rw [List.pairwise_reverse]
  refine (List.pairwise_lt_range (n := n)).imp_of_mem fun ha hb hab => ?_
  exact same_lt _ _ _ rfl hab (by have := List.mem_range.1 hb; omega)
theorem revN_at {n i : Nat} (h : i < n) : (List.range n).reverse.getD i 0 = n - 1 - i := by
  simp [List.getD, h]

theorem cmpI_map {f : Int → Int} (hf : ∀ x y, x < y → f x < f y) : ∀ (x y : List Int), cmpI (x.map f) (y.map f) = cmpI x y
  | [], [] => rfl
  | [], _ :: _ => rfl
  | _ :: _, [] => rfl
  | a :: x, b :: y => by
    rw [List.map_cons, List.map_cons, cmpI, cmpI, cmpI_map hf x y]
    rcases Int.lt_trichotomy a b with h | h | h
    · rw [if_pos h, if_pos (hf _ _ h)]
    · subst h
      rw [if_neg (by omega), if_neg (by omega), if_neg (by omega), if_neg (by omega)]
    · have := hf _ _ h
      rw [if_neg (by omega), if_pos this, if_neg (by omega), if_pos h]
theorem InOrd.map {f : Int → Int} (hf : ∀ x y, x < y → f x < f y) {s : List Int} {R : List Nat} (h : InOrd s R) : InOrd (s.map f) R := by
  refine ⟨by rw [List.length_map]; exact h.1, h.2.imp fun hab => ?_⟩
  unfold ltE at *
  rw [← List.map_drop, ← List.map_drop, cmpI_map hf]
  exact hab
theorem spread_lt {b m : Int} (hb : 1 ≤ b) : ∀ x y : Int, x < y → x * b + m < y * b + m := fun x y h => by
  have := Int.mul_lt_mul_of_pos_right h (show 0 < b by omega)
  omega
theorem spread_in {z b : Int} (h0 : 0 ≤ z) (h1 : z ≤ 200) (hb0 : 1 ≤ b) (hb1 : b ≤ 9) : 0 ≤ z * b ∧ z * b ≤ 200 * b := by
  refine ⟨Int.mul_nonneg h0 (by omega), ?_⟩
  exact Int.mul_le_mul_of_nonneg_right h1 (by omega)
theorem rowI_ext {l l' : List Int} (hl : l.length = l'.length) (h : ∀ i, i < l.length → l.getD i 0 = l'.getD i 0) : l = l' := by
  refine List.ext_getElem hl fun i h1 h2 => ?_
  have := h i h1
  simpa [List.getD, List.getElem?_eq_getElem h1, List.getElem?_eq_getElem h2] using this
end Go.Proofs.Yticblbegjfcbdaa

/- Rows that have each place once, and where each stands. Plain numbers, no conditions. -/
namespace Go.Proofs.Yticblbegjfcbdaa
set_option linter.unusedVariables false
set_option linter.unusedSimpArgs false

theorem nodup_perm {l : List Int} : ∀ {l' : List Int}, l.Nodup → (∀ x ∈ l, x ∈ l') → l'.length ≤ l.length → l.Perm l' := by
  induction l with
  | nil => intro l' _ _ h; rw [List.length_eq_zero_iff.1 (Nat.le_zero.1 h)]
  | cons a l ih =>
    intro l' hn hs hl
    rw [List.nodup_cons] at hn
    have ha := hs a List.mem_cons_self
    have h2 := List.length_erase_of_mem ha
    rw [List.length_cons] at hl
    have h1 := ih (l' := l'.erase a) hn.2 (fun x hx => by
      have hne : x ≠ a := fun e => hn.1 (e ▸ hx)
      exact (List.mem_erase_of_ne hne).2 (hs x (List.mem_cons_of_mem _ hx))) (by omega)
    exact (List.Perm.cons a h1).trans (List.perm_cons_erase ha).symm
theorem natL_mem {l : List Nat} {z : Int} : z ∈ natL l ↔ ∃ p, p ∈ l ∧ z = (p : Int) := by
  unfold natL
  rw [List.mem_map]
  exact ⟨fun ⟨p, h1, h2⟩ => ⟨p, h1, h2.symm⟩, fun ⟨p, h1, h2⟩ => ⟨p, h1, h2.symm⟩⟩
theorem natL_nodup {l : List Nat} (h : l.Nodup) : (natL l).Nodup := by
  unfold natL List.Nodup
  rw [List.pairwise_map]
  exact h.imp fun h e => h (Int.ofNat.inj e)
theorem takeI_succ {l : List Int} {i : Nat} (h : i < l.length) : l.take (i + 1) = l.take i ++ [l.getD i 0] := by
  rw [List.take_add_one, List.getElem?_eq_getElem h, List.getD_eq_getElem?_getD, List.getElem?_eq_getElem h]
  rfl
theorem nodup_getI {l : List Int} (h : l.Nodup) {i j : Nat} (hi : i < l.length) (hj : j < l.length) (e : l.getD i 0 = l.getD j 0) : i = j := by
  rw [List.getD_eq_getElem?_getD, List.getD_eq_getElem?_getD, List.getElem?_eq_getElem hi, List.getElem?_eq_getElem hj] at e
  exact (List.getElem_inj h).1 e

/-- Is it each place once? -/
def ordB (l : List Int) : Bool := l.isPerm (natL (List.range l.length))
theorem ordB_iff {l : List Int} : ordB l = true ↔ l.Perm (natL (List.range l.length)) := List.isPerm_iff
theorem ordB_no {l : List Int} (h : ¬ l.Perm (natL (List.range l.length))) : ordB l = false := by
  rw [Bool.eq_false_iff]
  exact fun e => h (ordB_iff.1 e)
theorem ordB_nat {n : Nat} {R : List Nat} (h : R.Perm (List.range n)) : ordB (natL R) = true := by
  rw [ordB_iff, natL_len, h.length_eq, List.length_range]
  exact h.map _
theorem ordB_nodup {l : List Int} (h : ordB l = true) : l.Nodup := (ordB_iff.1 h).nodup_iff.2 (natL_nodup List.nodup_range)
theorem ordB_mem {l : List Int} (h : ordB l = true) {z : Int} : z ∈ l ↔ 0 ≤ z ∧ z < l.length := by
  rw [(ordB_iff.1 h).mem_iff, natL_mem]
  constructor
  · rintro ⟨p, h1, rfl⟩
    have := List.mem_range.1 h1
    omega
  · intro ⟨h1, h2⟩
    exact ⟨z.toNat, List.mem_range.2 (by omega), by omega⟩
/-- Where each stands. -/
def invI (l : List Int) : List Int := if ordB l = true then natL ((List.range l.length).map fun (x : Nat) => l.idxOf (x : Int)) else []
theorem invI_no {l : List Int} (h : ordB l = false) : invI l = [] := by unfold invI; rw [h]; rfl
theorem invI_len {l : List Int} (h : ordB l = true) : (invI l).length = l.length := by
  unfold invI
  rw [if_pos h, natL_len, List.length_map, List.length_range]
theorem invI_at {l : List Int} (h : ordB l = true) {i p : Nat} (hi : i < l.length) (hp : l.getD i 0 = (p : Int)) : (invI l).getD p 0 = (i : Int) := by
  have hpn : p < l.length := by
    have := (ordB_mem h).1 (getI_mem hi)
    omega
  unfold invI
  rw [if_pos h, natL_at, mapI_at _ _ hpn]
  have hm : (p : Int) ∈ l := (ordB_mem h).2 ⟨by omega, by omega⟩
  have h1 := List.idxOf_lt_length_of_mem hm
  have h2 : l.getD (l.idxOf (p : Int)) 0 = (p : Int) := by
    rw [List.getD_eq_getElem?_getD, List.getElem?_eq_getElem h1]
    exact List.getElem_idxOf h1
  have := nodup_getI (ordB_nodup h) h1 hi (by rw [h2, hp])
  omega
theorem invI_eq {l bs : List Int} (h : ordB l = true) (hl : bs.length = l.length) (hb : ∀ i p : Nat, i < l.length → l.getD i 0 = (p : Int) → bs.getD p 0 = (i : Int)) : bs = invI l := by
  refine getD_ext (by rw [hl, invI_len h]) fun p hp => ?_
  rw [hl] at hp
  have hm : (p : Int) ∈ l := (ordB_mem h).2 ⟨by omega, by omega⟩
  obtain ⟨i, hi, e⟩ := mem_getI hm
  rw [hb i p hi e, invI_at h hi e]

/-- What the search for where each stands keeps. -/
structure Inv (l : List Int) (i : Nat) (bs : List Int) : Prop where
  len : bs.length = l.length
  nodup : (l.take i).Nodup
  good : ∀ z ∈ l.take i, 0 ≤ z ∧ z < l.length
  at' : ∀ j p : Nat, j < i → j < l.length → l.getD j 0 = (p : Int) → bs.getD p 0 = (j : Int)
  none : ∀ p : Nat, p < l.length → (p : Int) ∉ l.take i → bs.getD p 0 = -1
theorem Inv.start {l bs : List Int} (hl : bs.length = l.length) (h : ∀ x, x < l.length → bs.getD x 0 = -1) : Inv l 0 bs :=
  ⟨hl, by simp, by simp, (fun j p hj => by omega), fun p hp _ => h p hp⟩
theorem Inv.bad {l bs : List Int} {i : Nat} (h : Inv l i bs) (hi : i < l.length) (hz : l.getD i 0 < 0 ∨ (l.length : Int) ≤ l.getD i 0 ∨ 0 ≤ bs.getD (l.getD i 0).toNat 0) : ordB l = false ∧ invI l = [] := by
  have : ordB l = false := by
    rw [Bool.eq_false_iff]
    intro ho
    have hm := (ordB_mem ho).1 (getI_mem hi)
    rcases hz with hz | hz | hz
    · omega
    · omega
    · obtain ⟨p, hp⟩ : ∃ p : Nat, l.getD i 0 = (p : Int) := ⟨(l.getD i 0).toNat, by omega⟩
      rw [hp, Int.toNat_natCast] at hz
      by_cases hin : (p : Int) ∈ l.take i
      · have hd : (l.take (i + 1)).Nodup := List.Pairwise.sublist (List.take_sublist _ _) (ordB_nodup ho)
        rw [takeI_succ hi, List.nodup_append] at hd
        exact hd.2.2 _ hin _ (List.mem_singleton.2 rfl) hp.symm
      · rw [h.none p (by omega) hin] at hz
        omega
  exact ⟨this, invI_no this⟩
theorem Inv.next {l bs : List Int} {i p : Nat} (h : Inv l i bs) (hi : i < l.length) (hp : l.getD i 0 = (p : Int)) (hpn : p < l.length) (hb : bs.getD p 0 < 0) : Inv l (i + 1) (bs.set p (i : Int)) := by
  have hnot : (p : Int) ∉ l.take i := fun hm => by
    obtain ⟨j, hj, e⟩ := mem_getI hm
    rw [List.length_take] at hj
    have e2 : (l.take i).getD j 0 = l.getD j 0 := by
      simp only [List.getD_eq_getElem?_getD, List.getElem?_take]
      rw [if_pos (by omega)]
    rw [e2] at e
    have := h.at' j p (by omega) (by omega) e
    omega
  refine ⟨by rw [List.length_set]; exact h.len, ?_, fun z hz => ?_, fun j q hj hjl hq => ?_, fun q hq hnq => ?_⟩
  · rw [takeI_succ hi, hp]
    refine List.nodup_append.2 ⟨h.nodup, by simp, fun a ha c hc e => ?_⟩
    simp only [List.mem_singleton] at hc
    exact hnot (by rw [← hc, ← e]; exact ha)
  · rw [takeI_succ hi, hp] at hz
    rcases List.mem_append.1 hz with h1 | h1
    · exact h.good z h1
    · simp only [List.mem_singleton] at h1
      omega
  · by_cases e : j = i
    · subst e
      have : q = p := by omega
      subst this
      rw [setI_same (by rw [h.len]; exact hpn)]
    · have hqp : p ≠ q := fun e2 => by
        subst e2
        refine hnot ?_
        rw [← hq]
        have : (l.take i).getD j 0 = l.getD j 0 := by
          simp only [List.getD_eq_getElem?_getD, List.getElem?_take]
          rw [if_pos (by omega)]
        rw [← this]
        exact getI_mem (by rw [List.length_take]; omega)
      rw [setI_other hqp]
      exact h.at' j q (by omega) hjl hq
  · rw [takeI_succ hi, hp, List.mem_append, List.mem_singleton] at hnq
    rw [setI_other (fun e => hnq (.inr (by rw [e])))]
    exact h.none q hq (fun e => hnq (.inl e))
theorem Inv.done {l bs : List Int} (h : Inv l l.length bs) : ordB l = true ∧ invI l = bs := by
  have h1 := h.nodup
  have h2 := h.good
  rw [List.take_length] at h1 h2
  have ho : ordB l = true := by
    rw [ordB_iff]
    refine nodup_perm h1 (fun z hz => natL_mem.2 ?_) (by rw [natL_len, List.length_range]; exact Nat.le_refl _)
    have := h2 z hz
    exact ⟨z.toNat, List.mem_range.2 (by omega), by omega⟩
  exact ⟨ho, (invI_eq ho h.len fun i p hi hp => h.at' i p hi hi hp).symm⟩
end Go.Proofs.Yticblbegjfcbdaa

/- Ranks by counting; a row's numbers in order, of like ones as they stand. Plain numbers, no conditions. -/
namespace Go.Proofs.Yticblbegjfcbdaa
set_option linter.unusedVariables false
set_option linter.unusedSimpArgs false

theorem nodup_permN {l : List Nat} : ∀ {l' : List Nat}, l.Nodup → (∀ x ∈ l, x ∈ l') → l'.length ≤ l.length → l.Perm l' := by
  induction l with
  | nil => intro l' _ _ h; rw [List.length_eq_zero_iff.1 (Nat.le_zero.1 h)]
  | cons a l ih =>
    intro l' hn hs hl
    rw [List.nodup_cons] at hn
    have ha := hs a List.mem_cons_self
    have h2 := List.length_erase_of_mem ha
    rw [List.length_cons] at hl
    have h1 := ih (l' := l'.erase a) hn.2 (fun x hx => by
      have hne : x ≠ a := fun e => hn.1 (e ▸ hx)
      exact (List.mem_erase_of_ne hne).2 (hs x (List.mem_cons_of_mem _ hx))) (by omega)
    exact (List.Perm.cons a h1).trans (List.perm_cons_erase ha).symm
theorem inj_permN {f : Nat → Nat} {n : Nat} (h : ∀ i, i < n → f i < n) (hi : ∀ i j, i < n → j < n → f i = f j → i = j) : ((List.range n).map f).Perm (List.range n) := by
  refine nodup_permN ?_ (fun x hx => ?_) (by simp)
  · rw [List.Nodup, List.pairwise_map]
    refine List.Pairwise.imp_of_mem ?_ List.nodup_range
    intro a b ha hb hab e
    exact hab (hi a b (List.mem_range.1 ha) (List.mem_range.1 hb) e)
  · obtain ⟨a, ha, rfl⟩ := List.mem_map.1 hx
    exact List.mem_range.2 (h a (List.mem_range.1 ha))

/-- How many there are ahead tells the place. -/
theorem rank_at {R : Nat → Nat → Bool} {S : List Nat} {n i : Nat} (hp : S.Perm (List.range n)) (hs : S.Pairwise fun a b => R a b = true) (hirr : ∀ a, R a a = false) (hasym : ∀ a b, R a b = true → R b a = false) (hi : i < n) :
    ((List.range n).filter fun j => R j (S.getD i 0)).length = i := by
  have hl : S.length = n := by rw [hp.length_eq, List.length_range]
  rw [← (hp.filter _).length_eq]
  have e : S.filter (fun j => R j (S.getD i 0)) = (S.take i).filter (fun j => R j (S.getD i 0)) ++ (S.drop i).filter (fun j => R j (S.getD i 0)) := by rw [← List.filter_append, List.take_append_drop]
  rw [e]
  have e1 : (S.take i).filter (fun j => R j (S.getD i 0)) = S.take i := by
    rw [List.filter_eq_self]
    intro a ha
    obtain ⟨q, hq, rfl⟩ := mem_getN ha
    rw [List.length_take] at hq
    have e2 : (S.take i).getD q 0 = S.getD q 0 := by
      simp only [List.getD_eq_getElem?_getD, List.getElem?_take]
      rw [if_pos (by omega)]
    rw [e2]
    exact pairN_at hs (show q < i by omega) (by omega)
  have e2 : (S.drop i).filter (fun j => R j (S.getD i 0)) = [] := by
    rw [List.filter_eq_nil_iff]
    intro a ha
    obtain ⟨q, hq, rfl⟩ := mem_getN ha
    rw [List.length_drop] at hq
    have e2 : (S.drop i).getD q 0 = S.getD (i + q) 0 := by simp only [List.getD_eq_getElem?_getD, List.getElem?_drop]
    rw [e2]
    by_cases h0 : q = 0
    · subst h0
      rw [Nat.add_zero, hirr]
      decide
    · rw [hasym _ _ (pairN_at hs (show i < i + q by omega) (by omega))]
      decide
  rw [e1, e2, List.append_nil, List.length_take]
  omega

/-- Less; of like ones the one ahead. -/
abbrev Lt1 (l : List Int) (a b : Nat) : Prop := l.getD a 0 < l.getD b 0 ∨ (l.getD a 0 = l.getD b 0 ∧ a < b)
theorem Lt1.irr {l : List Int} {a : Nat} : ¬ Lt1 l a a := by unfold Lt1; omega
theorem Lt1.asymm {l : List Int} {a b : Nat} (h : Lt1 l a b) : ¬ Lt1 l b a := by unfold Lt1 at *; omega
theorem Lt1.trans {l : List Int} {a b c : Nat} (h : Lt1 l a b) (k : Lt1 l b c) : Lt1 l a c := by unfold Lt1 at *; omega
theorem Lt1.total {l : List Int} {a b : Nat} (h : a ≠ b) : Lt1 l a b ∨ Lt1 l b a := by unfold Lt1; omega
/-- How many are less, or like it and ahead of it. -/
def rkN (l : List Int) (k : Nat) : Nat := ((List.range l.length).filter fun j => decide (Lt1 l j k)).length
def lfN (l : List Int) : List Nat := (List.range l.length).map (rkN l)
theorem lfN_len (l : List Int) : (lfN l).length = l.length := by simp [lfN]
theorem lfN_at {l : List Int} {k : Nat} (h : k < l.length) : (lfN l).getD k 0 = rkN l k := mapI_at _ _ h
/-- All places, in order of their numbers. -/
def stN (l : List Int) : List Nat := (List.range l.length).mergeSort fun a b => decide (¬ Lt1 l b a)
theorem stN_perm (l : List Int) : (stN l).Perm (List.range l.length) := List.mergeSort_perm _ _
theorem stN_len (l : List Int) : (stN l).length = l.length := by rw [(stN_perm l).length_eq, List.length_range]
theorem stN_sorted (l : List Int) : (stN l).Pairwise (Lt1 l) := by
  have h := List.pairwise_mergeSort (le := fun a b => decide (¬ Lt1 l b a)) (fun a b c h1 h2 => by
    simp only [decide_eq_true_eq] at *
    unfold Lt1 at *
    omega) (fun a b => by
    simp only [Bool.or_eq_true, decide_eq_true_eq]
    by_cases h : Lt1 l b a
    · exact .inr (fun k => h.asymm k)
    · exact .inl h) (List.range l.length)
  have hn : (stN l).Nodup := (stN_perm l).nodup_iff.2 List.nodup_range
  have h2 : (stN l).Pairwise fun a b => a ≠ b ∧ (decide (¬ Lt1 l b a)) = true := hn.and h
  refine h2.imp fun ⟨h3, h4⟩ => ?_
  simp only [decide_eq_true_eq] at h4
  exact (Lt1.total h3).resolve_right h4
theorem stN_lt {l : List Int} {i : Nat} (h : i < l.length) : (stN l).getD i 0 < l.length := List.mem_range.1 ((stN_perm l).mem_iff.1 (getN_mem (by rw [stN_len]; exact h)))
theorem rk_st {l : List Int} {i : Nat} (h : i < l.length) : rkN l ((stN l).getD i 0) = i :=
  rank_at (R := fun a b => decide (Lt1 l a b)) (stN_perm l) ((stN_sorted l).imp fun h => decide_eq_true h) (fun a => decide_eq_false Lt1.irr) (fun a b h => decide_eq_false (of_decide_eq_true h).asymm) h
theorem st_on {l : List Int} {k : Nat} (h : k < l.length) : ∃ i, i < l.length ∧ (stN l).getD i 0 = k := by
  obtain ⟨i, hi, e⟩ := mem_getN ((stN_perm l).mem_iff.2 (List.mem_range.2 h))
  exact ⟨i, by rw [stN_len] at hi; exact hi, e⟩
theorem rk_lt {l : List Int} {k : Nat} (h : k < l.length) : rkN l k < l.length := by
  obtain ⟨i, hi, rfl⟩ := st_on h
  rw [rk_st hi]
  exact hi
theorem st_rk {l : List Int} {k : Nat} (h : k < l.length) : (stN l).getD (rkN l k) 0 = k := by
  obtain ⟨i, hi, rfl⟩ := st_on h
  rw [rk_st hi]
theorem rk_iff {l : List Int} {j k : Nat} (hj : j < l.length) (hk : k < l.length) : rkN l j < rkN l k ↔ Lt1 l j k := by
  obtain ⟨i, hi, rfl⟩ := st_on hj
  obtain ⟨m, hm, rfl⟩ := st_on hk
  rw [rk_st hi, rk_st hm]
  constructor
  · intro h
    exact pairN_at (stN_sorted l) h (by rw [stN_len]; exact hm)
  · intro h
    rcases Nat.lt_trichotomy i m with g | g | g
    · exact g
    · subst g; exact absurd h Lt1.irr
    · exact absurd (pairN_at (stN_sorted l) g (by rw [stN_len]; exact hi)) h.asymm
theorem rk_inj {l : List Int} {j k : Nat} (hj : j < l.length) (hk : k < l.length) (h : rkN l j = rkN l k) : j = k := by
  rw [← st_rk hj, h, st_rk hk]
theorem lfN_perm (l : List Int) : (lfN l).Perm (List.range l.length) := inj_permN (fun _ h => rk_lt h) (fun _ _ h k e => rk_inj h k e)
end Go.Proofs.Yticblbegjfcbdaa

/- What stands ahead of a text's endings, in order, and the text out of it. Plain numbers, no conditions. -/
namespace Go.Proofs.Yticblbegjfcbdaa
set_option linter.unusedVariables false
set_option linter.unusedSimpArgs false

/-- The rows that have a byte ahead of them. -/
def aheadN (n : Nat) (A : List Nat) : List Nat := (n :: A).filter fun p => decide (p ≠ 0)
/-- What stands ahead of the endings. -/
def bwL (s : List Int) (A : List Nat) : List Int := (aheadN s.length A).map fun p => s.getD (p - 1) 0
/-- Which row the whole text is. -/
def bwAt (s : List Int) (A : List Nat) : Nat := (s.length :: A).idxOf 0

theorem ends_mem {n x : Nat} {A : List Nat} (hA : A.Perm (List.range n)) : x ∈ n :: A ↔ x ≤ n := by
  rw [List.mem_cons, hA.mem_iff, List.mem_range]
  omega
theorem ends_nodup {n : Nat} {A : List Nat} (hA : A.Perm (List.range n)) : (n :: A).Nodup := by
  rw [List.nodup_cons]
  exact ⟨fun h => by have := List.mem_range.1 (hA.mem_iff.1 h); omega, hA.nodup_iff.2 List.nodup_range⟩
theorem ends_len {n : Nat} {A : List Nat} (hA : A.Perm (List.range n)) : (n :: A).length = n + 1 := by
  rw [List.length_cons, hA.length_eq, List.length_range]
theorem ends_le {n : Nat} {A : List Nat} (hA : A.Perm (List.range n)) {r : Nat} (hr : r ≤ n) : (n :: A).getD r 0 ≤ n := (ends_mem hA).1 (getN_mem (by rw [ends_len hA]; omega))
theorem at_le {n : Nat} {A : List Nat} (hA : A.Perm (List.range n)) : (n :: A).idxOf 0 ≤ n := by
  have := List.idxOf_lt_length_of_mem ((ends_mem hA).2 (Nat.zero_le n))
  rw [ends_len hA] at this
  omega
theorem at_is {n : Nat} {A : List Nat} (hA : A.Perm (List.range n)) {r : Nat} (hr : r ≤ n) : (n :: A).getD r 0 = 0 ↔ r = (n :: A).idxOf 0 := by
  have h1 := at_le hA
  have h2 : (n :: A).getD ((n :: A).idxOf 0) 0 = 0 := by
    rw [List.getD_eq_getElem?_getD, List.getElem?_eq_getElem (by rw [ends_len hA]; omega)]
    exact List.getElem_idxOf _
  constructor
  · intro h
    exact nodup_getN (ends_nodup hA) (by rw [ends_len hA]; omega) (by rw [ends_len hA]; omega) (by rw [h, h2])
  · intro h
    rw [h, h2]
theorem ahead_erase {n : Nat} {A : List Nat} (hA : A.Perm (List.range n)) : aheadN n A = (n :: A).eraseIdx ((n :: A).idxOf 0) := by
  unfold aheadN
  have h1 := (ends_nodup hA).erase_eq_filter 0
  have h2 : (n :: A).filter (fun p => decide (p ≠ 0)) = (n :: A).filter (· != 0) := List.filter_congr fun x _ => by
    by_cases h : x = 0 <;> simp [h]
  rw [h2, ← h1]
  exact List.erase_eq_eraseIdx_of_idxOf rfl
theorem ahead_len {n : Nat} {A : List Nat} (hA : A.Perm (List.range n)) : (aheadN n A).length = n := by
  rw [ahead_erase hA, List.length_eraseIdx_of_lt (by have := at_le hA; rw [ends_len hA]; omega), ends_len hA]
  omega
/-- Which row such a one is. -/
def rowOf (at' k : Nat) : Nat := if k < at' then k else k + 1
theorem ahead_at {n : Nat} {A : List Nat} (hA : A.Perm (List.range n)) (k : Nat) : (aheadN n A).getD k 0 = (n :: A).getD (rowOf ((n :: A).idxOf 0) k) 0 := by
  rw [ahead_erase hA]
  simp only [List.getD_eq_getElem?_getD, List.getElem?_eraseIdx, rowOf]
  split <;> rfl
theorem ahead_pos {n : Nat} {A : List Nat} (hA : A.Perm (List.range n)) {k : Nat} (hk : k < n) : 1 ≤ (aheadN n A).getD k 0 ∧ (aheadN n A).getD k 0 ≤ n := by
  have hm := getN_mem (l := aheadN n A) (i := k) (by rw [ahead_len hA]; exact hk)
  unfold aheadN at hm ⊢
  rw [List.mem_filter] at hm
  have h1 := (ends_mem hA).1 hm.1
  have h2 := of_decide_eq_true hm.2
  omega
theorem ahead_perm {n : Nat} {A : List Nat} (hA : A.Perm (List.range n)) : ((List.range n).map fun j => (aheadN n A).getD j 0 - 1).Perm (List.range n) := by
  have hn : (aheadN n A).Nodup := List.Pairwise.sublist List.filter_sublist (ends_nodup hA)
  refine inj_permN (fun j hj => ?_) (fun i j hi hj e => ?_)
  · have := ahead_pos hA hj
    omega
  · have h1 := ahead_pos hA hi
    have h2 := ahead_pos hA hj
    exact nodup_getN hn (by rw [ahead_len hA]; exact hi) (by rw [ahead_len hA]; exact hj) (by omega)
theorem bw_len {s : List Int} {A : List Nat} (hA : A.Perm (List.range s.length)) : (bwL s A).length = s.length := by
  unfold bwL
  rw [List.length_map, ahead_len hA]
theorem bw_at {s : List Int} {A : List Nat} (hA : A.Perm (List.range s.length)) {k : Nat} (hk : k < s.length) : (bwL s A).getD k 0 = s.getD ((aheadN s.length A).getD k 0 - 1) 0 := by
  have h : k < (aheadN s.length A).length := by rw [ahead_len hA]; exact hk
  simp [bwL, List.getD, List.getElem?_eq_getElem h]

def ltD (s : List Int) (a b : Nat) : Bool := decide (cmpI (s.drop a) (s.drop b) < 0)
theorem ltD_iff {s : List Int} {a b : Nat} : ltD s a b = true ↔ ltE s a b := decide_eq_true_iff
theorem ltE_asymm {s : List Int} {a b : Nat} (h : ltE s a b) (k : ltE s b a) : False := ltE_irrefl (ltE_trans h k)
theorem ahead_sorted {s : List Int} {A : List Nat} (h : InOrd s A) : (aheadN s.length A).Pairwise (ltE s) := by
  refine List.Pairwise.sublist List.filter_sublist (List.pairwise_cons.2 ⟨fun b hb => ?_, h.2⟩)
  exact ltE_end (Nat.le_refl _) (List.mem_range.1 (h.1.mem_iff.1 hb))
/-- From the last letters to the first: a step back in the text. -/
theorem bw_step {s : List Int} {A : List Nat} (h : InOrd s A) {k i : Nat} (hk : k < s.length) (hF : (aheadN s.length A).getD k 0 = i + 1) : rkN (bwL s A) k < s.length ∧ A.getD (rkN (bwL s A) k) 0 = i := by
  have hA := h.1
  have hi : i < s.length := by have := ahead_pos hA hk; omega
  have hS := ahead_sorted h
  have hFl := ahead_len hA
  have key : ∀ j, j < s.length → (Lt1 (bwL s A) j k ↔ ltE s ((aheadN s.length A).getD j 0 - 1) i) := fun j hj => by
    have hp := ahead_pos hA hj
    obtain ⟨p, hp1⟩ : ∃ p, (aheadN s.length A).getD j 0 = p + 1 := ⟨(aheadN s.length A).getD j 0 - 1, by omega⟩
    have hjk : j < k ↔ ltE s (p + 1) (i + 1) := by
      rw [← hp1, ← hF]
      constructor
      · intro g
        exact pairN_at hS g (by rw [hFl]; exact hk)
      · intro g
        rcases Nat.lt_trichotomy j k with g2 | g2 | g2
        · exact g2
        · subst g2; exact absurd g ltE_irrefl
        · exact (ltE_asymm g (pairN_at hS g2 (by rw [hFl]; exact hj))).elim
    unfold Lt1
    rw [bw_at hA hj, bw_at hA hk, hp1, hF, hjk]
    simp only [Nat.add_sub_cancel]
    rcases Int.lt_trichotomy (s.getD p 0) (s.getD i 0) with g | g | g
    · exact ⟨fun _ => ltE_less (by omega) hi g, fun _ => .inl g⟩
    · rw [← ltE_same (by omega) hi g]
      constructor
      · rintro (g2 | g2)
        · omega
        · exact g2.2
      · exact fun g2 => .inr ⟨g, g2⟩
    · constructor
      · rintro (g2 | g2) <;> omega
      · intro g2
        exact (ltE_asymm g2 (ltE_less hi (by omega) g)).elim
  obtain ⟨m, hm, em⟩ := mem_getN (hA.mem_iff.2 (List.mem_range.2 hi))
  rw [h.len] at hm
  have hr : rkN (bwL s A) k = m := by
    unfold rkN
    rw [bw_len hA]
    have e1 : (List.range s.length).filter (fun j => decide (Lt1 (bwL s A) j k)) = (List.range s.length).filter ((fun p => decide (cmpI (s.drop p) (s.drop i) < 0)) ∘ fun j => (aheadN s.length A).getD j 0 - 1) :=
      List.filter_congr fun j hj => by
        rw [Function.comp, Bool.eq_iff_iff, decide_eq_true_eq, decide_eq_true_eq]
        exact key j (List.mem_range.1 hj)
    have e2 := congrArg List.length (List.filter_map (f := fun j => (aheadN s.length A).getD j 0 - 1) (p := fun p => decide (cmpI (s.drop p) (s.drop i) < 0)) (l := List.range s.length))
    rw [List.length_map] at e2
    rw [e1, ← e2, ((ahead_perm hA).filter _).length_eq]
    have := rank_at (R := ltD s) hA (h.2.imp fun g => ltD_iff.2 g) (fun a => Bool.eq_false_iff.2 fun g => ltE_irrefl (ltD_iff.1 g)) (fun a b g => Bool.eq_false_iff.2 fun k => ltE_asymm (ltD_iff.1 g) (ltD_iff.1 k)) hm
    rw [em] at this
    exact this
  rw [hr]
  exact ⟨hm, em⟩

/-- Which of the bytes a row has ahead of it. -/
def byteOf (at' row : Nat) : Nat := if at' < row then row - 1 else row
theorem row_byte {at' row : Nat} (h : row ≠ at') : rowOf at' (byteOf at' row) = row := by
  unfold rowOf byteOf
  split <;> split <;> omega
/-- Letter by letter from the end. -/
def bkGo (l : List Int) (at' : Nat) : Nat → Nat → List Int → Option (List Int)
  | 0, _, out => some out
  | i + 1, row, out => if row = at' then none else bkGo l at' i (rkN l (byteOf at' row) + 1) (l.getD (byteOf at' row) 0 :: out)
theorem byte_lt {n at' row : Nat} (hr : row ≤ n) (ha : at' ≤ n) (hne : row ≠ at') : byteOf at' row < n := by
  unfold byteOf
  split <;> omega
theorem bkGo_text {s : List Int} {A : List Nat} (h : InOrd s A) : ∀ (i row : Nat), row ≤ s.length → (s.length :: A).getD row 0 = i → bkGo (bwL s A) (bwAt s A) i row (s.drop i) = some s := by
  intro i
  induction i with
  | zero => intro row _ _; rw [bkGo, List.drop_zero]
  | succ i ih =>
    intro row hr he
    have hA := h.1
    have hne : row ≠ bwAt s A := fun e => by
      have := (at_is hA hr).2 e
      omega
    have hk : byteOf (bwAt s A) row < s.length := byte_lt hr (at_le hA) hne
    have hF : (aheadN s.length A).getD (byteOf (bwAt s A) row) 0 = i + 1 := by
      rw [ahead_at hA]
      show (s.length :: A).getD (rowOf (bwAt s A) (byteOf (bwAt s A) row)) 0 = i + 1
      rw [row_byte hne, he]
    obtain ⟨h1, h2⟩ := bw_step h hk hF
    have hi : i < s.length := by have := ends_le hA hr; omega
    rw [bkGo, if_neg hne, bw_at hA hk, hF, Nat.add_sub_cancel, ← drop_getD hi]
    exact ih _ (by omega) h2

/-- All places in order of endings. -/
def sortE (s : List Int) : List Nat := (List.range s.length).mergeSort fun a b => decide (¬ cmpI (s.drop b) (s.drop a) < 0)
theorem sortE_ord (s : List Int) : InOrd s (sortE s) := by
  have hp : (sortE s).Perm (List.range s.length) := List.mergeSort_perm _ _
  have h := List.pairwise_mergeSort (le := fun a b => decide (¬ cmpI (s.drop b) (s.drop a) < 0)) (fun a b c h1 h2 => by
    simp only [decide_eq_true_eq] at *
    rw [cmpI_swap] at h1 h2 ⊢
    have := cmpI_trans (s.drop a) (s.drop b) (s.drop c) (by omega) (by omega)
    omega) (fun a b => by
    simp only [Bool.or_eq_true, decide_eq_true_eq]
    rw [cmpI_swap (s.drop a) (s.drop b)]
    omega) (List.range s.length)
  refine ⟨hp, ?_⟩
  have hn : (sortE s).Nodup := hp.nodup_iff.2 List.nodup_range
  have h2 : (sortE s).Pairwise fun a b => a ≠ b ∧ (decide (¬ cmpI (s.drop b) (s.drop a) < 0)) = true := hn.and h
  refine h2.imp_of_mem fun {a b} ha hb ⟨h3, h4⟩ => ?_
  simp only [decide_eq_true_eq] at h4
  have g1 := List.mem_range.1 (hp.mem_iff.1 ha)
  have g2 := List.mem_range.1 (hp.mem_iff.1 hb)
  by_cases g : ltE s a b
  · exact g
  · exact absurd (ltE_total (by omega) (by omega) h3 g) h4
/-- A text turned: its bytes, and which row it is. -/
def turnB (s : List Int) : List Int × Int := (bwL s (sortE s), (bwAt s (sortE s) : Int))
theorem turnB_eq {s : List Int} {A : List Nat} (h : InOrd s A) : turnB s = (bwL s A, (bwAt s A : Int)) := by
  unfold turnB
  rw [(sortE_ord s).eq h]
theorem turnB_len (s : List Int) : (turnB s).1.length = s.length := bw_len (sortE_ord s).1
def rowMayB (l : List Int) (at' : Int) : Bool := decide (0 ≤ at' ∧ at' ≤ l.length ∧ (l.length = 0 ∨ at' ≠ 0))
theorem turnB_may (s : List Int) : rowMayB (turnB s).1 (turnB s).2 = true := by
  unfold rowMayB
  have h := sortE_ord s
  have h1 := at_le h.1
  rw [turnB_len]
  refine decide_eq_true ⟨by unfold turnB; omega, by unfold turnB bwAt; omega, ?_⟩
  by_cases h0 : s.length = 0
  · exact .inl h0
  · refine .inr fun e => ?_
    have e2 : bwAt s (sortE s) = 0 := by unfold turnB at e; omega
    have := (at_is h.1 (Nat.zero_le _)).2 e2.symm
    exact h0 this
/-- The text that is turned to these, or none (5). -/
def backB (l : List Int) (at' : Int) : List Int × Int :=
  if rowMayB l at' = true then
    match bkGo l at'.toNat l.length 0 [] with
    | none => ([], 5)
    | some out => if turnB out = (l, at') then (out, 0) else ([], 5)
  else ([], 5)
theorem back_yes {s l : List Int} {at' : Int} (h : turnB s = (l, at')) : backB l at' = (s, 0) := by
  have ho := sortE_ord s
  have hm := turnB_may s
  have hl := turnB_len s
  have hgo := bkGo_text ho s.length 0 (Nat.zero_le _) rfl
  rw [h] at hm hl
  have e : bwL s (sortE s) = l ∧ (bwAt s (sortE s) : Int) = at' := by
    unfold turnB at h
    exact Prod.mk.inj h
  unfold backB
  rw [if_pos hm, show l.length = s.length from hl, ← e.2, ← e.1, Int.toNat_natCast]
  rw [List.drop_of_length_le (Nat.le_refl _)] at hgo
  rw [hgo]
  show (if turnB s = _ then _ else _) = _
  rw [h, e.1, e.2, if_pos rfl]
theorem back_no {l : List Int} {at' : Int} (h : ∀ s, turnB s ≠ (l, at')) : backB l at' = ([], 5) := by
  unfold backB
  split
  · split
    · rfl
    · rw [if_neg (h _)]
  · rfl
theorem back_iff {s l : List Int} {at' : Int} : backB l at' = (s, 0) ↔ turnB s = (l, at') := by
  refine ⟨fun h => ?_, back_yes⟩
  unfold backB at h
  split at h
  · split at h
    · cases h
    · split at h
      · rename_i e
        cases h
        exact e
      · cases h
  · cases h
theorem turnB_inj {s t : List Int} (h : turnB s = turnB t) : s = t := by
  have h1 := back_yes (s := s) (l := (turnB t).1) (at' := (turnB t).2) h
  have h2 := back_yes (s := t) (l := (turnB t).1) (at' := (turnB t).2) rfl
  rw [h1] at h2
  exact (Prod.mk.inj h2).1
end Go.Proofs.Yticblbegjfcbdaa

/- A text turned: its letters; a walk through all rows is a text's. Plain numbers, no conditions. -/
namespace Go.Proofs.Yticblbegjfcbdaa
set_option linter.unusedVariables false
set_option linter.unusedSimpArgs false

theorem map_getI (l : List Int) : (List.range l.length).map (fun p => l.getD p 0) = l := by
  refine List.ext_getElem (by simp) fun k h1 h2 => ?_
  simp [List.getD, List.getElem?_eq_getElem h2]
/-- It has as many of each byte as the text. -/
theorem bw_perm {s : List Int} {A : List Nat} (hA : A.Perm (List.range s.length)) : (bwL s A).Perm s := by
  have h := (ahead_perm hA).map fun p => s.getD p 0
  rw [map_getI, List.map_map] at h
  refine List.Perm.trans (List.Perm.of_eq ?_) h
  refine rowI_ext (by rw [bw_len hA]; simp) fun k hk => ?_
  rw [bw_len hA] at hk
  rw [bw_at hA hk, mapI_at _ _ hk]
  rfl
theorem bw_first {s : List Int} {A : List Nat} (hA : A.Perm (List.range s.length)) (h0 : 0 < s.length) : (bwL s A).getD 0 0 = s.getD (s.length - 1) 0 ∧ 0 < bwAt s A := by
  have hat : 0 < bwAt s A := by
    rcases Nat.eq_zero_or_pos (bwAt s A) with e | e
    · have := (at_is hA (Nat.zero_le _)).2 e.symm
      have h2 : s.length = 0 := this
      omega
    · exact e
  refine ⟨?_, hat⟩
  rw [bw_at hA h0, ahead_at hA]
  have : rowOf ((s.length :: A).idxOf 0) 0 = 0 := by
    unfold rowOf
    exact if_pos hat
  rw [this]
  rfl

theorem byte_row {at' k : Nat} : byteOf at' (rowOf at' k) = k := by
  unfold rowOf byteOf
  split <;> split <;> omega
theorem row_ne {at' k : Nat} : rowOf at' k ≠ at' := by
  unfold rowOf
  split <;> omega
theorem count_lt {n x : Nat} (h : x ≤ n) : ((List.range n).filter fun j => decide (j < x)).length = x := by
  induction n with
  | zero => simp; omega
  | succ n ih =>
    rw [List.range_succ, List.filter_append, List.length_append]
    by_cases e : x = n + 1
    · subst e
      have : (List.range n).filter (fun j => decide (j < n + 1)) = List.range n := by
        rw [List.filter_eq_self]
        intro a ha
        have := List.mem_range.1 ha
        exact decide_eq_true (by omega)
      rw [this]
      simp
    · rw [ih (by omega)]
      simp
      omega
/-- A walk through all rows. -/
structure Walk (l : List Int) (at' : Nat) (r : Nat → Nat) (out : List Int) : Prop where
  len : out.length = l.length
  start : r 0 = 0
  ne : ∀ t, t < l.length → r t ≠ at'
  le : ∀ t, t ≤ l.length → r t ≤ l.length
  next : ∀ t, t < l.length → r (t + 1) = rkN l (byteOf at' (r t)) + 1
  stop : r l.length = at'
  at' : ∀ t, t < l.length → out.getD (l.length - 1 - t) 0 = l.getD (byteOf at' (r t)) 0
theorem byte_inj {at' a b : Nat} (ha : a ≠ at') (hb : b ≠ at') (h : byteOf at' a = byteOf at' b) : a = b := by
  rw [← row_byte ha, h, row_byte hb]
theorem byte_mono {at' a b : Nat} (ha : a ≠ at') (hb : b ≠ at') : byteOf at' a < byteOf at' b ↔ a < b := by
  unfold byteOf
  split <;> split <;> omega
theorem Walk.inj {l out : List Int} {at' : Nat} {r : Nat → Nat} (h : Walk l at' r out) (ha : at' ≤ l.length) : ∀ a b, a ≤ l.length → b ≤ l.length → a < b → r a ≠ r b := by
  intro a
  induction a with
  | zero =>
    intro b _ hb hab e
    have := h.next (b - 1) (by omega)
    rw [show b - 1 + 1 = b by omega] at this
    rw [h.start] at e
    omega
  | succ a ih =>
    intro b h1 h2 hab e
    have e1 := h.next a (by omega)
    have e2 := h.next (b - 1) (by omega)
    rw [show b - 1 + 1 = b by omega] at e2
    have n1 := h.ne a (by omega)
    have n2 := h.ne (b - 1) (by omega)
    have l1 := byte_lt (h.le a (by omega)) ha n1
    have l2 := byte_lt (h.le (b - 1) (by omega)) ha n2
    exact ih (b - 1) (by omega) (by omega) (by omega) (byte_inj n1 n2 (rk_inj l1 l2 (by omega)))
theorem Walk.order {l out : List Int} {at' : Nat} {r : Nat → Nat} (h : Walk l at' r out) (ha : at' ≤ l.length) : ∀ (m a b : Nat), l.length - a ≤ m → a ≤ l.length → b ≤ l.length → a ≠ b → (r (l.length - a) < r (l.length - b) ↔ ltE out a b) := by
  intro m
  induction m with
  | zero =>
    intro a b hm h1 h2 hne
    have e : a = l.length := by omega
    subst e
    rw [Nat.sub_self, h.start]
    have h3 := h.inj ha 0 (l.length - b) (Nat.zero_le _) (by omega) (by omega)
    rw [h.start] at h3
    exact ⟨fun _ => ltE_end (by rw [h.len]; exact Nat.le_refl _) (by rw [h.len]; omega), fun _ => by omega⟩
  | succ m ih =>
    intro a b hm h1 h2 hne
    by_cases ea : a = l.length
    · exact ih a b (by omega) h1 h2 hne
    by_cases eb : b = l.length
    · subst eb
      rw [Nat.sub_self, h.start]
      exact ⟨fun g => by omega, fun g => (ltE_asymm g (ltE_end (by rw [h.len]; exact Nat.le_refl _) (by rw [h.len]; omega))).elim⟩
    obtain ⟨t, ht⟩ : ∃ t, l.length - a = t + 1 := ⟨l.length - a - 1, by omega⟩
    obtain ⟨u, hu⟩ : ∃ u, l.length - b = u + 1 := ⟨l.length - b - 1, by omega⟩
    have n1 := h.ne t (by omega)
    have n2 := h.ne u (by omega)
    have l1 := byte_lt (h.le t (by omega)) ha n1
    have l2 := byte_lt (h.le u (by omega)) ha n2
    have hi := ih (a + 1) (b + 1) (by omega) (by omega) (by omega) (by omega)
    rw [show l.length - (a + 1) = t by omega, show l.length - (b + 1) = u by omega] at hi
    have c1 := h.at' t (by omega)
    have c2 := h.at' u (by omega)
    rw [show l.length - 1 - t = a by omega] at c1
    rw [show l.length - 1 - u = b by omega] at c2
    rw [ht, hu, h.next t (by omega), h.next u (by omega)]
    have key : rkN l (byteOf at' (r t)) + 1 < rkN l (byteOf at' (r u)) + 1 ↔ Lt1 l (byteOf at' (r t)) (byteOf at' (r u)) := by
      rw [← rk_iff l1 l2]
      omega
    rw [key]
    unfold Lt1
    rw [byte_mono n1 n2, ← c1, ← c2, hi]
    have la : a < out.length := by rw [h.len]; omega
    have lb : b < out.length := by rw [h.len]; omega
    rcases Int.lt_trichotomy (out.getD a 0) (out.getD b 0) with g | g | g
    · exact ⟨fun _ => ltE_less la lb g, fun _ => .inl g⟩
    · rw [ltE_same la lb g]
      constructor
      · rintro (g2 | g2)
        · omega
        · exact g2.2
      · exact fun g2 => .inr ⟨g, g2⟩
    · constructor
      · rintro (g2 | g2) <;> omega
      · intro g2
        exact (ltE_asymm g2 (ltE_less lb la g)).elim
/-- Of a walk through all rows the text is turned to just these bytes and this row. -/
theorem Walk.turn {l out : List Int} {at' : Nat} {r : Nat → Nat} (h : Walk l at' r out) (ha : at' ≤ l.length) : turnB out = (l, (at' : Int)) := by
  have ho := sortE_ord out
  have hA := ho.1
  have hE : ∀ i, i ≤ l.length → (out.length :: sortE out).getD (r (l.length - i)) 0 = i := by
    intro i hi
    have hp : (out.length :: sortE out).Perm (List.range (l.length + 1)) := by
      refine nodup_permN (ends_nodup hA) (fun x hx => ?_) (by rw [ends_len hA, h.len, List.length_range]; exact Nat.le_refl _)
      have := (ends_mem hA).1 hx
      rw [h.len] at this
      exact List.mem_range.2 (by omega)
    have hs : (out.length :: sortE out).Pairwise fun a b => ltD out a b = true := by
      refine List.pairwise_cons.2 ⟨fun b hb => ltD_iff.2 (ltE_end (Nat.le_refl _) (List.mem_range.1 (hA.mem_iff.1 hb))), ho.2.imp fun g => ltD_iff.2 g⟩
    obtain ⟨m, hm, em⟩ := mem_getN (hp.mem_iff.2 (List.mem_range.2 (show i < l.length + 1 by omega)))
    rw [ends_len hA, h.len] at hm
    have e1 := rank_at (R := ltD out) hp hs (fun a => Bool.eq_false_iff.2 fun g => ltE_irrefl (ltD_iff.1 g)) (fun a b g => Bool.eq_false_iff.2 fun k => ltE_asymm (ltD_iff.1 g) (ltD_iff.1 k)) hm
    rw [em] at e1
    have hr : ((List.range (l.length + 1)).map fun j => r (l.length - j)).Perm (List.range (l.length + 1)) := by
      refine inj_permN (fun j _ => by have := h.le (l.length - j) (by omega); omega) (fun a b ha' hb' e => ?_)
      rcases Nat.lt_trichotomy a b with g | g | g
      · exact absurd e.symm (h.inj ha (l.length - b) (l.length - a) (by omega) (by omega) (by omega))
      · exact g
      · exact absurd e (h.inj ha (l.length - a) (l.length - b) (by omega) (by omega) (by omega))
    have e2 := (hr.filter fun x => decide (x < r (l.length - i))).length_eq
    rw [count_lt (by have := h.le (l.length - i) (by omega); omega), List.filter_map, List.length_map] at e2
    have e3 : (List.range (l.length + 1)).filter ((fun x => decide (x < r (l.length - i))) ∘ fun j => r (l.length - j)) = (List.range (l.length + 1)).filter fun j => ltD out j i := by
      refine List.filter_congr fun j hj => ?_
      have hj' := List.mem_range.1 hj
      rw [Function.comp, Bool.eq_iff_iff, decide_eq_true_eq, ltD_iff]
      by_cases e : j = i
      · subst e
        exact ⟨fun g => by omega, fun g => absurd g ltE_irrefl⟩
      · exact h.order ha _ j i (Nat.le_refl _) (by omega) hi e
    rw [e3, e1] at e2
    rw [← e2]
    exact em
  have hat : bwAt out (sortE out) = at' := by
    have h0 := hE 0 (Nat.zero_le _)
    rw [Nat.sub_zero, h.stop] at h0
    exact ((at_is hA (by rw [h.len]; exact ha)).1 h0).symm
  have hl : bwL out (sortE out) = l := by
    refine rowI_ext (by rw [bw_len hA, h.len]) fun k hk => ?_
    rw [bw_len hA] at hk
    have hk' : k < l.length := by rw [← h.len]; exact hk
    rw [bw_at hA hk, ahead_at hA]
    have e0 : rowOf ((out.length :: sortE out).idxOf 0) k = rowOf at' k := by
      have : (out.length :: sortE out).idxOf 0 = at' := hat
      rw [this]
    rw [e0]
    have hrow : rowOf at' k ≤ l.length := by unfold rowOf; split <;> omega
    have hmem := ends_le hA (r := rowOf at' k) (by rw [h.len]; exact hrow)
    obtain ⟨i, ei⟩ : ∃ i, (out.length :: sortE out).getD (rowOf at' k) 0 = i := ⟨_, rfl⟩
    rw [ei] at hmem ⊢
    rw [h.len] at hmem
    have hi2 := hE i hmem
    have hrr : r (l.length - i) = rowOf at' k := nodup_getN (ends_nodup hA) (by rw [ends_len hA, h.len]; have := h.le (l.length - i) (by omega); omega) (by rw [ends_len hA, h.len]; omega) (by rw [hi2, ei])
    have hi0 : i ≠ 0 := fun e => by
      subst e
      rw [Nat.sub_zero, h.stop] at hrr
      exact row_ne hrr.symm
    have hc := h.at' (l.length - i) (by omega)
    rw [show l.length - 1 - (l.length - i) = i - 1 by omega, hrr, byte_row] at hc
    exact hc
  unfold turnB
  rw [hat, hl]
end Go.Proofs.Yticblbegjfcbdaa

/- Where each stands, twice; a row with one number another. Plain numbers, no conditions. -/
namespace Go.Proofs.Yticblbegjfcbdaa
set_option linter.unusedVariables false
set_option linter.unusedSimpArgs false

theorem invI_back {l : List Int} (h : ordB l = true) {p : Nat} (hp : p < l.length) : ∃ q : Nat, q < l.length ∧ (invI l).getD p 0 = (q : Int) ∧ l.getD q 0 = (p : Int) := by
  have hm : (p : Int) ∈ l := (ordB_mem h).2 ⟨by omega, by omega⟩
  obtain ⟨q, hq, e⟩ := mem_getI hm
  exact ⟨q, hq, invI_at h hq e, e⟩
theorem ordB_inv {l : List Int} (h : ordB l = true) : ordB (invI l) = true := by
  have hl := invI_len h
  rw [ordB_iff]
  have hnd : (invI l).Nodup := by
    rw [List.Nodup, List.pairwise_iff_getElem]
    intro i j hi hj hij e
    rw [hl] at hi hj
    obtain ⟨q, _, e1, e2⟩ := invI_back h hi
    obtain ⟨r, _, e3, e4⟩ := invI_back h hj
    have e5 : (invI l).getD i 0 = (invI l).getD j 0 := by
      rw [List.getD_eq_getElem?_getD, List.getD_eq_getElem?_getD, List.getElem?_eq_getElem (by rw [hl]; exact hi), List.getElem?_eq_getElem (by rw [hl]; exact hj), e]
    rw [e1, e3] at e5
    have : q = r := by omega
    subst this
    rw [e2] at e4
    omega
  refine nodup_perm hnd (fun z hz => natL_mem.2 ?_) (by rw [natL_len, List.length_range]; exact Nat.le_refl _)
  obtain ⟨p, hp, rfl⟩ := mem_getI hz
  rw [hl] at hp
  obtain ⟨q, hq, e1, _⟩ := invI_back h hp
  exact ⟨q, List.mem_range.2 (by rw [hl]; exact hq), e1⟩
theorem inv_twice {l : List Int} (h : ordB l = true) : invI (invI l) = l := by
  have hl := invI_len h
  refine (invI_eq (ordB_inv h) hl.symm fun i p hi hp => ?_).symm
  rw [hl] at hi
  obtain ⟨q, _, e1, e2⟩ := invI_back h hi
  rw [hp] at e1
  have : p = q := by omega
  rw [this, e2]
theorem setI_self {l : List Int} {i : Nat} (hi : i < l.length) : l.set i (l.getD i 0) = l := by
  refine List.ext_getElem (by rw [List.length_set]) fun j h1 h2 => ?_
  rw [List.getElem_set]
  split
  · rename_i e
    subst e
    rw [List.getD_eq_getElem?_getD, List.getElem?_eq_getElem h2]
    rfl
  · rfl
theorem ordB_set {l : List Int} (h : ordB l = true) {i : Nat} (hi : i < l.length) (v : Int) : ordB (l.set i v) = decide (v = l.getD i 0) := by
  by_cases e : v = l.getD i 0
  · rw [decide_eq_true e, e, setI_self hi, h]
  · rw [decide_eq_false e, Bool.eq_false_iff]
    intro ho
    have hm : v ∈ l.set i v := List.mem_iff_getElem.2 ⟨i, by rw [List.length_set]; exact hi, by simp⟩
    have h1 := (ordB_mem ho).1 hm
    rw [List.length_set] at h1
    obtain ⟨j, hj, ej⟩ := mem_getI ((ordB_mem h).2 h1)
    have hij : i ≠ j := fun e2 => by
      subst e2
      exact e ej.symm
    have := nodup_getI (ordB_nodup ho) (i := i) (j := j) (by rw [List.length_set]; exact hi) (by rw [List.length_set]; exact hj) (by rw [setI_same hi, setI_other hij, ej])
    exact hij this
end Go.Proofs.Yticblbegjfcbdaa

/- How much neighbours of a row have alike, told place by place of the text. Plain numbers, no conditions. -/
namespace Go.Proofs.Yticblbegjfcbdaa
set_option linter.unusedVariables false
set_option linter.unusedSimpArgs false

/-- How much two endings have alike. -/
def comN (s : List Int) (i j : Nat) : Nat := comI (s.drop i) (s.drop j)
theorem comN_swap (s : List Int) (i j : Nat) : comN s i j = comN s j i := comI_swap _ _
theorem comN_le (s : List Int) (i j : Nat) : comN s i j ≤ s.length := by
  have := (comI_le (s.drop i) (s.drop j)).1
  rw [List.length_drop] at this
  unfold comN
  omega
theorem comL_nat {s : List Int} {i j : Nat} (hi : i ≤ s.length) (hj : j ≤ s.length) : comL s i j = (comN s i j : Int) := comL_in hi hj
/-- The first of what they have alike away, one less is alike. -/
theorem comN_next {s : List Int} {i j : Nat} (h : 0 < comN s i j) : comN s i j = comN s (i + 1) (j + 1) + 1 := by
  unfold comN at *
  by_cases h1 : i < s.length
  · by_cases h2 : j < s.length
    · rw [drop_getD h1, drop_getD h2, comI] at h ⊢
      by_cases e : s.getD i 0 = s.getD j 0
      · rw [if_pos e]
      · rw [if_neg e] at h
        omega
    · rw [List.drop_of_length_le (l := s) (i := j) (by omega), comI_nil_right] at h
      omega
  · rw [List.drop_of_length_le (l := s) (i := i) (by omega), comI_nil_left] at h
    omega

/-- Of each place how much it has alike with the one ahead of it. -/
def lcpN (s : List Int) (A : List Nat) : List Nat := (List.range A.length).map fun i => if i = 0 then 0 else comN s (A.getD (i - 1) 0) (A.getD i 0)
theorem lcpN_len (s : List Int) (A : List Nat) : (lcpN s A).length = A.length := by simp [lcpN]
theorem lcpN_zero {s : List Int} {A : List Nat} : (lcpN s A).getD 0 0 = 0 := by
  by_cases h : 0 < A.length
  · unfold lcpN
    rw [mapI_at _ _ h, if_pos rfl]
  · rw [List.getD_eq_getElem?_getD, List.getElem?_eq_none (by rw [lcpN_len]; omega)]; rfl
theorem lcpN_at {s : List Int} {A : List Nat} {i : Nat} (h0 : 0 < i) (h : i < A.length) : (lcpN s A).getD i 0 = comN s (A.getD (i - 1) 0) (A.getD i 0) := by
  unfold lcpN
  rw [mapI_at _ _ h, if_neg (by omega)]
def lcpOk (s a : List Int) : Bool := decide (a.length = s.length) && ordB a
def lcpL (s a : List Int) : List Int := if lcpOk s a = true then natL (lcpN s (toN a)) else []
theorem lcpOk_long {s a : List Int} (h : a.length ≠ s.length) : lcpOk s a = false := by simp [lcpOk, h]
theorem lcpOk_no {s a : List Int} (h : ordB a = false) : lcpOk s a = false := by simp [lcpOk, h]
theorem lcpOk_yes {s a : List Int} (h : a.length = s.length) (h' : ordB a = true) : lcpOk s a = true := by simp [lcpOk, h, h']
theorem lcpL_no {s a : List Int} (h : lcpOk s a = false) : lcpL s a = [] := by unfold lcpL; rw [h]; rfl
theorem lcpL_yes {s a : List Int} (h : lcpOk s a = true) : lcpL s a = natL (lcpN s (toN a)) := by unfold lcpL; rw [if_pos h]
theorem lcpL_le (s a : List Int) : (lcpL s a).length ≤ a.length := by
  cases h : lcpOk s a
  · rw [lcpL_no h]; exact Nat.zero_le _
  · rw [lcpL_yes h, natL_len, lcpN_len, toN_len]; exact Nat.le_refl _

/-- An order as naturals. -/
theorem ordB_cast {a : List Int} (h : ordB a = true) : natL (toN a) = a ∧ (toN a).Perm (List.range a.length) := by
  have h1 : natL (toN a) = a := natL_toN (n := a.length) (goodI_iff.2 fun z hz => (ordB_mem h).1 hz)
  refine ⟨h1, ?_⟩
  have h2 := (ordB_iff.1 h).map Int.toNat
  have h3 : (natL (List.range a.length)).map Int.toNat = List.range a.length := toN_nat _
  rw [h3] at h2
  exact h2
/-- Where each stands, as naturals. -/
structure InvOf (A B : List Nat) : Prop where
  len : B.length = A.length
  lt : ∀ i, i < A.length → B.getD i 0 < A.length
  back : ∀ i, i < A.length → A.getD (B.getD i 0) 0 = i
  on : ∀ p, p < A.length → B.getD (A.getD p 0) 0 = p
theorem inv_nat {A : List Nat} (h : A.Perm (List.range A.length)) : invI (natL A) = natL (toN (invI (natL A))) ∧ InvOf A (toN (invI (natL A))) := by
  have ho := ordB_nat h
  have hl := invI_len ho
  rw [natL_len] at hl
  have hb : ∀ p, p < A.length → ∃ q : Nat, q < A.length ∧ (invI (natL A)).getD p 0 = (q : Int) ∧ A.getD q 0 = p := fun p hp => by
    obtain ⟨q, h1, h2, h3⟩ := invI_back ho (p := p) (by rw [natL_len]; exact hp)
    rw [natL_len] at h1
    rw [natL_at] at h3
    exact ⟨q, h1, h2, by omega⟩
  have hat : ∀ p, p < A.length → (toN (invI (natL A))).getD p 0 < A.length ∧ A.getD ((toN (invI (natL A))).getD p 0) 0 = p := fun p hp => by
    obtain ⟨q, h1, h2, h3⟩ := hb p hp
    rw [toN_at, h2, Int.toNat_natCast]
    exact ⟨h1, h3⟩
  refine ⟨(natL_toN (n := A.length) (goodI_of fun p hp => ?_)).symm, ⟨by rw [toN_len, hl], fun i hi => (hat i hi).1, fun i hi => (hat i hi).2, fun p hp => ?_⟩⟩
  · rw [hl] at hp
    obtain ⟨q, h1, h2, _⟩ := hb p hp
    omega
  · have hm := List.mem_range.1 (h.mem_iff.1 (getN_mem hp))
    have h2 := hat _ hm
    exact nodup_getN (h.nodup_iff.2 List.nodup_range) h2.1 hp h2.2
theorem perm_lt {A : List Nat} (h : A.Perm (List.range A.length)) {p : Nat} (hp : p < A.length) : A.getD p 0 < A.length := List.mem_range.1 (h.mem_iff.1 (getN_mem hp))

/-- What is known of what neighbours have alike once all places of the text ahead of i are told. -/
structure Kas (s : List Int) (A R : List Nat) (i : Nat) : Prop where
  len : R.length = A.length
  zero : R.getD 0 0 = 0
  at' : ∀ q, 0 < q → q < A.length → A.getD q 0 < i → R.getD q 0 = comN s (A.getD (q - 1) 0) (A.getD q 0)
theorem Kas.start (s : List Int) (A : List Nat) : Kas s A (List.replicate A.length 0) 0 :=
  ⟨List.length_replicate, by cases A <;> simp [List.getD, List.replicate], fun q _ _ h => by omega⟩
theorem Kas.skip {s : List Int} {A B R : List Nat} {i : Nat} (h : Kas s A R i) (hB : InvOf A B) (h0 : B.getD i 0 = 0) : Kas s A R (i + 1) := by
  refine ⟨h.len, h.zero, fun q h1 h2 h3 => ?_⟩
  by_cases e : A.getD q 0 = i
  · have := hB.on q h2
    rw [e, h0] at this
    omega
  · exact h.at' q h1 h2 (by omega)
theorem Kas.next {s : List Int} {A B R : List Nat} {i p c : Nat} (h : Kas s A R i) (hB : InvOf A B) (hi : i < A.length) (hp : B.getD i 0 = p) (h0 : 0 < p) (hc : c = comN s i (A.getD (p - 1) 0)) : Kas s A (R.set p c) (i + 1) := by
  have hlt := hB.lt i hi
  rw [hp] at hlt
  have hback := hB.back i hi
  rw [hp] at hback
  refine ⟨by rw [List.length_set]; exact h.len, by rw [set_other (by omega)]; exact h.zero, fun q h1 h2 h3 => ?_⟩
  by_cases e : q = p
  · subst e
    rw [set_same (by rw [h.len]; exact h2), hc, hback, comN_swap]
  · rw [set_other (fun e2 => e e2.symm)]
    refine h.at' q h1 h2 ?_
    have : A.getD q 0 ≠ i := fun e2 => by
      have h4 := hB.on q h2
      rw [e2, hp] at h4
      exact e h4.symm
    omega
theorem Kas.done {s : List Int} {A R : List Nat} (h : Kas s A R A.length) (hA : A.Perm (List.range A.length)) : R = lcpN s A := by
  refine natL_ext (by rw [h.len, lcpN_len]) fun q hq => ?_
  rw [h.len] at hq
  by_cases h0 : q = 0
  · subst h0
    rw [h.zero, lcpN_zero]
  · rw [lcpN_at (by omega) hq, h.at' q (by omega) hq (perm_lt hA hq)]
/-- What the document's own loop keeps: all places up to i are told. -/
structure LcpTo (s : List Int) (A R : List Nat) (i : Nat) : Prop where
  len : R.length = A.length
  at' : ∀ q, q < i → q < A.length → R.getD q 0 = (lcpN s A).getD q 0
theorem LcpTo.start (s : List Int) (A : List Nat) : LcpTo s A (List.replicate A.length 0) 1 :=
  ⟨List.length_replicate, fun q hq h => by
    have : q = 0 := by omega
    subst this
    rw [lcpN_zero]
    simp [List.getD, h]⟩
theorem LcpTo.next {s : List Int} {A R : List Nat} {i c : Nat} (h : LcpTo s A R i) (h0 : 0 < i) (hi : i < A.length) (hc : c = comN s (A.getD (i - 1) 0) (A.getD i 0)) : LcpTo s A (R.set i c) (i + 1) := by
  refine ⟨by rw [List.length_set]; exact h.len, fun q h1 h2 => ?_⟩
  by_cases e : q = i
  · subst e
    rw [set_same (by rw [h.len]; exact h2), hc, lcpN_at h0 h2]
  · rw [set_other (fun e2 => e e2.symm)]
    exact h.at' q (by omega) h2
theorem LcpTo.done {s : List Int} {A R : List Nat} {i : Nat} (h : LcpTo s A R i) (hi : A.length ≤ i) : R = lcpN s A :=
  natL_ext (by rw [h.len, lcpN_len]) fun q hq => by rw [h.len] at hq; exact h.at' q (by omega) hq
end Go.Proofs.Yticblbegjfcbdaa

/- A text turned by any row; the document's own loops. Plain numbers, no conditions. -/
namespace Go.Proofs.Yticblbegjfcbdaa
set_option linter.unusedVariables false
set_option linter.unusedSimpArgs false

/-- Of any row: the bytes; which row the whole text is. -/
def bwI (s a : List Int) : List Int := if lcpOk s a = true then bwL s (toN a) else []
def bwAtI (s a : List Int) : Int := if lcpOk s a = true then (bwAt s (toN a) : Int) else 0
theorem bwI_no {s a : List Int} (h : lcpOk s a = false) : bwI s a = [] := by unfold bwI; rw [h]; rfl
theorem bwAtI_no {s a : List Int} (h : lcpOk s a = false) : bwAtI s a = 0 := by unfold bwAtI; rw [h]; rfl
theorem bwI_nat {s : List Int} {A : List Nat} (h : lcpOk s (natL A) = true) : bwI s (natL A) = bwL s A := by unfold bwI; rw [if_pos h, toN_nat]
theorem bwAtI_nat {s : List Int} {A : List Nat} (h : lcpOk s (natL A) = true) : bwAtI s (natL A) = (bwAt s A : Int) := by unfold bwAtI; rw [if_pos h, toN_nat]
theorem bwI_len {s a : List Int} : (bwI s a).length ≤ s.length := by
  unfold bwI
  split
  · rename_i h
    have h1 : a.length = s.length ∧ ordB a = true := by
      unfold lcpOk at h
      rw [Bool.and_eq_true, decide_eq_true_eq] at h
      exact h
    have h2 := (ordB_cast h1.2).2
    rw [h1.1] at h2
    rw [bw_len h2]
    exact Nat.le_refl _
  · exact Nat.zero_le _
/-- Of the first so many rows. -/
def bwP (s : List Int) (A : List Nat) (i : Nat) : List Int := ((s.length :: A.take i).filter fun p => decide (p ≠ 0)).map fun p => s.getD (p - 1) 0
def atP (A : List Nat) (i : Nat) : Nat := if 0 ∈ A.take i then A.idxOf 0 + 1 else 0
theorem bwP_zero {s : List Int} (A : List Nat) (h : s.length ≠ 0) : bwP s A 0 = [s.getD (s.length - 1) 0] := by
  unfold bwP
  rw [List.take_zero, List.filter_cons, if_pos (decide_eq_true h)]
  rfl
theorem bwP_nought {s : List Int} {A : List Nat} {i : Nat} (hi : i < A.length) (h : A.getD i 0 = 0) : bwP s A (i + 1) = bwP s A i := by
  unfold bwP
  rw [takeN_succ hi, h, ← List.cons_append, List.filter_append]
  simp
theorem bwP_other {s : List Int} {A : List Nat} {i : Nat} (hi : i < A.length) (h : A.getD i 0 ≠ 0) : bwP s A (i + 1) = bwP s A i ++ [s.getD (A.getD i 0 - 1) 0] := by
  unfold bwP
  rw [takeN_succ hi, ← List.cons_append, List.filter_append, List.map_append]
  congr 1
  rw [List.filter_cons, if_pos (decide_eq_true h)]
  rfl
theorem bwP_len {s : List Int} {A : List Nat} {i : Nat} : (bwP s A i).length ≤ i + 1 := by
  unfold bwP
  rw [List.length_map]
  refine Nat.le_trans (List.length_filter_le _ _) ?_
  rw [List.length_cons, List.length_take]
  omega
theorem bwP_all {s : List Int} {A : List Nat} : bwP s A A.length = bwL s A := by
  unfold bwP
  rw [List.take_length]
  rfl
theorem atP_zero (A : List Nat) : atP A 0 = 0 := by unfold atP; simp
theorem atP_nought {A : List Nat} {i : Nat} (hA : A.Nodup) (hi : i < A.length) (h : A.getD i 0 = 0) : atP A (i + 1) = i + 1 := by
  have hm : 0 ∈ A.take (i + 1) := by rw [takeN_succ hi, h]; simp
  have hx : A.idxOf 0 = i := by
    have h1 : (0 : Nat) ∈ A := List.mem_of_mem_take hm
    have h2 := List.idxOf_lt_length_of_mem h1
    refine nodup_getN hA h2 hi ?_
    rw [h, List.getD_eq_getElem?_getD, List.getElem?_eq_getElem h2]
    exact List.getElem_idxOf h2
  unfold atP
  rw [if_pos hm, hx]
theorem atP_other {A : List Nat} {i : Nat} (hi : i < A.length) (h : A.getD i 0 ≠ 0) : atP A (i + 1) = atP A i := by
  unfold atP
  rw [takeN_succ hi]
  have : (0 ∈ A.take i ++ [A.getD i 0]) ↔ 0 ∈ A.take i := by
    rw [List.mem_append, List.mem_singleton]
    exact ⟨fun g => g.resolve_right fun e => h e.symm, .inl⟩
  simp only [this]
theorem atP_le {A : List Nat} {i : Nat} (hi : i ≤ A.length) : atP A i ≤ A.length + 1 := by
  unfold atP
  split
  · have := List.idxOf_le_length (a := 0) (l := A)
    omega
  · omega
theorem atP_all {s : List Int} {A : List Nat} (hA : A.Perm (List.range s.length)) (h0 : s.length ≠ 0) : atP A A.length = bwAt s A := by
  have hm : 0 ∈ A := hA.mem_iff.2 (List.mem_range.2 (by omega))
  unfold atP bwAt
  rw [List.take_length, if_pos hm, List.idxOf_cons]
  have : (s.length == 0) = false := by simpa using h0
  rw [this]
  rfl
theorem bwL_nil {A : List Nat} (h : A.Perm (List.range 0)) : bwL [] A = [] ∧ bwAt [] A = 0 := by
  have : A = [] := List.length_eq_zero_iff.1 (by rw [h.length_eq, List.length_range])
  subst this
  exact ⟨rfl, rfl⟩
theorem bwL_bytes {s : List Int} {A : List Nat} (hA : A.Perm (List.range s.length)) (h : ∀ z ∈ s, 0 ≤ z ∧ z ≤ 255) : ∀ z ∈ bwL s A, 0 ≤ z ∧ z ≤ 255 := fun z hz => h z ((bw_perm hA).mem_iff.1 hz)

/-- How many of the first so many are less, or like it and ahead. -/
def cntJ (l : List Int) (k J : Nat) : Nat := ((List.range J).filter fun j => decide (Lt1 l j k)).length
theorem cntJ_zero (l : List Int) (k : Nat) : cntJ l k 0 = 0 := rfl
theorem cntJ_yes {l : List Int} {k J : Nat} (h : Lt1 l J k) : cntJ l k (J + 1) = cntJ l k J + 1 := by
  unfold cntJ
  rw [List.range_succ, List.filter_append, List.length_append, List.filter_cons, if_pos (decide_eq_true h)]
  rfl
theorem cntJ_no {l : List Int} {k J : Nat} (h : ¬ Lt1 l J k) : cntJ l k (J + 1) = cntJ l k J := by
  unfold cntJ
  rw [List.range_succ, List.filter_append, List.length_append, List.filter_cons, if_neg (by rw [decide_eq_false h]; decide)]
  rfl
theorem cntJ_le (l : List Int) (k J : Nat) : cntJ l k J ≤ J := by
  unfold cntJ
  refine Nat.le_trans (List.length_filter_le _ _) ?_
  rw [List.length_range]
  exact Nat.le_refl _
theorem cntJ_all (l : List Int) (k : Nat) : cntJ l k l.length = rkN l k := rfl
theorem drop_set {l : List Int} {i : Nat} {z : Int} (h : i < l.length) : (l.set i z).drop i = z :: l.drop (i + 1) := by
  rw [drop_getD (by rw [List.length_set]; exact h), setI_same h, List.drop_set_of_lt (by omega)]
theorem bkGo_stop (l : List Int) (at' t : Nat) (out : List Int) : bkGo l at' (t + 1) at' out = none := by rw [bkGo, if_pos rfl]
theorem bkGo_next {l : List Int} {at' t row : Nat} {out : List Int} (h : row ≠ at') : bkGo l at' (t + 1) row out = bkGo l at' t (rkN l (byteOf at' row) + 1) (l.getD (byteOf at' row) 0 :: out) := by rw [bkGo, if_neg h]
theorem backB_out {l : List Int} {at' : Int} (h : rowMayB l at' = false) : backB l at' = ([], 5) := by
  unfold backB
  rw [h]
  rfl
theorem backB_none {l : List Int} {at' : Nat} (h : bkGo l at' l.length 0 [] = none) : backB l (at' : Int) = ([], 5) := by
  unfold backB
  split
  · rw [Int.toNat_natCast, h]
  · rfl
theorem backB_some {l out : List Int} {at' : Nat} (hm : rowMayB l at' = true) (h : bkGo l at' l.length 0 [] = some out) : backB l (at' : Int) = if turnB out = (l, (at' : Int)) then (out, 0) else ([], 5) := by
  unfold backB
  rw [if_pos hm, Int.toNat_natCast, h]
theorem backB_len (l : List Int) (at' : Int) : (backB l at').1.length ≤ l.length := by
  unfold backB
  split
  · split
    · exact Nat.zero_le _
    · rename_i out h
      split
      · rename_i e
        have := turnB_len out
        rw [e] at this
        show out.length ≤ _
        have h2 : l.length = out.length := this
        omega
      · exact Nat.zero_le _
  · exact Nat.zero_le _
end Go.Proofs.Yticblbegjfcbdaa

/- From how often bytes are there to the row of the longer ending; a walk that never meets the whole text's row. Plain numbers, no conditions. -/
namespace Go.Proofs.Yticblbegjfcbdaa
set_option linter.unusedVariables false
set_option linter.unusedSimpArgs false

/-- How many of the first J are less than b. -/
def ahC (l : List Int) : Nat → Nat → Nat
  | 0, _ => 0
  | b + 1, J => ahC l b J + cntI l b J
theorem ahC_none (l : List Int) (b : Nat) : ahC l b 0 = 0 := by
  induction b with
  | zero => rfl
  | succ b ih => rw [ahC, ih]; rfl
theorem ahC_step {l : List Int} {J : Nat} (h0 : 0 ≤ l.getD J 0) (b : Nat) : ahC l b (J + 1) = ahC l b J + if l.getD J 0 < (b : Int) then 1 else 0 := by
  induction b with
  | zero => rw [ahC, ahC, if_neg (by omega)]
  | succ b ih =>
    rw [ahC, ahC, ih, cntI_succ]
    by_cases g : l.getD J 0 < (b : Int)
    · rw [if_pos g, if_neg (by omega), if_pos (by omega)]; omega
    · rw [if_neg g]
      by_cases g2 : l.getD J 0 = (b : Int)
      · rw [if_pos g2, if_pos (by omega)]
        omega
      · rw [if_neg g2, if_neg (by omega)]
        omega
theorem ahC_le (l : List Int) (b J : Nat) : ahC l b J ≤ b * J := by
  induction b with
  | zero => rw [ahC]; omega
  | succ b ih =>
    rw [ahC, Nat.succ_mul]
    have := cntI_le l b J
    omega
theorem cntJ_sum {l : List Int} {k b : Nat} (hb : l.getD k 0 = (b : Int)) (h0 : ∀ j, 0 ≤ l.getD j 0) : ∀ J, cntJ l k J = ahC l b J + cntI l b (min J k) := by
  intro J
  induction J with
  | zero => rw [cntJ_zero, ahC_none, Nat.zero_min]; rfl
  | succ J ih =>
    rw [ahC_step (h0 J)]
    by_cases g : Lt1 l J k
    · rw [cntJ_yes g, ih]
      unfold Lt1 at g
      rw [hb] at g
      by_cases g1 : l.getD J 0 < (b : Int)
      · rw [if_pos g1]
        by_cases g2 : J < k
        · rw [show min (J + 1) k = J + 1 by omega, show min J k = J by omega, cntI_other (by omega)]
          omega
        · rw [show min (J + 1) k = min J k by omega]
          omega
      · obtain ⟨g2, g3⟩ := g.resolve_left g1
        rw [if_neg g1, show min (J + 1) k = J + 1 by omega, show min J k = J by omega, cntI_same g2]
        omega
    · rw [cntJ_no g, ih]
      unfold Lt1 at g
      rw [hb] at g
      rw [if_neg (by omega)]
      by_cases g2 : J < k
      · rw [show min (J + 1) k = J + 1 by omega, show min J k = J by omega, cntI_other (by omega)]
        omega
      · rw [show min (J + 1) k = min J k by omega]
        omega
theorem rk_sum {l : List Int} {k b : Nat} (hb : l.getD k 0 = (b : Int)) (h0 : ∀ j, 0 ≤ l.getD j 0) (hk : k ≤ l.length) : rkN l k = ahC l b l.length + cntI l b k := by
  rw [← cntJ_all, cntJ_sum hb h0, show min l.length k = k by omega]

/-- How often each byte is among the first i. -/
def oftL (l : List Int) (i : Nat) : List Int := (List.range 256).map fun (b : Nat) => ((cntI l b i : Nat) : Int)
/-- The first row of each byte's endings, and how often it was there so far. -/
def nxtL (l : List Int) (i : Nat) : List Int := (List.range 256).map fun (b : Nat) => ((ahC l b l.length + cntI l b i + 1 : Nat) : Int)
/-- The first rows of the first so many bytes. -/
def fstL (l : List Int) (q : Nat) : List Int := (List.range 256).map fun (b : Nat) => if b < q then ((ahC l b l.length + 1 : Nat) : Int) else 0
theorem oftL_len (l : List Int) (i : Nat) : (oftL l i).length = 256 := by simp [oftL]
theorem nxtL_len (l : List Int) (i : Nat) : (nxtL l i).length = 256 := by simp [nxtL]
theorem fstL_len (l : List Int) (i : Nat) : (fstL l i).length = 256 := by simp [fstL]
theorem oftL_at (l : List Int) (i : Nat) {b : Nat} (h : b < 256) : (oftL l i).getD b 0 = ((cntI l b i : Nat) : Int) := mapI_at _ _ h
theorem nxtL_at (l : List Int) (i : Nat) {b : Nat} (h : b < 256) : (nxtL l i).getD b 0 = ((ahC l b l.length + cntI l b i + 1 : Nat) : Int) := mapI_at _ _ h
theorem fstL_at (l : List Int) (q : Nat) {b : Nat} (h : b < 256) : (fstL l q).getD b 0 = if b < q then ((ahC l b l.length + 1 : Nat) : Int) else 0 := mapI_at _ _ h
theorem rep_at {n b : Nat} (h : b < n) : (List.replicate n (0 : Int)).getD b 0 = 0 := by simp [List.getD, h]
theorem oftL_zero (l : List Int) : oftL l 0 = List.replicate 256 0 := by
  refine rowI_ext (by rw [oftL_len, List.length_replicate]) fun b hb => ?_
  rw [oftL_len] at hb
  rw [oftL_at l 0 hb, rep_at hb]
  rfl
theorem fstL_zero (l : List Int) : fstL l 0 = List.replicate 256 0 := by
  refine rowI_ext (by rw [fstL_len, List.length_replicate]) fun b hb => ?_
  rw [fstL_len] at hb
  rw [fstL_at l 0 hb, rep_at hb, if_neg (by omega)]
theorem fstL_all (l : List Int) : fstL l 256 = nxtL l 0 := by
  refine rowI_ext (by rw [fstL_len, nxtL_len]) fun b hb => ?_
  rw [fstL_len] at hb
  rw [fstL_at l _ hb, nxtL_at l _ hb, if_pos hb]
  rfl
theorem oftL_next {l : List Int} {i q : Nat} (h : l.getD i 0 = (q : Int)) (hq : q < 256) : (oftL l i).set q ((cntI l q i + 1 : Nat) : Int) = oftL l (i + 1) := by
  refine rowI_ext (by rw [List.length_set, oftL_len, oftL_len]) fun b hb => ?_
  rw [List.length_set, oftL_len] at hb
  rw [oftL_at l _ hb]
  by_cases e : q = b
  · subst e
    rw [setI_same (by rw [oftL_len]; exact hb), cntI_same h]
  · rw [setI_other e, oftL_at l _ hb, cntI_other (by rw [h]; omega)]
theorem nxtL_next {l : List Int} {i q : Nat} (h : l.getD i 0 = (q : Int)) (hq : q < 256) : (nxtL l i).set q ((ahC l q l.length + cntI l q i + 1 + 1 : Nat) : Int) = nxtL l (i + 1) := by
  refine rowI_ext (by rw [List.length_set, nxtL_len, nxtL_len]) fun b hb => ?_
  rw [List.length_set, nxtL_len] at hb
  rw [nxtL_at l _ hb]
  by_cases e : q = b
  · subst e
    rw [setI_same (by rw [nxtL_len]; exact hb), cntI_same h]
    congr 1
  · rw [setI_other e, nxtL_at l _ hb, cntI_other (by rw [h]; omega)]
theorem fstL_next (l : List Int) {q : Nat} (hq : q < 256) : (fstL l q).set q ((ahC l q l.length + 1 : Nat) : Int) = fstL l (q + 1) := by
  refine rowI_ext (by rw [List.length_set, fstL_len, fstL_len]) fun b hb => ?_
  rw [List.length_set, fstL_len] at hb
  rw [fstL_at l _ hb]
  by_cases e : q = b
  · subst e
    rw [setI_same (by rw [fstL_len]; exact hb), if_pos (by omega)]
  · rw [setI_other e, fstL_at l _ hb]
    by_cases g : b < q
    · rw [if_pos g, if_pos (by omega)]
    · rw [if_neg g, if_neg (by omega)]

/-- The rows of the longer endings of the first so many. -/
def lonL (l : List Int) (i : Nat) : List Int := (List.range l.length).map fun (j : Nat) => if j < i then ((rkN l j + 1 : Nat) : Int) else 0
theorem lonL_len (l : List Int) (i : Nat) : (lonL l i).length = l.length := by simp [lonL]
theorem lonL_at (l : List Int) (i : Nat) {j : Nat} (h : j < l.length) : (lonL l i).getD j 0 = if j < i then ((rkN l j + 1 : Nat) : Int) else 0 := mapI_at _ _ h
theorem lonL_zero (l : List Int) : lonL l 0 = List.replicate l.length 0 := by
  refine rowI_ext (by rw [lonL_len, List.length_replicate]) fun b hb => ?_
  rw [lonL_len] at hb
  rw [lonL_at l 0 hb, rep_at hb, if_neg (by omega)]
theorem lonL_next (l : List Int) {i : Nat} (hi : i < l.length) : (lonL l i).set i ((rkN l i + 1 : Nat) : Int) = lonL l (i + 1) := by
  refine rowI_ext (by rw [List.length_set, lonL_len, lonL_len]) fun b hb => ?_
  rw [List.length_set, lonL_len] at hb
  rw [lonL_at l _ hb]
  by_cases e : i = b
  · subst e
    rw [setI_same (by rw [lonL_len]; exact hb), if_pos (by omega)]
  · rw [setI_other e, lonL_at l _ hb]
    by_cases g : b < i
    · rw [if_pos g, if_pos (by omega)]
    · rw [if_neg g, if_neg (by omega)]
theorem lonL_all (l : List Int) {j : Nat} (h : j < l.length) : (lonL l l.length).getD j 0 = ((rkN l j + 1 : Nat) : Int) := by rw [lonL_at l _ h, if_pos h]

theorem bkGo_walk {l : List Int} {k : Nat} : ∀ (i row : Nat) (acc out : List Int), bkGo l k i row acc = some out →
    ∃ r : Nat → Nat, r 0 = row ∧ (∀ t, t < i → r t ≠ k ∧ r (t + 1) = rkN l (byteOf k (r t)) + 1) ∧ out.length = i + acc.length ∧ (∀ t, t < i → out.getD (i - 1 - t) 0 = l.getD (byteOf k (r t)) 0) ∧ out.drop i = acc := by
  intro i
  induction i with
  | zero =>
    intro row acc out h
    rw [bkGo] at h
    cases h
    exact ⟨fun _ => row, rfl, fun t ht => by omega, by omega, fun t ht => by omega, by simp⟩
  | succ i ih =>
    intro row acc out h
    rw [bkGo] at h
    split at h
    · cases h
    · rename_i hne
      obtain ⟨r, h1, h2, h3, h4, h5⟩ := ih _ _ _ h
      rw [List.length_cons] at h3
      refine ⟨fun t => match t with | 0 => row | t + 1 => r t, rfl, fun t ht => ?_, by omega, fun t ht => ?_, ?_⟩
      · match t with
        | 0 => exact ⟨hne, h1⟩
        | t + 1 => exact h2 t (by omega)
      · match t with
        | 0 =>
          have e : out.getD i 0 = (out.drop i).getD 0 0 := by simp [List.getD_eq_getElem?_getD]
          rw [show i + 1 - 1 - 0 = i by omega, e, h5]
          rfl
        | t + 1 =>
          have := h4 t (by omega)
          rw [show i + 1 - 1 - (t + 1) = i - 1 - t by omega]
          exact this
      · have : out.drop (i + 1) = (out.drop i).drop 1 := by rw [List.drop_drop]
        rw [this, h5]
        rfl
/-- What is walked through is a text's. -/
theorem bkGo_turn {l out : List Int} {k : Nat} (hk : k ≤ l.length) (h : bkGo l k l.length 0 [] = some out) : turnB out = (l, (k : Int)) := by
  obtain ⟨r, h1, h2, h3, h4, _⟩ := bkGo_walk _ _ _ _ h
  have hle : ∀ t, t ≤ l.length → r t ≤ l.length := by
    intro t
    induction t with
    | zero => intro _; rw [h1]; omega
    | succ t ih =>
      intro ht
      obtain ⟨g1, g2⟩ := h2 t (by omega)
      have := rk_lt (byte_lt (ih (by omega)) hk g1)
      omega
  have hinj : ∀ a b, a ≤ l.length → b ≤ l.length → a < b → r a ≠ r b := by
    intro a
    induction a with
    | zero =>
      intro b _ hb hab e
      have := (h2 (b - 1) (by omega)).2
      rw [show b - 1 + 1 = b by omega] at this
      omega
    | succ a ih =>
      intro b g1 g2 hab e
      obtain ⟨n1, e1⟩ := h2 a (by omega)
      obtain ⟨n2, e2⟩ := h2 (b - 1) (by omega)
      rw [show b - 1 + 1 = b by omega] at e2
      exact ih (b - 1) (by omega) (by omega) (by omega) (byte_inj n1 n2 (rk_inj (byte_lt (hle a (by omega)) hk n1) (byte_lt (hle (b - 1) (by omega)) hk n2) (by omega)))
  have hstop : r l.length = k := by
    have hp : ((List.range (l.length + 1)).map r).Perm (List.range (l.length + 1)) := by
      refine inj_permN (fun t ht => by have := hle t (by omega); omega) (fun a b ha hb e => ?_)
      rcases Nat.lt_trichotomy a b with g | g | g
      · exact absurd e (hinj a b (by omega) (by omega) g)
      · exact g
      · exact absurd e.symm (hinj b a (by omega) (by omega) g)
    have hm := hp.mem_iff.2 (List.mem_range.2 (show k < l.length + 1 by omega))
    obtain ⟨t, ht, e⟩ := List.mem_map.1 hm
    rw [List.mem_range] at ht
    by_cases g : t = l.length
    · rw [← g]; exact e
    · exact absurd e (h2 t (by omega)).1
  exact Walk.turn (r := r) ⟨by rw [h3]; rfl, h1, fun t ht => (h2 t ht).1, hle, fun t ht => (h2 t ht).2, hstop, h4⟩ hk
theorem back_go {l out : List Int} {k : Nat} (hk : k ≤ l.length) (h : bkGo l k l.length 0 [] = some out) : backB l (k : Int) = (out, 0) := back_yes (bkGo_turn hk h)
end Go.Proofs.Yticblbegjfcbdaa

/- All but one block as it was; slices cut. Over any program, no conditions. -/
namespace Go.Proofs.Yticblbegjfcbdaa
set_option linter.unusedVariables false
set_option linter.unusedSimpArgs false
open Go.RowKit

/-- All but block b is as it was. -/
abbrev But (b : Nat) (w w' : World) : Prop := w.grownBy w' (some b)

theorem But.refl (b : Nat) (w : World) : But b w w := ⟨rfl, rfl, rfl, Nat.le_refl _, fun _ _ _ => rfl⟩
theorem But.trans {b : Nat} {x y z : World} (h : But b x y) (k : But b y z) : But b x z :=
  ⟨k.os.trans h.os, k.tape.trans h.tape, k.output.trans h.output, Nat.le_trans h.size k.size, fun i hi hne => (k.block i (Nat.lt_of_lt_of_le hi h.size) hne).trans (h.block i hi hne)⟩
theorem But.setCell {b : Nat} {x w : World} (h : But b x w) (j : Nat) (v : Value) : But b x (w.setCell ⟨b, j, none⟩ v) :=
  h.trans ⟨rfl, rfl, rfl, by simp [World.setCell], fun k _ hne => Below.heap_setCell _ _ _ _ (fun e => hne (by rw [e]))⟩
theorem But.drew {b : Nat} {x w : World} (h : But b x w) : But b x w.drew := ⟨h.os, h.tape, h.output, h.size, h.block⟩
theorem But.ofExt {b : Nat} {w w' : World} (h : Ext w w') : But b w w' := ⟨h.os, h.tape, h.output, h.size, fun k hk _ => h.block k hk⟩
theorem But.below {b B : Nat} {w w' : World} (h : But b w w') (hB : B ≤ b) (hw : B ≤ w.heap.size) : Below B w w' :=
  ⟨h.os, h.tape, h.output, h.size, fun k hk => h.block k (by omega) (fun e => by simp at e; omega)⟩

theorem ext_alloc (w : World) (o : Obj) : Ext w (w.alloc o) := (Below.refl _ _).alloc (Nat.le_refl _) _

/-- From a world in which block b is new: all that was there is as it was. -/
theorem Ext.but {b : Nat} {w w1 w2 : World} (h : Ext w w1) (hb : w.heap.size ≤ b) (k : But b w1 w2) : Ext w w2 := Below.trans h (k.below hb h.size)

theorem heap_alloc_top (w : World) (o : Obj) : (w.alloc o).heap[w.heap.size]? = some o := heap_alloc_new w o

/-- A row just laid, whatever its mark, reads as its numbers. -/
theorem Sl.lit' {k : IntKind} {e : TypeId} {fr : Nat × Nat} (w : World) (zs : List Int) (n : Nat) (hn : zs.length = n) (hm : n ≤ maxLen) : Sl k (w.alloc (.cells (zs.map (Value.int k)).toArray e fr)) (.slice (some ⟨w.heap.size, 0, none⟩) n n) zs := by
  subst hn
  refine ⟨_, _, rfl, Nat.le_refl _, hm, (fun h => by cases h), .inr ⟨w.heap.size, 0, rfl, fun i hi => ?_⟩⟩
  simp only [World.cell?, heap_alloc_top]
  simp [hi]


theorem Ext.drewN (w : World) (n : Nat) : Ext w (w.drewN n) := ⟨rfl, rfl, rfl, Nat.le_refl _, fun _ _ => rfl⟩

theorem Sl.drewN {k : IntKind} {w : World} {v : Value} {zs : List Int} (h : Sl k w v zs) (n : Nat) : Sl k (w.drewN n) v zs := h.ext (Ext.drewN w n)

/-- A call that draws and turns nothing. -/
theorem toExt {P : Program} {f : FuncId} {args : Array Value} {w : World} {v : Ending} (h : Calls P f args w fun e w' => e = v ∧ ∃ m, w' = w.drewN m) : Calls P f args w fun e w' => e = v ∧ Ext w w' :=
  h.mono fun e w' ⟨h1, m, h2⟩ => ⟨h1, by rw [h2]; exact Ext.drewN _ _⟩

/-- 'string(s)', whatever was drawn. -/
theorem Sl.strN {P : Program} {w : World} {v : Value} {zs : List Int} (h : Sl .u8 w v zs) (src e dst : TypeId) (hs : P.underlying src = some (.slice e)) (he : P.underlying e = some (.int .u8)) (hd : P.underlying dst = some .string) :
    ∀ m, (convert src dst v).run P (w.drewN m) = .ok (.string (strOfNums zs)) (w.drewN m) := fun m => (h.drewN m).str src e dst hs he hd

theorem Sl.but' {k : IntKind} {w w' : World} {b : Nat} {v : Value} {zs : List Int} (h : Sl k w v zs) (hC : ∀ j x, w.cell? ⟨b, j, none⟩ ≠ some (.int k x)) (hB : But b w w') : Sl k w' v zs := by
  obtain ⟨a, c, h1, h2, h3, h0, h4⟩ := h
  refine ⟨a, c, h1, h2, h3, h0, ?_⟩
  rcases h4 with h4 | ⟨g, off, h4, h5⟩
  · exact .inl h4
  · refine .inr ⟨g, off, h4, fun i hi => hB.cell (h5 i hi) ?_⟩
    intro e
    simp only [Option.some.injEq] at e
    subst e
    exact hC _ _ (h5 i hi)

theorem Own.low {k : IntKind} {e : TypeId} {B B' : Nat} {w : World} {s : Value} {zs : List Int} (h : Own k e B w s zs) (hB : B' ≤ B) : Own k e B' w s zs := by
  obtain ⟨h1, h2⟩ := h
  refine ⟨h1, ?_⟩
  rcases h2 with h2 | ⟨g, cap, cur, h2, h3, h4⟩
  · exact .inl h2
  · exact .inr ⟨g, cap, cur, h2, Nat.le_trans hB h3, h4⟩

theorem Own.ext {k : IntKind} {e : TypeId} {B : Nat} {w w' : World} {s : Value} {zs : List Int} (h : Own k e B w s zs) (he : Ext w w') : Own k e B w' s zs :=
  World.ownsRow.kept (row := none) h ⟨he.os, he.tape, he.output, he.size, fun i hi _ => he.block i hi⟩ (by cases hv : s.ownBlock <;> simp)

/-- 's[:n]' -/
theorem Sl.runTake {P : Program} {k : IntKind} {w : World} {a : Option Addr} {len c : Nat} {zs : List Int} (h : Sl k w (.slice a len c) zs) (t e : TypeId) (ht : P.underlying t = some (.slice e)) (hz : ∀ w, (Go.sizeOf e).run P w = .ok 1 w) (n : Nat) (hn : n ≤ zs.length) :
    (∀ W, (Instr.slice t (.slice a len c) none (some (.int .i64 (n : Int))) none).run P W = .ok (.slice a n c) W) ∧ Sl k w (.slice a n c) (zs.take n) := by
  have hl : len = zs.length := by obtain ⟨a', c', h1, _⟩ := h; simp only [Value.slice.injEq] at h1; exact h1.2.1
  have hc : zs.length ≤ c := by obtain ⟨a', c', h1, h2, _⟩ := h; simp only [Value.slice.injEq] at h1; omega
  refine ⟨fun W => ?_, h.take' n (by omega)⟩
  have ht' : P.underlying t = some (.slice (P.elem t)) := by simp [Program.elem, ht]
  have he : P.elem t = e := by simp [Program.elem, ht]
  rw [run_slice_h W t _ _ _ ht' .i64 _ (by omega) (by omega), he, hz]
  have hs : sliced a 0 n c 1 = .slice a n c := by
    unfold sliced
    by_cases h0 : c = 0
    · simp [h0]
    · cases a <;> simp [h0, Addr.add]
  simp only [Result.andThen, Int.toNat_natCast, hs]

/-- 's[n:]' -/
theorem Sl.runDrop {P : Program} {k : IntKind} {w : World} {a : Option Addr} {len c : Nat} {zs : List Int} (h : Sl k w (.slice a len c) zs) (t e : TypeId) (ht : P.underlying t = some (.slice e)) (hz : ∀ w, (Go.sizeOf e).run P w = .ok 1 w) (n : Nat) (hn : n ≤ zs.length) :
    ∃ a', (∀ W, (Instr.slice t (.slice a len c) (some (.int .i64 (n : Int))) none none).run P W = .ok (.slice a' (len - n) (c - n)) W) ∧ Sl k w (.slice a' (len - n) (c - n)) (zs.drop n) ∧ ∀ x, a' = some x → ∃ y, a = some y ∧ x.block = y.block := by
  obtain ⟨a', c', h1, h2, h3, h4, h5⟩ := h
  simp only [Value.slice.injEq] at h1
  obtain ⟨rfl, rfl, rfl⟩ := h1
  have ht' : P.underlying t = some (.slice (P.elem t)) := by simp [Program.elem, ht]
  have he : P.elem t = e := by simp [Program.elem, ht]
  refine ⟨if c = n then a else a.map (·.add n), fun W => ?_, ?_, fun x hx => ?_⟩
  · rw [run_slice_l W t _ _ _ ht' .i64 _ (by omega) (by omega), he, hz]
    simp only [Result.andThen, Int.toNat_natCast, sliced, Nat.mul_one]
  · have hl : (zs.drop n).length = zs.length - n := List.length_drop
    refine ⟨_, c - n, by rw [hl], by omega, by omega, fun h => ?_, ?_⟩
    · by_cases hcn : c = n
      · omega
      · rw [if_neg hcn] at h
        cases a with
        | none => have := h4 rfl; omega
        | some a => cases h
    · by_cases hcn : n = zs.length
      · exact .inl (by rw [hcn]; simp)
      · rcases h5 with rfl | ⟨b, off, rfl, h6⟩
        · exact .inl (by simp)
        · refine .inr ⟨b, off + n, ?_, fun i hi => ?_⟩
          · rw [if_neg (by omega)]; simp [Addr.add]
          · rw [Nat.add_assoc, h6 (n + i) (by omega)]
            simp [List.getD, List.getElem?_drop]
  · split at hx
    · exact ⟨x, hx, rfl⟩
    · cases a with
      | none => cases hx
      | some y => simp only [Option.map_some, Option.some.injEq] at hx; exact ⟨y, rfl, by rw [← hx]; unfold Addr.add; split <;> rfl⟩

/-- 's[l:n]' -/
theorem Sl.runCut {P : Program} {k : IntKind} {w : World} {a : Option Addr} {len c : Nat} {zs : List Int} (h : Sl k w (.slice a len c) zs) (t e : TypeId) (ht : P.underlying t = some (.slice e)) (hz : ∀ w, (Go.sizeOf e).run P w = .ok 1 w) (l n : Nat) (hl : l ≤ n) (hn : n ≤ zs.length) :
    ∃ a', (∀ W, (Instr.slice t (.slice a len c) (some (.int .i64 (l : Int))) (some (.int .i64 (n : Int))) none).run P W = .ok (.slice a' (n - l) (c - l)) W) ∧ Sl k w (.slice a' (n - l) (c - l)) ((zs.take n).drop l) := by
  have hlen : len = zs.length := by obtain ⟨a', c', h1, _⟩ := h; simp only [Value.slice.injEq] at h1; exact h1.2.1
  have hc : zs.length ≤ c := by obtain ⟨a', c', h1, h2, _⟩ := h; simp only [Value.slice.injEq] at h1; omega
  have ht' : P.underlying t = some (.slice (P.elem t)) := by simp [Program.elem, ht]
  have he : P.elem t = e := by simp [Program.elem, ht]
  have hT := h.take' n (by omega)
  have hnl : (zs.take n).length = n := by simp; omega
  obtain ⟨a1, r1, s1, _⟩ := hT.runDrop (P := P) t e ht hz l (by rw [hnl]; exact hl)
  have hr : ∀ W, (Instr.slice t (.slice a len c) (some (.int .i64 (l : Int))) (some (.int .i64 (n : Int))) none).run P W = (Instr.slice t (.slice a n c) (some (.int .i64 (l : Int))) none none).run P W := by
    intro W
    rw [run_slice_lh W t _ _ _ ht' .i64 .i64 _ _ (by omega) (by omega) (by omega), run_slice_l W t _ _ _ ht' .i64 _ (by omega) (by omega)]
    simp only [Int.toNat_natCast]
  exact ⟨a1, fun W => (hr W).trans (r1 W), s1⟩
end Go.Proofs.Yticblbegjfcbdaa

/- Bytes: what each seat of the program says of its type, and slices of bytes read at a place. -/
namespace Go.Proofs.Yticblbegjfcbdaa
set_option linter.unusedVariables false
set_option linter.unusedSimpArgs false
open Go.RowKit

/-- Bytes. -/
def Bytes8 (zs : List Int) : Prop := ∀ z ∈ zs, 0 ≤ z ∧ z ≤ 255

theorem Bytes8.drop {zs : List Int} (h : Bytes8 zs) (m : Nat) : Bytes8 (zs.drop m) := fun z hz => h z (List.mem_of_mem_drop hz)
theorem Bytes8.takeN {zs : List Int} (h : Bytes8 zs) (m : Nat) : Bytes8 (zs.take m) := fun z hz => h z (List.mem_of_mem_take hz)
theorem Bytes8.app {xs ys : List Int} (h : Bytes8 xs) (h' : Bytes8 ys) : Bytes8 (xs ++ ys) := fun z hz => (List.mem_append.1 hz).elim (h z) (h' z)
theorem Bytes8.get {zs : List Int} (h : Bytes8 zs) (i : Nat) : 0 ≤ zs.getD i 0 ∧ zs.getD i 0 ≤ 255 := by
  by_cases hi : i < zs.length
  · rw [List.getD_eq_getElem?_getD, List.getElem?_eq_getElem hi]; exact h _ (List.getElem_mem hi)
  · rw [List.getD_eq_getElem?_getD, List.getElem?_eq_none (by omega)]; simp

theorem Sl.in {k : IntKind} {B : Nat} {w w' : World} {v : Value} {zs : List Int} (h : Sl k w v zs) (hl : zs = [] ∨ ∀ x n c, v = .slice (some x) n c → x.block < B) (hB : Below B w w') : Sl k w' v zs := by
  obtain ⟨a, c, rfl, h2, h3, h0, h4⟩ := h
  refine ⟨a, c, rfl, h2, h3, h0, ?_⟩
  rcases h4 with h4 | ⟨g, off, rfl, h5⟩
  · exact .inl h4
  · rcases hl with hl | hl
    · exact .inl hl
    · have hg : g < B := hl _ _ _ rfl
      exact .inr ⟨g, off, rfl, fun i hi => (hB.cell (p := ⟨g, off + i, none⟩) hg).trans (h5 i hi)⟩

theorem infoU8 : (Try.prog.info? 5).map (fun i => (i.zero, i.size, i.bytes)) = some (some (.int .u8 0), 1, 1) := by kernel_rfl

theorem size8 : ∀ w, (Go.sizeOf 5).run Try.prog w = .ok 1 w := by intro w; kernel_rfl

theorem Sl.at {k : IntKind} {w : World} {a : Option Addr} {n c : Nat} {zs : List Int} (h : Sl k w (.slice a n c) zs) (hn : zs ≠ []) : zs.length = n ∧ ∃ g off, a = some ⟨g, off, none⟩ ∧ ∀ i, i < n → w.cell? ⟨g, off + i, none⟩ = some (.int k (zs.getD i 0)) := by
  obtain ⟨a', c', h1, h2, h3, h4, h5⟩ := h
  simp only [Value.slice.injEq] at h1
  obtain ⟨rfl, rfl, rfl⟩ := h1
  rcases h5 with h5 | ⟨g, off, h5, h6⟩
  · exact absurd h5 hn
  · exact ⟨rfl, g, off, h5, h6⟩

theorem Sl.cellAt {k : IntKind} {w : World} {g off n c : Nat} {zs : List Int} (h : Sl k w (.slice (some ⟨g, off, none⟩) n c) zs) (i : Nat) (hi : i < n) : w.cell? ⟨g, off + i, none⟩ = some (.int k (zs.getD i 0)) := by
  obtain ⟨a', c', h1, h2, h3, h4, h5⟩ := h
  simp only [Value.slice.injEq] at h1
  obtain ⟨rfl, rfl, rfl⟩ := h1
  rcases h5 with h5 | ⟨g', off', h5, h6⟩
  · rw [h5] at hi; simp at hi
  · simp only [Option.some.injEq, Addr.mk.injEq, and_true] at h5
    obtain ⟨rfl, rfl⟩ := h5
    exact h6 i hi
end Go.Proofs.Yticblbegjfcbdaa

/- A row that is filled from its beginning on; where the next of each byte goes. Plain numbers, no conditions. -/
namespace Go.Proofs.Yticblbegjfcbdaa
set_option linter.unusedVariables false
set_option linter.unusedSimpArgs false
open Go.RowKit

/-- A row of n numbers, the first i of them in. -/
def upL (f : Nat → Int) (n i : Nat) : List Int := (List.range n).map fun j => if j < i then f j else 0
theorem upL_len (f : Nat → Int) (n i : Nat) : (upL f n i).length = n := by simp [upL]
theorem upL_at (f : Nat → Int) (i : Nat) {n j : Nat} (h : j < n) : (upL f n i).getD j 0 = if j < i then f j else 0 := mapI_at _ _ h
theorem upL_zero (f : Nat → Int) (n : Nat) : upL f n 0 = List.replicate n 0 := by
  refine rowI_ext (by rw [upL_len, List.length_replicate]) fun b hb => ?_
  rw [upL_len] at hb
  rw [upL_at f 0 hb, rep_at hb, if_neg (by omega)]
theorem upL_next (f : Nat → Int) {n i : Nat} (hi : i < n) : (upL f n i).set i (f i) = upL f n (i + 1) := by
  refine rowI_ext (by rw [List.length_set, upL_len, upL_len]) fun b hb => ?_
  rw [List.length_set, upL_len] at hb
  rw [upL_at f _ hb]
  by_cases e : i = b
  · subst e
    rw [setI_same (by rw [upL_len]; exact hb), if_pos (by omega)]
  · rw [setI_other e, upL_at f _ hb]
    by_cases g : b < i
    · rw [if_pos g, if_pos (by omega)]
    · rw [if_neg g, if_neg (by omega)]
theorem upL_row (l : List Int) : upL (fun j => l.getD j 0) l.length l.length = l := by
  refine rowI_ext (upL_len _ _ _) fun b hb => ?_
  rw [upL_len] at hb
  rw [upL_at _ _ hb, if_pos hb]
theorem upL_lf (l : List Int) : upL (fun j => ((rkN l j : Nat) : Int)) l.length l.length = natL (lfN l) := by
  refine rowI_ext (by rw [upL_len, natL_len, lfN_len]) fun b hb => ?_
  rw [upL_len] at hb
  rw [upL_at _ _ hb, if_pos hb, natL_at, lfN_at hb]

/-- Where the next of each byte goes, the first i of them laid. -/
def nexL (l : List Int) (i : Nat) : List Int := (List.range 256).map fun (b : Nat) => ((ahC l b l.length + cntI l b i : Nat) : Int)
theorem nexL_len (l : List Int) (i : Nat) : (nexL l i).length = 256 := by simp [nexL]
theorem nexL_at (l : List Int) (i : Nat) {b : Nat} (h : b < 256) : (nexL l i).getD b 0 = ((ahC l b l.length + cntI l b i : Nat) : Int) := mapI_at _ _ h
theorem nexL_next {l : List Int} {i q : Nat} (h : l.getD i 0 = (q : Int)) (hq : q < 256) : (nexL l i).set q ((ahC l q l.length + cntI l q i + 1 : Nat) : Int) = nexL l (i + 1) := by
  refine rowI_ext (by rw [List.length_set, nexL_len, nexL_len]) fun b hb => ?_
  rw [List.length_set, nexL_len] at hb
  rw [nexL_at l _ hb]
  by_cases e : q = b
  · subst e
    rw [setI_same (by rw [nexL_len]; exact hb), cntI_same h]
    congr 1
  · rw [setI_other e, nexL_at l _ hb, cntI_other (by rw [h]; omega)]
theorem ahC_sum (l : List Int) : ∀ q : Nat, q ≤ 256 → sumI (natL (cntsI l 256)) q = ((ahC l q l.length : Nat) : Int) := by
  intro q
  induction q with
  | zero => intro _; rfl
  | succ q ih =>
    intro hq
    rw [sumI, ih (by omega), ahC, natL_at, cntsI_at l (by omega)]
    omega
theorem nexL_zero (l : List Int) : startsI (natL (cntsI l 256)) = nexL l 0 := by
  have hl : (natL (cntsI l 256)).length = 256 := by rw [natL_len, cntsI_len]
  refine rowI_ext (by rw [startsI_len, hl, nexL_len]) fun b hb => ?_
  rw [startsI_len, hl] at hb
  rw [startsI_at _ (by rw [hl]; exact hb), nexL_at l _ hb, ahC_sum l b (by omega)]
  rfl
theorem fitB_bytes {l : List Int} (h : Bytes8 l) : fitB l 256 = true := fitB_iff.2 ⟨by omega, by omega, goodI_of fun j hj => ⟨(h.get j).1, by have := (h.get j).2; omega⟩⟩
theorem sum_bound {l : List Int} (h : l.length ≤ 100000) : ∀ i, i ≤ (natL (cntsI l 256)).length → -4611686018427387904 ≤ sumI (natL (cntsI l 256)) i ∧ sumI (natL (cntsI l 256)) i ≤ 4611686018427387904 := fun i hi => by
  rw [natL_len, cntsI_len] at hi
  rw [ahC_sum l i hi]
  have h1 := ahC_le l i l.length
  have h2 : i * l.length ≤ 256 * 100000 := Nat.mul_le_mul hi h
  omega
end Go.Proofs.Yticblbegjfcbdaa

/- Rows of ints: what each seat says of the type, and 'make([]int, n)'. -/
namespace Go.Proofs.Yticblbegjfcbdaa
set_option linter.unusedVariables false
set_option linter.unusedSimpArgs false
open Go.RowKit

theorem infoI64 : (Try.prog.info? 3).map (fun i => (i.zero, i.size, i.bytes)) = some (some (.int .i64 0), 1, 8) := by kernel_rfl

theorem sizeI64 : ∀ w, (Go.sizeOf 3).run Try.prog w = .ok 1 w := by intro w; kernel_rfl

/-- 'make([]int, n)' -/
theorem make_intsB (w : World) (n : Nat) (hn : n ≤ 4000000) : ∃ w', (Instr.makeSlice 23 (.int .i64 (n : Int)) (.int .i64 (n : Int))).run Try.prog w = .ok (.slice (some ⟨w.heap.size, 0, none⟩) n n) w' ∧ Own .i64 3 w.heap.size w' (.slice (some ⟨w.heap.size, 0, none⟩) n n) (List.replicate n 0) ∧ Ext w w' := by
  obtain ⟨i0, hi, hz0, hz1, hz2⟩ := info_parts infoI64
  obtain ⟨w', h1, h2, h3⟩ := run_make_full (P := Try.prog) w w.heap.size 23 3 i0 (.int .i64 0) 1 Try.underlying23 hi hz0 hz1 .i64 .i64 n (by rw [hz2]; omega) (by unfold maxLen; omega) (Nat.le_refl _)
  refine ⟨w', h1, ?_, ⟨h3.os, h3.tape, h3.output, h3.size, fun k hk => h3.block k hk (by simp)⟩⟩
  unfold Own
  have e1 : (Value.int .i64 0).cells = #[Value.int .i64 0] := rfl
  rw [e1, Nat.mul_one, toList_madeCells_one] at h2
  rw [List.length_replicate, List.map_replicate]
  exact h2
theorem make_ints (w : World) (n : Nat) (hn : n ≤ 1000000) : ∃ w', (Instr.makeSlice 23 (.int .i64 (n : Int)) (.int .i64 (n : Int))).run Try.prog w = .ok (.slice (some ⟨w.heap.size, 0, none⟩) n n) w' ∧ Own .i64 3 w.heap.size w' (.slice (some ⟨w.heap.size, 0, none⟩) n n) (List.replicate n 0) ∧ Ext w w' := make_intsB w n (by omega)

/-- 'make([]int, 0, n)' -/
theorem make_roomI (w : World) (n : Nat) (hn : n ≤ 1000000) : ∃ w', (Instr.makeSlice 23 (.int .i64 0) (.int .i64 (n : Int))).run Try.prog w = .ok (.slice (some ⟨w.heap.size, 0, none⟩) 0 n) w' ∧ Own .i64 3 w.heap.size w' (.slice (some ⟨w.heap.size, 0, none⟩) 0 n) [] ∧ Ext w w' := by
  obtain ⟨i0, hi, hz0, hz1, hz2⟩ := info_parts infoI64
  obtain ⟨w', h1, h2, h3⟩ := run_make_own (P := Try.prog) w w.heap.size 23 3 i0 (.int .i64 0) 1 Try.underlying23 hi hz0 hz1 .i64 .i64 n (by rw [hz2]; omega) (by unfold maxLen; omega) (Nat.le_refl _)
  exact ⟨w', h1, h2, ⟨h3.os, h3.tape, h3.output, h3.size, fun k hk => h3.block k hk (by simp)⟩⟩
end Go.Proofs.Yticblbegjfcbdaa

/- Rows of naturals among Go's ints: made, read, stored to. -/
namespace Go.Proofs.Yticblbegjfcbdaa
set_option linter.unusedVariables false
set_option linter.unusedSimpArgs false
open Go.RowKit

theorem Own.intCell {B : Nat} {w : World} {g n cap : Nat} {l : List Nat} (h : Own .i64 3 B w (.slice (some ⟨g, 0, none⟩) n cap) (natL l)) (hn : l.length = n) (j : Nat) (hj : j < n) : w.cell? ⟨g, j, none⟩ = some (.int .i64 (l.getD j 0 : Nat)) := by
  rw [h.cell (by rw [natL_len]; exact hn) j hj, natL_at]

theorem Own.storeN {B : Nat} {w : World} {g n cap : Nat} {l : List Nat} (h : Own .i64 3 B w (.slice (some ⟨g, 0, none⟩) n cap) (natL l)) (hn : l.length = n) (j x : Nat) :
    Own .i64 3 B (w.setCell ⟨g, j, none⟩ (.int .i64 (x : Int))) (.slice (some ⟨g, 0, none⟩) n cap) (natL (l.set j x)) := by
  rw [natL_set]
  exact h.store (by rw [natL_len]; exact hn) j x

theorem natL_rep (n : Nat) : List.replicate n (0 : Int) = natL (List.replicate n 0) := by simp [natL]

/-- 'make([]int, n)', as naturals. -/
theorem make_natsB (w : World) (n : Nat) (hn : n ≤ 4000000) : ∃ w', (Instr.makeSlice 23 (.int .i64 (n : Int)) (.int .i64 (n : Int))).run Try.prog w = .ok (.slice (some ⟨w.heap.size, 0, none⟩) n n) w' ∧ Own .i64 3 w.heap.size w' (.slice (some ⟨w.heap.size, 0, none⟩) n n) (natL (List.replicate n 0)) ∧ Ext w w' := by
  obtain ⟨w', h1, h2, h3⟩ := make_intsB w n hn
  exact ⟨w', h1, by rw [← natL_rep]; exact h2, h3⟩

theorem make_nats (w : World) (n : Nat) (hn : n ≤ 1000000) : ∃ w', (Instr.makeSlice 23 (.int .i64 (n : Int)) (.int .i64 (n : Int))).run Try.prog w = .ok (.slice (some ⟨w.heap.size, 0, none⟩) n n) w' ∧ Own .i64 3 w.heap.size w' (.slice (some ⟨w.heap.size, 0, none⟩) n n) (natL (List.replicate n 0)) ∧ Ext w w' := make_natsB w n (by omega)

/-- A row of naturals that may be read. -/
theorem Sl.nat {w : World} {a : Option Addr} {n c : Nat} {l : List Nat} (h : Sl .i64 w (.slice a n c) (natL l)) : l.length = n ∧ n ≤ c ∧ c ≤ maxLen ∧ (0 < n → ∃ g off, a = some ⟨g, off, none⟩ ∧ ∀ i, i < n → w.cell? ⟨g, off + i, none⟩ = some (.int .i64 (l.getD i 0 : Nat))) := by
  have h' := h
  obtain ⟨a', c', h1, h2, h3, _, _⟩ := h
  simp only [Value.slice.injEq] at h1
  obtain ⟨rfl, rfl, rfl⟩ := h1
  refine ⟨(natL_len l).symm, h2, h3, fun h0 => ?_⟩
  obtain ⟨_, g, off, h4, h5⟩ := h'.at (fun e => by rw [e] at h0; simp at h0)
  exact ⟨g, off, h4, fun i hi => by rw [h5 i hi, natL_at]⟩

theorem Own.keep {k : IntKind} {e : TypeId} {B b g n c : Nat} {w w' : World} {zs : List Int} (h : Own k e B w (.slice (some ⟨g, 0, none⟩) n c) zs) (hne : g ≠ b) (hB : But b w w') : Own k e B w' (.slice (some ⟨g, 0, none⟩) n c) zs :=
  World.ownsRow.kept (row := some b) h hB (.inr (by simp [Value.ownBlock]; exact hne))

theorem but_set (w : World) (b j : Nat) (v : Value) : But b w (w.setCell ⟨b, j, none⟩ v) := (But.refl _ _).setCell _ _

/-- A row of ints that may be read. -/
theorem Sl.int {w : World} {a : Option Addr} {n c : Nat} {l : List Int} (h : Sl .i64 w (.slice a n c) l) : l.length = n ∧ n ≤ c ∧ c ≤ maxLen ∧ (0 < n → ∃ g off, a = some ⟨g, off, none⟩ ∧ ∀ i, i < n → w.cell? ⟨g, off + i, none⟩ = some (.int .i64 (l.getD i 0))) := by
  have h' := h
  obtain ⟨a', c', h1, h2, h3, _, _⟩ := h
  simp only [Value.slice.injEq] at h1
  obtain ⟨rfl, rfl, rfl⟩ := h1
  refine ⟨rfl, h2, h3, fun h0 => ?_⟩
  obtain ⟨_, g, off, h4, h5⟩ := h'.at (fun e => by rw [e] at h0; simp at h0)
  exact ⟨g, off, h4, h5⟩
end Go.Proofs.Yticblbegjfcbdaa

/- Contract of bucket.fit. -/
namespace Go.Proofs.Yticblbegjfcbdaa
set_option linter.unusedVariables false
set_option linter.unusedSimpArgs false
open Go.RowKit

set_option maxHeartbeats 400000 in
theorem fit_any (v : Value) (zs : List Int) (k : Int) (w : World) (hv : Sl .i64 w v zs) (hlen : zs.length ≤ 1000000) :
    Calls Try.prog 22 #[v, .int .i64 k] w fun e w' => e = .returned (.bool (fitB zs k)) ∧ w' = w := by
  have HV := hide' hv
  obtain ⟨a, c, rfl, _⟩ := hv
  obtain ⟨_, _, _, hcv⟩ := HV.out.int
  have CV := hide' hcv
  obtain ⟨n, HN⟩ : ∃ n, Hid (zs.length = n) := ⟨_, rfl⟩
  rw [HN.out] at CV hlen ⊢
  clear hcv HV
  by_cases h0 : k < 0
  · have HF : Hid (fitB zs k = false) := fitB_neg h0
    go_enter Try.func22, Try.ntmps22
    go_wp2
    go_ret
    rw [HF.out]
    exact ⟨rfl, rfl⟩
  · by_cases h1 : 1048576 < k
    · have HF : Hid (fitB zs k = false) := fitB_big h1
      have d0 : decide (k < 0) = false := by simp; omega
      go_enter Try.func22, Try.ntmps22
      go_wp2
      go_ret
      rw [HF.out]
      exact ⟨rfl, rfl⟩
    · have HF : Hid (fitB zs k = goodI k zs) := fitB_eq (by omega) (by omega)
      have d0 : decide (k < 0) = false := by simp; omega
      have d1 : decide (1048576 < k) = false := by simp; omega
      rw [HF.out]
      go_enter Try.func22, Try.ntmps22
      go_wp2
      go_loopw [15] (fun vi wr => ∃ (i : Nat), i ≤ n ∧ vi = .int .i64 i ∧ Hid (∀ j, j < i → 0 ≤ zs.getD j 0 ∧ zs.getD j 0 < k) ∧ wr = w) (fun vi _ => n - (intOf vi).toNat)
      case atStart => exact ⟨0, Nat.zero_le _, rfl, (fun j hj => by omega), rfl⟩
      case round =>
        obtain ⟨i, hi, rfl, HG, rfl⟩ := hrel
        by_cases hlt : i < n
        · have hlt' : (i : Int) < n := by omega
          obtain ⟨g1, o1, rfl, k1⟩ := CV.out (by omega)
          have c1 := k1 i hlt
          clear k1
          obtain ⟨z, HZ⟩ : ∃ z, Hid (zs.getD i 0 = z) := ⟨_, rfl⟩
          rw [HZ.out] at c1
          by_cases hz : z < 0
          · have HB : Hid (goodI k zs = false) := goodI_bad (j := i) (by rw [HN.out]; exact hlt) (by rw [HZ.out]; exact .inl hz)
            go_wp2
            go_ret
            rw [HB.out]
            exact ⟨rfl, rfl⟩
          · have dz : decide (z < 0) = false := by simp; omega
            by_cases hzk : k ≤ z
            · have HB : Hid (goodI k zs = false) := goodI_bad (j := i) (by rw [HN.out]; exact hlt) (by rw [HZ.out]; exact .inr hzk)
              go_wp2
              go_ret
              rw [HB.out]
              exact ⟨rfl, rfl⟩
            · have dk : decide (k ≤ z) = false := by simp; omega
              go_wp2
              go_roundw
              case rel =>
                refine ⟨i + 1, by omega, by go_num, (fun j hj => ?_), by first | trivial | rfl⟩
                by_cases e : j = i
                · subst e; rw [HZ.out]; omega
                · exact HG.out j (by omega)
              case measure => simp [intOf]; omega
        · have hlt' : decide ((i : Int) < n) = false := by simp; omega
          have HB : Hid (goodI k zs = true) := goodI_of fun j hj => HG.out j (by rw [HN.out] at hj; omega)
          go_wp2
          go_ret
          rw [HB.out]
          exact ⟨rfl, rfl⟩
end Go.Proofs.Yticblbegjfcbdaa

/- Contract of bucket.Counts. -/
namespace Go.Proofs.Yticblbegjfcbdaa
set_option linter.unusedVariables false
set_option linter.unusedSimpArgs false
open Go.RowKit

/-- How often each key is there, if all may be. -/
def countsI (zs : List Int) (k : Int) : List Int := if fitB zs k = true then natL (cntsI zs k.toNat) else []
theorem countsI_yes {zs : List Int} {k : Int} (h : fitB zs k = true) : countsI zs k = natL (cntsI zs k.toNat) := if_pos h
theorem countsI_no {zs : List Int} {k : Int} (h : fitB zs k = false) : countsI zs k = [] := by unfold countsI; rw [h]; rfl

set_option maxHeartbeats 400000 in
theorem counts_any (v : Value) (zs : List Int) (k : Int) (w : World) (hv : Sl .i64 w v zs) (hlen : zs.length ≤ 1000000) :
    Calls Try.prog 19 #[v, .int .i64 k] w fun e w' => ∃ s, e = .returned (.tuple #[s, .bool (fitB zs k)]) ∧ Own .i64 3 w.heap.size w' s (countsI zs k) ∧ Ext w w' := by
  have HV := hide' hv
  have HLEN := hide' hlen
  obtain ⟨a, c, rfl, _⟩ := hv
  obtain ⟨_, _, _, hcv⟩ := HV.out.int
  have CV := hide' hcv
  obtain ⟨n, HN⟩ : ∃ n, Hid (zs.length = n) := ⟨_, rfl⟩
  rw [HN.out] at CV hlen HV ⊢
  clear hcv
  by_cases hf : fitB zs k = true
  · have HF := hide' hf
    obtain ⟨h0, h1, hg⟩ := fitB_iff.1 hf
    have HG := hide' hg
    obtain ⟨K, rfl⟩ := Int.eq_ofNat_of_zero_le h0
    have HC : Hid (countsI zs (K : Int) = natL (cntsI zs K)) := countsI_yes hf
    rw [HC.out, HF.out]
    clear hf hg h0
    go_enter Try.func19, Try.ntmps19
    go_wp2_with fail
    refine (fit_any _ zs _ _ HV.out HLEN.out).mono ?_
    rw [HF.out]
    rintro e _ ⟨rfl, hw⟩
    rw [hw]
    clear hw
    obtain ⟨w1, hmk, ho, he⟩ := make_natsB w K (by omega)
    have HO := hide' ho
    have HE := hide' he
    clear ho he
    go_wp2
    clear hmk
    go_loopw [17] (fun vi wr => ∃ (i : Nat) (bs : List Nat), i ≤ n ∧ vi = .int .i64 i ∧ Hid (bs.length = K) ∧ Hid (∀ q, q < K → bs.getD q 0 = cntI zs q i) ∧
      Hid (Own .i64 3 w.heap.size wr (.slice (some ⟨w.heap.size, 0, none⟩) K K) (natL bs)) ∧ Hid (Ext w wr)) (fun vi _ => n - (intOf vi).toNat)
    case atStart => exact ⟨0, List.replicate K 0, Nat.zero_le _, rfl, List.length_replicate, (fun q hq => by simp [cntI, List.getD, hq]), HO, HE⟩
    case round =>
      clear HO HE
      obtain ⟨i, bs, hi, rfl, HL, HB, HO, HE⟩ := hrel
      by_cases hlt : i < n
      · have hlt' : (i : Int) < n := by omega
        obtain ⟨g1, o1, rfl, k1⟩ := CV.out (by omega)
        have c1 := HE.out.cellOf (k1 i hlt)
        clear k1
        have hz := goodI_at HG.out (j := i) (by rw [HN.out]; exact hlt)
        obtain ⟨z, HZ⟩ : ∃ z, Hid (zs.getD i 0 = z) := ⟨_, rfl⟩
        rw [HZ.out] at c1 hz
        obtain ⟨q, rfl⟩ := Int.eq_ofNat_of_zero_le hz.1
        have hq : (q : Int) < K := hz.2
        have hq2 : q < K := by omega
        clear hz
        have hfz := HO.out.frozen (by rw [natL_len]; exact HL.out) q
        have hci := HO.out.intCell HL.out q hq2
        rw [HB.out q hq2] at hci
        have hcn := cntI_le zs q i
        obtain ⟨t, HT⟩ : ∃ t, Hid (cntI zs q i = t) := ⟨_, rfl⟩
        rw [HT.out] at hci hcn
        have HO2 := hide' (HO.out.storeN HL.out q (t + 1))
        go_wp2
        go_roundw
        case rel =>
          refine ⟨i + 1, bs.set q (t + 1), by omega, by go_num, (show _ = _ by rw [List.length_set]; exact HL.out), fun r hr => ?_, HO2, Ext.but HE.out (Nat.le_refl _) (but_set _ _ _ _)⟩
          by_cases hrq : r = q
          · subst hrq; rw [set_same (by rw [HL.out]; exact hq2), cntI_same HZ.out, HT.out]
          · rw [set_other (by omega), HB.out r hr, cntI_other (by rw [HZ.out]; omega)]
        case measure => simp [intOf]; omega
      · have hlt' : decide ((i : Int) < n) = false := by simp; omega
        have hin : i = n := by omega
        subst hin
        have HQ : Hid (bs = cntsI zs K) := natL_ext (by rw [HL.out, cntsI_len]) fun q hq => by
          rw [HL.out] at hq
          rw [HB.out q hq, cntsI_at zs hq, HN.out]
        go_wp2
        go_ret2
        exact ⟨_, rfl, by rw [← HQ.out]; exact HO.out, HE.out⟩
  · have hf' : fitB zs k = false := by simpa using hf
    have HF := hide' hf'
    have HC : Hid (countsI zs k = []) := countsI_no hf'
    rw [HC.out, HF.out]
    clear hf hf'
    go_enter Try.func19, Try.ntmps19
    go_wp2_with fail
    refine (fit_any _ zs _ _ HV.out HLEN.out).mono ?_
    rw [HF.out]
    rintro e _ ⟨rfl, hw⟩
    rw [hw]
    clear hw
    go_wp2
    go_ret2
    exact ⟨_, rfl, Own.nil _ _ _ _, Ext.refl _⟩
end Go.Proofs.Yticblbegjfcbdaa

/- Contract of bucket.Starts. -/
namespace Go.Proofs.Yticblbegjfcbdaa
set_option linter.unusedVariables false
set_option linter.unusedSimpArgs false
open Go.RowKit

set_option maxHeartbeats 400000 in
theorem starts_any (v : Value) (cs : List Int) (w : World) (hv : Sl .i64 w v cs) (hlen : cs.length ≤ 4000000) (hb : ∀ i, i ≤ cs.length → -4611686018427387904 ≤ sumI cs i ∧ sumI cs i ≤ 4611686018427387904) :
    Calls Try.prog 20 #[v] w fun e w' => ∃ s, e = .returned s ∧ Own .i64 3 w.heap.size w' s (startsI cs) ∧ Ext w w' := by
  have HV := hide' hv
  obtain ⟨a, c, rfl, _⟩ := hv
  obtain ⟨_, _, _, hcv⟩ := HV.out.int
  have CV := hide' hcv
  have HBD := hide' hb
  obtain ⟨n, HN⟩ : ∃ n, Hid (cs.length = n) := ⟨_, rfl⟩
  rw [HN.out] at CV hlen HBD ⊢
  clear hcv hb HV
  obtain ⟨w1, hmk, ho, he⟩ := make_intsB w n hlen
  have HO := hide' ho
  have HE := hide' he
  clear ho he
  go_enter Try.func20, Try.ntmps20
  go_wp2
  clear hmk
  go_loopw [4, 12] (fun vs vi wr => ∃ (i : Nat) (t : Int) (bs : List Int), i ≤ n ∧ vs = .int .i64 t ∧ vi = .int .i64 i ∧ Hid (sumI cs i = t) ∧ Hid (bs.length = n) ∧ Hid (∀ j, j < i → bs.getD j 0 = sumI cs j) ∧
    Hid (Own .i64 3 w.heap.size wr (.slice (some ⟨w.heap.size, 0, none⟩) n n) bs) ∧ Hid (Ext w wr)) (fun _ vi _ => n - (intOf vi).toNat)
  case atStart => exact ⟨0, 0, List.replicate n 0, Nat.zero_le _, rfl, rfl, (show _ = _ from rfl), List.length_replicate, (fun j hj => by omega), HO, HE⟩
  case round =>
    clear HO HE
    obtain ⟨i, t, bs, hi, rfl, rfl, HT, HL, HB, HO, HE⟩ := hrel
    by_cases hlt : i < n
    · have hlt' : (i : Int) < n := by omega
      obtain ⟨g1, o1, rfl, k1⟩ := CV.out (by omega)
      have c1 := HE.out.cellOf (k1 i hlt)
      clear k1
      have b1 := HBD.out i (by omega)
      have b2 := HBD.out (i + 1) (by omega)
      have HS : Hid (sumI cs (i + 1) = t + cs.getD i 0) := by show _ = _; rw [← HT.out]; rfl
      rw [HS.out] at b2
      rw [HT.out] at b1
      obtain ⟨z, HZ⟩ : ∃ z, Hid (cs.getD i 0 = z) := ⟨_, rfl⟩
      rw [HZ.out] at c1 b2 HS
      have hfz := HO.out.frozen HL.out i
      have hci := HO.out.cell HL.out i hlt
      have HO2 := hide' (HO.out.store HL.out i t)
      have hsum : IntKind.i64.wrap (t + z) = t + z := by rw [IntKind.wrap_i64]; omega
      go_wp2
      go_roundw
      case rel =>
        refine ⟨i + 1, t + z, bs.set i t, by omega, by first | rfl | go_num, by go_num, HS, (show _ = _ by rw [List.length_set]; exact HL.out), fun j hj => ?_, HO2, Ext.but HE.out (Nat.le_refl _) (but_set _ _ _ _)⟩
        by_cases hji : j = i
        · subst hji; rw [setI_same (by rw [HL.out]; exact hlt), HT.out]
        · rw [setI_other (by omega), HB.out j (by omega)]
      case measure => simp [intOf]; omega
    · have hlt' : decide ((i : Int) < n) = false := by simp; omega
      have hin : i = n := by omega
      subst hin
      have HQ : Hid (bs = startsI cs) := getD_ext (by rw [HL.out, startsI_len, HN.out]) fun j hj => by
        rw [HL.out] at hj
        rw [HB.out j hj, startsI_at cs (by rw [HN.out]; exact hj)]
      go_wp2
      go_ret
      exact ⟨_, rfl, by rw [← HQ.out]; exact HO.out, HE.out⟩
end Go.Proofs.Yticblbegjfcbdaa
