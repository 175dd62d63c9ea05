/- The walk of the law NecklaceSame. -/
import Derived.Test.YtjccpkekhjhafaaNecKnown
import Derived.Test.YtjccpkekhjhafaaNecLong
import Derived.Test.YtjccpkekhjhafaaNecSameOp
import Derived.Test.YtjccpkekhjhafaaRefTurn
namespace Go.Proofs.Ytjccpkekhjhafaa
set_option linter.unusedVariables false
set_option linter.unusedSimpArgs false
open Go.RowKit

/-- 'x & 65535' of whatever int. -/
theorem and_maskN (x : Int) : ∃ k : Nat, bits .and .i64 x 65535 = (k : Int) ∧ k ≤ 65535 := by
  have h : (BitVec.ofInt 64 x &&& BitVec.ofInt 64 65535).toNat ≤ 65535 := by
    rw [BitVec.toNat_and]
    exact Nat.le_trans Nat.and_le_right (by decide)
  refine ⟨_, ?_, h⟩
  show IntKind.i64.wrap ((BitVec.ofInt 64 x &&& BitVec.ofInt 64 65535).toNat : Int) = _
  generalize (BitVec.ofInt 64 x &&& BitVec.ofInt 64 65535).toNat = n at h ⊢
  simp [IntKind.wrap, IntKind.bits, IntKind.signed]
  split <;> omega

/-- Values of which each was there, or is the call's own. -/
def Mix (w wr : World) (us : List Value) (yss : List (List Int)) : Prop :=
  us.length = yss.length ∧ ∀ i u, us[i]? = some u → Sl .u8 w u (yss.getD i []) ∨ Own .u8 5 w.heap.size wr u (yss.getD i [])
theorem Mix.nil (w wr : World) : Mix w wr [] [] := ⟨rfl, fun i u h => by simp at h⟩
theorem Mix.ext {w wr wr' : World} {us : List Value} {yss : List (List Int)} (h : Mix w wr us yss) (he : Ext wr wr') : Mix w wr' us yss := ⟨h.1, fun i u hu => (h.2 i u hu).imp id (fun k => k.ext he)⟩
theorem Mix.other {w wr wr' : World} {us vs : List Value} {s : Value} {B : Nat} {yss : List (List Int)} (h : Mix w wr us yss) (hv : OwnV B wr s vs) (hg : wr.grownBy wr' s.ownBlock) : Mix w wr' us yss :=
  ⟨h.1, fun i u hu => (h.2 i u hu).imp id (fun k => owns_other hv k (by decide) hg)⟩
theorem Mix.read {w wr : World} {us : List Value} {yss : List (List Int)} (h : Mix w wr us yss) (he : Ext w wr) : Read8 wr us yss :=
  ⟨h.1, fun i u hu => (h.2 i u hu).elim (fun k => k.ext he) (fun k => k.sl)⟩
theorem Mix.snoc {w wr : World} {us : List Value} {u : Value} {yss : List (List Int)} {y : List Int} (h : Mix w wr us yss) (k : Sl .u8 w u y ∨ Own .u8 5 w.heap.size wr u y) : Mix w wr (us ++ [u]) (yss ++ [y]) := by
  refine ⟨by rw [List.length_append, List.length_append, h.1]; rfl, fun i v hv => ?_⟩
  by_cases hi : i < us.length
  · rw [List.getElem?_append_left hi] at hv
    rw [getD_app_left (by rw [← h.1]; exact hi)]
    exact h.2 i v hv
  · rw [List.getElem?_append_right (by omega)] at hv
    have := lt_of_some hv
    simp at this
    have e : i - us.length = 0 := by omega
    rw [e] at hv
    simp at hv
    subst hv
    rw [getD_app_right (by rw [← h.1]; omega), ← h.1, e]
    exact k
/-- A word, turned, is the same ring. -/
theorem baseL_turn {y z : List Int} (h : y = z ∨ ∃ t, t < z.length ∧ y = turnI z t) : baseL [y] = baseL [z] := by
  rcases h with rfl | ⟨t, ht, rfl⟩
  · rfl
  · rw [baseL_one (by rw [turnI_len (Nat.le_of_lt ht)]; omega), baseL_one (by omega), ofI_turn ht]
theorem turnI_bytes {z : List Int} {t : Nat} (h : Bytes8 z) : Bytes8 (turnI z t) := fun x hx => by
  unfold turnI at hx
  rcases List.mem_append.1 hx with hx | hx
  · exact h x (List.mem_of_mem_drop hx)
  · exact h x (List.mem_of_mem_take hx)
theorem Words8.snoc {l : List (List Int)} {y : List Int} (h : Words8 l) (hb : Bytes8 y) (hy : y.length ≤ 1000000) (hl : l.length + 1 ≤ 100000) : Words8 (l ++ [y]) := by
  refine ⟨by rw [List.length_append]; exact hl, fun i => ?_⟩
  by_cases hi : i < l.length
  · rw [getD_app_left hi]; exact h.2 i
  · rw [getD_app_right (by omega)]
    refine getD_all' (P := fun x => Bytes8 x ∧ x.length ≤ 1000000) (fun x hx => ?_) ⟨(fun z hz => by cases hz), by simp⟩ _
    simp only [List.mem_singleton] at hx
    subst hx
    exact ⟨hb, hy⟩
theorem drop_base {zss : List (List Int)} {j : Nat} (h : j < zss.length) : baseL (zss.drop j) = baseL [zss.getD j []] ++ baseL (zss.drop (j + 1)) := by
  rw [drop_cons' zss j [] _ h rfl, ← baseL_app]
  rfl

theorem perm_step {zss yss : List (List Int)} {y z : List Int} {J : Nat} (hJ : J < zss.length) (hz : zss.getD J [] = z) (hy : y = z ∨ ∃ t, t < z.length ∧ y = turnI z t) (hp : (baseL yss).Perm (baseL (zss.drop (J + 1)))) : (baseL (yss ++ [y])).Perm (baseL (zss.drop J)) := by
  rw [baseL_app, drop_base hJ, hz, baseL_turn hy]
  exact List.perm_append_comm.trans (hp.append_left _)

/-- 'append(s, x)' behind a test that holds. -/
theorem wpList_snocVg (w : World) {ops : Array Oper} {rest : List Oper} {o : Oper} {a : Act} {Q : Exit → Act → World → Prop} (hgd : Region.wanted o (yielded ops a.tmps) = true) (s x : Operand)
    (ho : o.op = .call { callee := .builtin .append, args := #[s, x], argTypes := #[22, 22] }) (B : Nat) (v : Value) (vs : List Value) (u : Value) (g : Nat) (hs : a.eval s = v) (hx : a.eval x = .slice (some ⟨g, 0, none⟩) 1 1)
    (hc : w.cell? ⟨g, 0, none⟩ = some u) (h1 : u.oneCell' = true) (hown : OwnV B w v vs) (hlen : vs.length + 1 ≤ 1000000) (hB : B ≤ w.heap.size)
    (h : ∀ v' w', OwnV B w' v' (vs ++ [u]) → w.grownBy w' v.ownBlock → wpList Try.prog ops Q rest (a.put o.dst v') w') : wpList Try.prog ops Q (o :: rest) a w := by
  obtain ⟨i0, hi, hz0, hz1, hz2⟩ := info_partsV infoV
  refine wpList_step fun K hK => ?_
  rw [if_pos hgd]
  refine wp_append_own w s x 22 ho B 31 i0 (.slice none 0 0) 1 24 Try.underlying22 hi hz0 hz1 hz2 rfl (by decide) v _ _ hs hown ⟨g, 0, none⟩ 1 1 [u] hx rfl ?_ (by simpa using h1) (by unfold maxLen; omega) (by omega) hB fun v' w' k1 k2 _ => hK _ _ (h v' w' ?_ k2)
  · intro j u' hj
    rw [Addr.add_mid, Nat.zero_add]
    match j, hj with
    | 0, hj => simp at hj; subst hj; exact hc
  · unfold OwnV
    rw [List.length_append]
    exact k1

set_option maxHeartbeats 4000000 in
theorem lawSame (v t u : Value) (vs : List Value) (zss : List (List Int)) (ts ms : List Int) (w : World) (hv : SlV w v vs) (hr : Read8 w vs zss) (hb : ∀ zs ∈ zss, ∀ z ∈ zs, 0 ≤ z ∧ z ≤ 255) (hl : ∀ zs ∈ zss, zs.length ≤ 140737488351232)
    (ht : Sl .i64 w t ts) (hu : Sl .u8 w u ms) (hm : Bytes8 ms) :
    Calls Try.prog 4 #[v, t, u] w fun e w' => e = .returned (.bool true) ∧ Below w.heap.size w w' := by
  have HV := hide' hv
  have HR := hide' hr
  have HT := hide' ht
  have HU := hide' hu
  have HM := hide' hm
  have CL := hide' (long_any v zss w (hv.sls hr) hl)
  have HLW := hide' (fun h => longB_words (zss := zss) h hb)
  obtain ⟨ua, uc, rfl, hu1, hu2, _⟩ := hu
  unfold maxLen at hu2
  clear hv hr hb hl ht hm
  obtain ⟨D, HD⟩ : ∃ D, Hid (longB zss = D) := ⟨_, rfl⟩
  obtain ⟨q, HQ⟩ : ∃ q, Hid (ms.length = q) := ⟨_, rfl⟩
  rw [HD.out] at CL HLW
  rw [HQ.out] at HU hu1 ⊢
  cases D with
  | true =>
    go_enter Try.func4, Try.ntmps4
    go_wp2_with fail
    refine CL.out.mono ?_
    rintro e w1 ⟨rfl, rfl⟩
    go_wp2
    go_ret
    exact ⟨rfl, Below.refl _ _⟩
  | false =>
    by_cases hq0 : (q : Int) < 1
    · go_enter Try.func4, Try.ntmps4
      go_wp2_with fail
      refine CL.out.mono ?_
      rintro e w1 ⟨rfl, rfl⟩
      go_wp2
      go_ret
      exact ⟨rfl, Below.refl _ _⟩
    have dq0 : decide ((q : Int) < 1) = false := by simpa using hq0
    by_cases hq1 : (50 : Int) < (q : Int)
    · go_enter Try.func4, Try.ntmps4
      go_wp2_with fail
      refine CL.out.mono ?_
      rintro e w1 ⟨rfl, rfl⟩
      go_wp2
      go_ret
      exact ⟨rfl, Below.refl _ _⟩
    have dq1 : decide ((50 : Int) < (q : Int)) = false := by simpa using hq1
    have q0 : 0 < q := by omega
    have q1 : q ≤ 50 := by omega
    clear hq0 hq1
    have HW := hide' (HLW.out rfl)
    obtain ⟨va, vc, hvv, hvc, hvm, _⟩ := HV.out
    subst hvv
    unfold maxLen at hvm
    obtain ⟨N, HN⟩ : ∃ n, Hid (vs.length = n) := ⟨_, rfl⟩
    have HZN : Hid (zss.length = N) := by show _ = _; rw [← HR.out.1]; exact HN.out
    have hN : N ≤ 30 := by have := HW.out.2; rw [HZN.out] at this; exact this
    rw [HN.out] at HV hvc CL ⊢
    obtain ⟨ta, tc, htv, htc, htm, _⟩ := HT.out
    subst htv
    unfold maxLen at htm
    obtain ⟨T, HTN⟩ : ∃ n, Hid (ts.length = n) := ⟨_, rfl⟩
    rw [HTN.out] at HT htc ⊢
    have SV := hide' (HV.out.sls HR.out)
    go_enter Try.func4, Try.ntmps4
    go_wp2_with fail
    refine CL.out.mono ?_
    rintro e w1 ⟨rfl, rfl⟩
    go_wp2
    go_loopw [7, 8] (fun ov vi wr => ∃ (k : Nat) (i : Int) (us : List Value) (yss : List (List Int)), i + 1 + k = N ∧ -1 ≤ i ∧ vi = .int .i64 i ∧ Hid (yss.length = k) ∧ Hid (OwnV w1.heap.size wr ov us) ∧ Hid (Mix w1 wr us yss) ∧ Hid ((baseL yss).Perm (baseL (zss.drop (N - k)))) ∧ Hid (Words8 yss) ∧ Hid (Ext w1 wr)) (fun _ vi _ => ((intOf vi) + 1).toNat)
    case atStart => exact ⟨0, (N : Int) - 1, [], [], by omega, by omega, rfl, rfl, OwnV.nil _ _, Mix.nil _ _, (by show List.Perm _ _; rw [List.drop_of_length_le (by rw [HZN.out]; omega)]), ⟨by simp, fun i => ⟨(fun z hz => by simp at hz), by simp⟩⟩, Ext.refl _⟩
    case round =>
      obtain ⟨k, i, us, yss, hk, hi, rfl, HYL, HO, HX, HP, HYW, HE⟩ := hrel
      by_cases hlt : 0 ≤ i
      · obtain ⟨J, rfl⟩ := Int.eq_ofNat_of_zero_le hlt
        have hJ : J < N := by omega
        have hJ' : (J : Int) < N := by omega
        have hJz : J < zss.length := by rw [HZN.out]; exact hJ
        obtain ⟨g, off, a2, c2, rfl, hc0, h10, h9, h8⟩ := SV.out.row hJz
        have hc := HE.out.cellOf hc0
        obtain ⟨z, HZ⟩ : ∃ z, Hid (zss.getD J [] = z) := ⟨_, rfl⟩
        have HB := hide' (HW.out.1.2 J)
        rw [HZ.out] at hc h9 h8 HB
        have H8 := hide' h8
        have HPP : Hid ((baseL yss).Perm (baseL (zss.drop (J + 1)))) := by
          have := HP.out
          rwa [show N - k = J + 1 by omega] at this
        have PS : Hid (∀ y, (y = z ∨ ∃ t, t < z.length ∧ y = turnI z t) → (baseL (yss ++ [y])).Perm (baseL (zss.drop (N - (k + 1))))) := fun y hy => by
          rw [show N - (k + 1) = J by omega]
          exact perm_step hJz HZ.out hy HPP.out
        have LU : Hid (us.length + 1 ≤ 1000000) := by
          have h1 := HX.out.1
          have h2 := HYL.out
          show _ ≤ _
          omega
        have WS : Hid (∀ y, Bytes8 y → y.length ≤ 1000000 → Words8 (yss ++ [y])) := fun y h1 h2 => HYW.out.snoc h1 h2 (by have := HYL.out; omega)
        clear h8 hc0 hJz HP
        obtain ⟨m, HMM⟩ : ∃ m, Hid (z.length = m) := ⟨_, rfl⟩
        rw [HMM.out] at hc h9 H8
        unfold maxLen at h10
        have RL : Hid (∀ y, (yss ++ [y]).length = k + 1) := fun y => by rw [List.length_append, HYL.out]; rfl
        by_cases hm0 : m = 0
        · have dm : decide ((0 : Int) < (m : Int)) = false := by simp; omega
          have dm2 : decide (0 < m) = false := by simp; omega
          clear hm0
          have O3 := hide' (HO.out.ext (ext_alloc wr (.cells #[.slice a2 m c2] 31)))
          have E3 := hide' (HE.out.trans (ext_alloc wr (.cells #[.slice a2 m c2] 31)))
          have X3 := hide' (HX.out.ext (ext_alloc wr (.cells #[.slice a2 m c2] 31)))
          have KC : Hid ((wr.alloc (.cells #[.slice a2 m c2] 31)).cell? ⟨wr.heap.size, 0, none⟩ = some (.slice a2 m c2)) := by show _ = _; simp only [World.cell?, heap_alloc_top]; simp
          go_wp2_with (at_builtin; refine wpList_snocV _ rfl _ _ rfl w1.heap.size _ us (.slice a2 m c2) wr.heap.size rfl rfl KC.out rfl O3.out LU.out E3.out.size ?_)
          intro v1 w3 ho1 hg1
          have E4 : Hid (Ext w1 w3) := Below.trans E3.out (owns_grown O3.out E3.out.size hg1)
          have X4 := hide' ((X3.out.other O3.out hg1).snoc (.inl H8.out))
          have O4 := hide' ho1
          have P4 := hide' (PS.out z (.inl rfl))
          have W4 := hide' (WS.out z HB.out.1 HB.out.2)
          have L4 := hide' (RL.out z)
          clear ho1 hg1 O3 E3 X3 HO HX HE hc
          go_wp2
          go_roundw
          case rel => exact ⟨k + 1, (J : Int) - 1, _, _, by omega, by omega, by first | rfl | go_num, L4, O4, X4, P4, W4, E4⟩
          case measure => (simp [intOf]) <;> omega
        · have dm : decide ((0 : Int) < (m : Int)) = true := by simp; omega
          have dm2 : 0 < m := by omega
          by_cases hJT : J < T
          · have dt : (J : Int) < (T : Int) := by omega
            have hne : ts ≠ [] := fun e => by have := HTN.out; rw [e] at this; simp at this; omega
            obtain ⟨_, tg, toff, rfl, tcell⟩ := HT.out.at hne
            have tc1 := HE.out.cellOf (tcell J hJT)
            obtain ⟨p, hp⟩ : ∃ p, p = ts.getD J 0 := ⟨_, rfl⟩
            rw [← hp] at tc1
            obtain ⟨b, hand, hbk⟩ := and_maskN p
            have hm1 : (b : Int).tmod (m : Int) = ((b % m : Nat) : Int) := by rw [Int.tmod_eq_emod_of_nonneg (by omega)]; simp
            have hm2 : (b : Int) % (m : Int) = ((b % m : Nat) : Int) := by simp
            have hml : b % m < m := Nat.mod_lt _ (by omega)
            obtain ⟨r, HRM⟩ : ∃ r, Hid (b % m = r) := ⟨_, rfl⟩
            rw [HRM.out] at hm1 hm2 hml
            have mne : (m : Int) ≠ 0 := by omega
            have mq : ((m : Int) == 0) = false := by simpa using mne
            have RT := hide' (rturn_any (.slice a2 m c2) z r wr (H8.out.ext HE.out) (by rw [HMM.out]; omega) HB.out.2)
            have YY : Hid (turnI z r = z ∨ ∃ t, t < z.length ∧ turnI z r = turnI z t) := .inr ⟨r, by rw [HMM.out]; exact hml, rfl⟩
            have TB := hide' (turnI_bytes (t := r) HB.out.1)
            have TL : Hid ((turnI z r).length ≤ 1000000) := by show _ ≤ _; rw [turnI_len (by rw [HMM.out]; omega)]; exact HB.out.2
            obtain ⟨y, HY⟩ : ∃ y, Hid (turnI z r = y) := ⟨_, rfl⟩
            rw [HY.out] at RT YY TB TL
            clear hm0 hp tcell hne
            go_wp2_with fail
            refine RT.out.mono ?_
            rintro e w2 ⟨st, rfl, ho, he⟩
            have T1 := hide' (ho.low HE.out.size)
            have E2 := hide' (HE.out.trans he)
            have O2 := hide' (HO.out.ext he)
            have X2 := hide' (HX.out.ext he)
            obtain ⟨sa, sn, sc, hst⟩ := slice_of' ho.sl
            subst hst
            clear ho he HO HX HE hc tc1 hand hm1 hm2 RT
            have O3 := hide' (O2.out.ext (ext_alloc w2 (.cells #[.slice sa sn sc] 31)))
            have E3 := hide' (E2.out.trans (ext_alloc w2 (.cells #[.slice sa sn sc] 31)))
            have X3 := hide' ((X2.out.ext (ext_alloc w2 (.cells #[.slice sa sn sc] 31))))
            have T3 := hide' (T1.out.ext (ext_alloc w2 (.cells #[.slice sa sn sc] 31)))
            have KC : Hid ((w2.alloc (.cells #[.slice sa sn sc] 31)).cell? ⟨w2.heap.size, 0, none⟩ = some (.slice sa sn sc)) := by show _ = _; simp only [World.cell?, heap_alloc_top]; simp
            go_wp2_with (at_builtin; refine wpList_snocV _ rfl _ _ rfl w1.heap.size _ us (.slice sa sn sc) w2.heap.size rfl rfl KC.out rfl O3.out LU.out E3.out.size ?_)
            intro v1 w3 ho1 hg1
            have E4 : Hid (Ext w1 w3) := Below.trans E3.out (owns_grown O3.out E3.out.size hg1)
            have X4 := hide' ((X3.out.other O3.out hg1).snoc (.inr (owns_other O3.out T3.out (by decide) hg1)))
            have O4 := hide' ho1
            have P4 := hide' (PS.out y YY.out)
            have W4 := hide' (WS.out y TB.out TL.out)
            have L4 := hide' (RL.out y)
            clear ho1 hg1 O3 E3 X3 T3 T1 O2 E2 X2
            go_wp2
            go_roundw
            case rel => exact ⟨k + 1, (J : Int) - 1, _, _, by omega, by omega, by first | rfl | go_num, L4, O4, X4, P4, W4, E4⟩
            case measure => (simp [intOf]) <;> omega
          · have dt : decide ((J : Int) < (T : Int)) = false := by simp; omega
            clear hm0
            have O3 := hide' (HO.out.ext (ext_alloc wr (.cells #[.slice a2 m c2] 31)))
            have E3 := hide' (HE.out.trans (ext_alloc wr (.cells #[.slice a2 m c2] 31)))
            have X3 := hide' (HX.out.ext (ext_alloc wr (.cells #[.slice a2 m c2] 31)))
            have KC : Hid ((wr.alloc (.cells #[.slice a2 m c2] 31)).cell? ⟨wr.heap.size, 0, none⟩ = some (.slice a2 m c2)) := by show _ = _; simp only [World.cell?, heap_alloc_top]; simp
            go_wp2_with (at_builtin; refine wpList_snocV _ rfl _ _ rfl w1.heap.size _ us (.slice a2 m c2) wr.heap.size rfl rfl KC.out rfl O3.out LU.out E3.out.size ?_)
            intro v1 w3 ho1 hg1
            have E4 : Hid (Ext w1 w3) := Below.trans E3.out (owns_grown O3.out E3.out.size hg1)
            have X4 := hide' ((X3.out.other O3.out hg1).snoc (.inl H8.out))
            have O4 := hide' ho1
            have P4 := hide' (PS.out z (.inl rfl))
            have W4 := hide' (WS.out z HB.out.1 HB.out.2)
            have L4 := hide' (RL.out z)
            clear ho1 hg1 O3 E3 X3 HO HX HE hc
            go_wp2
            go_roundw
            case rel => exact ⟨k + 1, (J : Int) - 1, _, _, by omega, by omega, by first | rfl | go_num, L4, O4, X4, P4, W4, E4⟩
            case measure => (simp [intOf]) <;> omega
      · have hi1 : i = -1 := by omega
        have hkN : k = N := by omega
        subst hkN hi1
        have HP2 : Hid (canonL zss = canonL yss) := by
          refine (canonL_perm_eq ?_).symm
          have := HP.out
          rwa [Nat.sub_self, List.drop_zero] at this
        have SO := hide' (HO.out.sl.sls (HX.out.read HE.out))
        have CS0 := same_any _ _ zss yss wr (SV.out.ext HE.out) SO.out HW.out.1 HYW.out
        rw [decide_eq_true HP2.out] at CS0
        have CS := hide' CS0
        clear CS0
        go_wp2_with fail
        refine CS.out.mono ?_
        rintro e w2 ⟨rfl, he⟩
        have E2 := hide' (HE.out.trans he)
        have O2 := hide' (HO.out.ext he)
        have X2 := hide' (HX.out.ext he)
        clear he HO HX HE
        have LU : Hid (us.length + 1 ≤ 1000000) := by
          have h1 := X2.out.1
          have h2 := HYL.out
          show _ ≤ _
          omega
        have O3 := hide' (O2.out.ext (ext_alloc w2 (.cells #[.slice ua q uc] 31)))
        have E3 := hide' (E2.out.trans (ext_alloc w2 (.cells #[.slice ua q uc] 31)))
        have X3 := hide' (X2.out.ext (ext_alloc w2 (.cells #[.slice ua q uc] 31)))
        have KC : Hid ((w2.alloc (.cells #[.slice ua q uc] 31)).cell? ⟨w2.heap.size, 0, none⟩ = some (.slice ua q uc)) := by show _ = _; simp only [World.cell?, heap_alloc_top]; simp
        go_wp2_with (at_builtin; refine wpList_snocVg _ rfl _ _ rfl w1.heap.size _ us (.slice ua q uc) w2.heap.size rfl rfl KC.out rfl O3.out LU.out E3.out.size ?_)
        intro v1 w3 ho1 hg1
        have E4 : Hid (Ext w1 w3) := Below.trans E3.out (owns_grown O3.out E3.out.size hg1)
        have X4 := hide' ((X3.out.other O3.out hg1).snoc (.inl HU.out))
        have SO2 := hide' (ho1.sl.sls (X4.out.read E4.out))
        have WM : Hid (Words8 (yss ++ [ms])) := HYW.out.snoc HM.out (by rw [HQ.out]; omega) (by have := HYL.out; omega)
        have NE : Hid (¬ canonL zss = canonL (yss ++ [ms])) := fun e => by
          have h1 := congrArg List.length e
          rw [HP2.out, canonL_len, canonL_len, baseL_app, baseL_one (by rw [HQ.out]; exact q0), List.length_append] at h1
          simp at h1
        have CS0 := same_any _ _ zss (yss ++ [ms]) w3 (SV.out.ext E4.out) SO2.out HW.out.1 WM.out
        rw [decide_eq_false NE.out] at CS0
        have CS2 := hide' CS0
        clear ho1 hg1 CS0 NE WM SO2 X4 X3 O3 E3
        go_wp2_with fail
        refine CS2.out.mono ?_
        rintro e w4 ⟨rfl, he⟩
        have E5 := hide' (E4.out.trans he)
        clear he
        go_wp2_with fail
        refine (known_any _).mono ?_
        rintro e w5 ⟨rfl, he⟩
        have E6 := hide' (E5.out.trans he)
        clear he
        go_wp2
        go_ret
        exact ⟨rfl, E6.out⟩
end Go.Proofs.Ytjccpkekhjhafaa
