/- BwtOnce: the walk. -/
import Derived.Test.YtokmlklcjipkiaaPart4
namespace Go.Proofs.Ytokmlklcjipkiaa
set_option linter.unusedVariables false
set_option linter.unusedSimpArgs false
open Go.RowKit

theorem backB_two {l : List Int} (h8 : Bytes8 l) (at' : Int) : backB l at' = ([], 5) ∨ ∃ s, backB l at' = (s, 0) ∧ turnB s = (l, at') ∧ s.length = l.length ∧ Bytes8 s := by
  rcases Classical.em (∃ s, turnB s = (l, at')) with ⟨s, h⟩ | h
  · refine .inr ⟨s, back_yes h, h, ?_, fun z hz => ?_⟩
    · have := turnB_len s
      rw [h] at this
      exact this.symm
    · have hp := bw_perm (sortE_ord s).1
      have hl : bwL s (sortE s) = l := (Prod.mk.inj h).1
      rw [hl] at hp
      exact h8 z (hp.mem_iff.2 hz)
  · exact .inl (back_no fun s e => h ⟨s, e⟩)

set_option maxHeartbeats 1000000 in
theorem lawOnce (v : Value) (l : List Int) (w : World) (hv : Sl .u8 w v l) (h8 : Bytes8 l) :
    Calls Try.prog 6 #[v] w fun e w' => e = .returned (.bool true) ∧ Ext w w' := by
  have HV := hide' hv
  have H8 := hide' h8
  obtain ⟨va, vc, rfl, _⟩ := hv
  clear h8
  by_cases h1 : (40 : Int) < (l.length : Int)
  · go_enter Try.func6, Try.ntmps6
    go_wp2
    go_ret
    exact ⟨rfl, Ext.refl _⟩
  have d1 : decide ((40 : Int) < (l.length : Int)) = false := by simpa using h1
  have HS5 : Hid (l.length ≤ 100000) := by show _ ≤ _; omega
  obtain ⟨n, HN⟩ : ∃ n, Hid (l.length = n) := ⟨_, rfl⟩
  have hn : n ≤ 40 := by rw [← HN.out]; omega
  rw [HN.out] at HV d1 ⊢
  clear h1
  have q3 : ((strOfNums l).toList == (strOfNums l).toList) = true := by simp
  have wn : IntKind.i64.wrap ((n : Int) + 1) = (n : Int) + 1 := by rw [IntKind.wrap_i64]; omega
  go_enter Try.func6, Try.ntmps6
  go_wp2
  go_loopw [3, 4, 5, 6, 7, 8] (fun vi _ _ _ _ _ wr => ∃ (z : Int), -1 ≤ z ∧ z ≤ n + 2 ∧ vi = .int .i64 z ∧ Hid (Ext w wr)) (fun vi _ _ _ _ _ _ => ((n : Int) + 2 - intOf vi).toNat)
  case atStart => exact ⟨-1, by omega, by omega, rfl, Ext.refl _⟩
  case round =>
    obtain ⟨z, hz1, hz2, rfl, HE⟩ := hrel
    by_cases hlt : z ≤ (n : Int) + 1
    · have d2 : decide (z ≤ (n : Int) + 1) = true := by simpa using hlt
      have wz : IntKind.i64.wrap (z + 1) = z + 1 := by rw [IntKind.wrap_i64]; omega
      have HBK := hide' (bwBack_any _ l z _ (HV.out.ext HE.out) H8.out HS5.out)
      rcases backB_two H8.out z with hb | ⟨s, hb, ht, hsl, hs8⟩
      · rw [hb] at HBK
        clear hb
        go_wp2_with fail
        refine HBK.out.mono ?_
        rintro e w2 ⟨u2, rfl, ho, he⟩
        have HE2 := hide' (HE.out.trans he)
        obtain ⟨ua, uc, rfl, _⟩ := ho.sl
        simp only [List.length_nil]
        clear ho he HBK
        go_wp2
        go_roundw
        case rel => exact ⟨z + 1, by omega, by omega, by first | rfl | go_num, HE2⟩
        case measure => simp [intOf] <;> omega
      · rw [hb] at HBK
        have HT := hide' ht
        have HS8 := hide' hs8
        have HSL : Hid (s.length ≤ 100000) := by show _ ≤ _; rw [hsl]; exact HS5.out
        have q1 : (z != z) = false := by simp
        clear hb ht hsl hs8
        go_wp2_with fail
        refine HBK.out.mono ?_
        rintro e w2 ⟨u2, rfl, ho, he⟩
        have O2 := hide' ho.sl
        have HE2 := hide' (HE.out.trans he)
        clear ho he HBK
        go_wp2_with fail
        refine (bwTurn_any _ s w2 O2.out HS8.out HSL.out).mono ?_
        rw [HT.out]
        rintro e w3 ⟨u3, rfl, ho, he⟩
        have HE3 := hide' (HE2.out.trans he)
        have s1 := ho.sl.str (P := Try.prog) 22 5 9 Try.underlying22 Try.underlying5 Try.underlying9
        have s2 := (HV.out.ext HE3.out).str (P := Try.prog) 22 5 9 Try.underlying22 Try.underlying5 Try.underlying9
        clear ho he O2 HE2
        go_wp2
        clear s1 s2
        go_roundw
        case rel => exact ⟨z + 1, by omega, by omega, by first | rfl | go_num, HE3⟩
        case measure => simp [intOf] <;> omega
    · have d2 : decide (z ≤ (n : Int) + 1) = false := by simpa using hlt
      go_wp2_with fail
      refine (known_any _).mono ?_
      rintro e w5 ⟨rfl, he⟩
      have X5 := hide' (HE.out.trans he)
      clear he
      go_wp2
      go_ret
      exact ⟨rfl, X5.out⟩
end Go.Proofs.Ytokmlklcjipkiaa
