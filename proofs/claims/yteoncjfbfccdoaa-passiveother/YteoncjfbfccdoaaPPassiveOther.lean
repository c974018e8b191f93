
/-
  The statement PassiveOther: of any list of ints and any number, putting it in and taking it out leaves all the others, and what comes out may be again.
-/
import Derived.Test.YteoncjfbfccdoaaRows
import Derived.Test.YteoncjfbfccdoaaOpen
import Derived.Test.YteoncjfbfccdoaaPassLaw
namespace Go.Proofs.Yteoncjfbfccdoaa.passiveOther
open Go.ChangeShapes Go.WideShapes Go.ChangeAt Go.RowKit
set_option linter.unusedVariables false

/-! ### The walk -/
set_option maxHeartbeats 4000000 in
theorem walk (v0 : Value) (x0 : List Int) (a1 : Int) (w : World) (r0 : RowI 0 w.heap.size w v0 x0) (s0 : x0.length * 8 ≤ 140737488351232) (w0 : ∀ x ∈ x0, (Lit.int .i64 x).wf = true) (w1 : (Lit.int .i64 a1).wf = true) :
    Calls Try.prog 6 #[v0, .int .i64 a1] w fun e w' => e = .returned (.bool true) ∧ Below w.heap.size w w' := by
  clear w0 w1
  have hr := r0
  have hz : w.heap.size ≤ w.heap.size := Nat.le_refl _
  clear r0 s0
  have q1 := trivial
  by_cases hok : paB x0 = true ∧ plB a1 = true
  · obtain ⟨h, hd⟩ := hok
    obtain ⟨h16, hpl, hup⟩ := paB_iff.1 h
    obtain ⟨o1, o2⟩ := wo_ok h hd
    by_cases hl : (wiI x0 a1).length ≤ 16
    · obtain ⟨e1, e2⟩ := wi_ok h hd hl
      have HA := wi_pa h hd hl
      have HB := ne_pa (d := a1) h
      obtain ⟨o3, o4⟩ := wo_ok HA hd
      rw [wi_out hup] at o3
      have hlen := wi_len (d := a1) hup
      generalize wiI x0 a1 = A at *
      generalize x0.filter (neB a1) = B at *
      have hll : (A.length : Int) = (B.length : Int) + 1 := by omega
      replace hlen := toHid hlen
      replace o1 := toHid o1
      replace o2 := toHid o2
      replace o3 := toHid o3
      replace o4 := toHid o4
      replace e1 := toHid e1
      replace e2 := toHid e2
      replace HA := toHid HA
      replace HB := toHid HB
      have m1 := trivial
      clear h hd hup hpl
      go_enter Try.func6, Try.ntmps6
      go_wp2_with (first
        | (go_at_call 18; refine (awake8_any _).mono ?_; rintro e w1 ⟨rfl, h1⟩)
        | (go_at_call 8; refine (qWith_at (hr.below h1 hz) h1.size _ e1.out e2.out).mono ?_; rintro e w2 ⟨u2, rfl, P2, h2⟩
           obtain ⟨pa, ca, rfl, -, -⟩ := P2.ints (Nat.le_refl _)
           have hB2 := h1.on h2
           replace P2 := toHid P2)
        | (go_at_call 10; clear q1; refine (qWithout_at (hr.below hB2 hz) _ o1.out o2.out).mono ?_; rintro e w3 ⟨u3, rfl, P3, h3⟩
           obtain ⟨pb, cb, rfl, -, -⟩ := P3.ints (Nat.le_refl _)
           have hB3 := hB2.on h3
           replace P3 := toHid P3)
        | (go_at_call 10; refine (qWithout_at (P2.out.below h3 (Nat.le_refl _)) _ o3.out o4.out).mono ?_; rintro e w4 ⟨u4, rfl, P4, h4⟩
           have hB4 := hB3.on h4
           have P24 := toHid (P2.out.below (h3.on h4) (Nat.le_refl _))
           have P34 := toHid (P3.out.below h4 (Nat.le_refl _))
           have y3 := h3.size
           have y4 := h4.size)
        | (go_at_call 12; refine (sameI_at P34.out P4 (b := true) (by simp)).mono ?_; rintro e w5 ⟨rfl, h5⟩)
        | (go_at_call 14; clear m1; refine (qMay_is (P24.out.below h5 (by omega)) HA.out).mono ?_; rintro e w6 ⟨rfl, h6⟩)
        | (go_at_call 14; refine (qMay_is (P34.out.below (h5.on h6) (by omega)) HB.out).mono ?_; rintro e w7 ⟨rfl, h7⟩)
        | (go_at_call 13; refine (num_any _ _).mono ?_; rintro e w' ⟨rfl, hw'⟩; subst w'))
      go_ret
      exact ⟨rfl, ((hB4.on h5).on h6).on h7⟩
    · obtain ⟨e1, e2⟩ := wi_full h hd hl
      obtain ⟨f1, f2⟩ := wi_over h hl
      rw [ne_none f2] at o1
      obtain ⟨o3, o4⟩ := wo_ok (xs := []) (d := a1) (by decide) hd
      obtain ⟨p0, c0, e0, n0, -⟩ := hr.ints hz
      subst e0
      have f3 : Hid (x0.length = 16) := toHid f1
      replace o1 := toHid o1
      replace o2 := toHid o2
      replace o3 := toHid o3
      replace o4 := toHid o4
      replace e1 := toHid e1
      replace e2 := toHid e2
      replace hr := toHid hr
      rw [f1]
      rw [f1] at hr
      clear h hd hup hpl hl f1 f2 n0 h16
      go_enter Try.func6, Try.ntmps6
      go_wp2_with (first
        | (go_at_call 18; refine (awake8_any _).mono ?_; rintro e w1 ⟨rfl, h1⟩)
        | (go_at_call 8; refine (qWith_at (hr.out.below h1 hz) h1.size _ e1.out e2.out).mono ?_; rintro e w2 ⟨u2, rfl, P2, h2⟩
           have hB2 := h1.on h2
           replace P2 := toHid P2)
        | (go_at_call 10; clear q1; refine (qWithout_at (hr.out.below hB2 hz) _ o1.out o2.out).mono ?_; rintro e w3 ⟨u3, rfl, P3, h3⟩
           have hB3 := hB2.on h3
           replace P3 := toHid P3)
        | (go_at_call 10; refine (qWithout_at (P2.out.below h3 (Nat.le_refl _)) _ o3.out o4.out).mono ?_; rintro e w4 ⟨u4, rfl, P4, h4⟩
           have hB4 := hB3.on h4
           have P34 := toHid (P3.out.below h4 (Nat.le_refl _))
           clear P4)
        | (go_at_call 12; refine (sameI_at P34.out (hr.out.below hB4 hz) (b := true) (by simp)).mono ?_; rintro e w5 ⟨rfl, h5⟩)
        | (go_at_call 13; refine (num_any _ _).mono ?_; rintro e w' ⟨rfl, hw'⟩; subst w'))
      go_ret
      exact ⟨rfl, hB4.on h5⟩
  · have hno : paB x0 = false ∨ plB a1 = false := by
      rcases Bool.eq_false_or_eq_true (paB x0) with h | h
      · rcases Bool.eq_false_or_eq_true (plB a1) with h2 | h2
        · exact absurd ⟨h, h2⟩ hok
        · exact .inr h2
      · exact .inl h
    obtain ⟨e1, e2⟩ := wi_form hno
    obtain ⟨o1, o2⟩ := wo_form hno
    replace o1 := toHid o1
    replace o2 := toHid o2
    replace e1 := toHid e1
    replace e2 := toHid e2
    clear hok hno
    go_enter Try.func6, Try.ntmps6
    go_wp2_with (first
      | (go_at_call 18; refine (awake8_any _).mono ?_; rintro e w1 ⟨rfl, h1⟩)
      | (go_at_call 8; refine (qWith_at (hr.below h1 hz) h1.size _ e1.out e2.out).mono ?_; rintro e w2 ⟨u2, rfl, P2, h2⟩
         obtain ⟨pa, ca, rfl, -, -⟩ := P2.ints (Nat.le_refl _)
         have hB2 := h1.on h2
         clear P2)
      | (go_at_call 10; refine (qWithout_at (hr.below hB2 hz) _ o1.out o2.out).mono ?_; rintro e w3 ⟨u3, rfl, P3, h3⟩
         obtain ⟨pb, cb, rfl, -, -⟩ := P3.ints (Nat.le_refl _)
         have hB3 := hB2.on h3
         clear P3)
      | (go_at_call 13; refine (num_any _ _).mono ?_; rintro e w' ⟨rfl, hw'⟩; subst w'))
    go_ret
    exact ⟨rfl, hB3⟩

/-! ### The row's step -/
set_option maxRecDepth 100000 in
theorem lifted (os : Os) (started : os.Started) (H : Type) (enc : TypeId × Value → H) :
    ReturnsInHanded {} Try.checked os 6 .any (Rows.passiveOtherSpec.pre6 enc Try.prog Try.f6 Rows.passiveOtherRow.domain false) (Rows.passiveOtherSpec.post enc Try.prog Try.f6 false true false false) := by
  refine returnsInHanded_of_change_sized (C := Try.checked) ownK started (by kernel_rfl) Try.func6
    (ChangeSpec.witness6 (enc := enc) (C := Try.checked) false ⟨#[], #[.slice none 0 0, .int .i64 0], []⟩ 8 (by kernel_rfl) (by kernel_rfl) (by kernel_rfl) (by kernel_rfl)) ?_
  intro W base args ds gs before hval0 hW hcnd hsz0 _
  have hsz : (DataW.weightsEach Try.prog (Try.f6.params.toList ++ Rows.passiveOtherSpec.plain.varTypes Try.prog) (ds ++ gs)).all (· ≤ reachBytes) = true := hsz0
  have hval : ∀ (j : Nat) t v, Try.f6.params[j]? = some t → args[j]? = some v → Value.okWide Try.prog W .any base t v := hval0
  have hW' := hW
  obtain ⟨p, q, hA0, hV, rfl, hfz, hnd⟩ := hW
  have hA : DataW.TrodAll enc Try.prog W 0 (fun _ => true) true Try.f6.params.toList args.toList ds p := hA0
  rw [Try.params6] at hA hval hsz
  obtain ⟨v0, vs0, d0, ds0, p0, q0, hargs, rfl, rfl, h0, r0⟩ := trodAll_cons hA
  obtain ⟨v1, vs1, d1, ds1, p1, q1, rfl, rfl, rfl, h1, r1⟩ := trodAll_cons r0
  obtain ⟨rfl, rfl, rfl⟩ := trodAll_nil r1
  obtain rfl : args = #[v0, v1] := by cases args; simp_all
  obtain ⟨rfl, rfl⟩ := trodVars_none hV
  clear r0 r1
  have k0 := h0
  have lt0 : ∀ x ∈ p0, x.block < W.heap.size := by obtain ⟨m, hm⟩ := k0; exact DataW.trod_lt m _ _ _ hm
  have z0 : ∀ n ∈ d0.weights Try.prog 22, n ≤ reachBytes := fun n hn => by simpa using List.all_eq_true.1 hsz _ (DataW.weights_mem_each (j := 0) rfl rfl n hn)
  have f0 : W.noneFrozen p0 := fun b off hm => hfz b off (by simp [hm])
  have k1 := h1
  have lt1 : ∀ x ∈ p1, x.block < W.heap.size := by obtain ⟨m, hm⟩ := k1; exact DataW.trod_lt m _ _ _ hm
  obtain ⟨x0, r0, s0, w0⟩ := open_rowI (hval 0 22 v0 rfl rfl) h0 f0 z0
  obtain ⟨a1, rfl, rfl, rfl, w1⟩ := open_int Try.underlying3 (hval 1 3 v1 rfl rfl) h1
  clear hA0 hval0
  refine (walk v0 x0 a1 W r0 s0 w0 w1).mono fun e W' ⟨he, bel⟩ => ?_
  subst he
  exact ⟨_, rfl, _, _, _, [], _, [], hW', trodAll_mk1 (shut_bool Try.underlying4 _), (trodAll_cons_mk (Below.trod laidOut (by kernel_rfl) (of_decide_eq_true (by kernel_rfl)) k0 bel lt0) (trodAll_cons_mk (Below.trod laidOut (by kernel_rfl) (of_decide_eq_true (by kernel_rfl)) k1 bel lt1) trodAll_mk0)), rfl, bel.frame _, fun h => by cases h⟩

theorem over : Rows.passiveOtherRow.holds Try.pinned (OpenSpec.ofChange Rows.passiveOtherSpec) :=
  OpenClaim.holds_of_wide 6 Try.f6 rfl rfl rfl rfl rfl rfl rfl ⟨rfl, rfl, rfl, rfl, rfl⟩ rfl rfl rfl rfl rfl (by kernel_rfl) Try.func6 (by kernel_rfl)
    (of_decide_eq_true (by kernel_rfl)) (by unfold Func.isWrapper; first | (rw [if_pos (by decide +kernel)]; kernel_rfl) | (rw [if_neg (by decide +kernel)]; exact ⟨rfl, rfl⟩))
    (fun os started H enc _ => lifted os started H enc)

end Go.Proofs.Yteoncjfbfccdoaa.passiveOther

namespace Go.Proofs.Yteoncjfbfccdoaa
/-- The statement, by its short name. -/
theorem passiveOther_holds : Rows.PassiveOtherSaid := passiveOther.over
#print axioms passiveOther_holds
end Go.Proofs.Yteoncjfbfccdoaa
