
/-
  The statement PassiveForms: lists and numbers that may not be are refused with the form's error; a full list is refused a new one, and answers one that is there as it is.
-/
import Derived.Test.YteoncjfbfccdoaaRows
import Derived.Test.YteoncjfbfccdoaaOpen
import Derived.Test.YteoncjfbfccdoaaPassLaw
namespace Go.Proofs.Yteoncjfbfccdoaa.passiveForms
open Go.ChangeShapes Go.WideShapes Go.ChangeAt Go.RowKit
set_option linter.unusedVariables false

/-! ### The walk -/
theorem pa_bad {x : Int} (h : plB x = false) : paB [x] = false := by
  rw [Bool.eq_false_iff]
  intro hs
  have := plsB_mem (paB_iff.1 hs).2.1 x (List.mem_singleton.2 rfl)
  rw [h] at this
  cases this
theorem bads_all (w1 : World) (d : Int) (d0 : 0 ≤ d) : ∀ (r : Nat) (h : r < 4), ∃ (s : Value) (bad : List Int), ([.slice (some ⟨w1.heap.size, 0, none⟩) 2 2, .slice (some ⟨w1.heap.size + 1, 0, none⟩) 2 2, .slice (some ⟨w1.heap.size + 1 + 1, 0, none⟩) 1 1, .slice (some ⟨w1.heap.size + 1 + 1 + 1, 0, none⟩) 1 1] : List Value)[r]'(by simpa using h) = s ∧ paB bad = false ∧ RowI 0 ((((w1.alloc (.cells #[.int .i64 9, .int .i64 3] 3)).alloc (.cells #[.int .i64 3, .int .i64 3] 3)).alloc (.cells #[.int .i64 (-(1 + d))] 3)).alloc (.cells #[.int .i64 (255 + (1 + d))] 3)).heap.size ((((w1.alloc (.cells #[.int .i64 9, .int .i64 3] 3)).alloc (.cells #[.int .i64 3, .int .i64 3] 3)).alloc (.cells #[.int .i64 (-(1 + d))] 3)).alloc (.cells #[.int .i64 (255 + (1 + d))] 3)) s bad
  | 0, _ => ⟨_, [9, 3], rfl, by decide +kernel, (Box.rowI [9, 3] ((((Box.newAt (w := w1) (n := w1.heap.size) #[.int .i64 9, .int .i64 3] 3 (by simp)).alloc _).alloc _).alloc _) rfl rfl (by simp [maxLen])).wide (Nat.zero_le _) (by simp <;> omega)⟩
  | 1, _ => ⟨_, [3, 3], rfl, by decide +kernel, (Box.rowI [3, 3] (((Box.newAt (w := (w1.alloc (.cells #[.int .i64 9, .int .i64 3] 3))) (n := w1.heap.size + 1) #[.int .i64 3, .int .i64 3] 3 (by simp)).alloc _).alloc _) rfl rfl (by simp [maxLen])).wide (Nat.zero_le _) (by simp <;> omega)⟩
  | 2, _ => ⟨_, [-(1 + d)], rfl, pa_bad (by simp [plB]; omega), (Box.rowI [-(1 + d)] ((Box.newAt (w := ((w1.alloc (.cells #[.int .i64 9, .int .i64 3] 3)).alloc (.cells #[.int .i64 3, .int .i64 3] 3))) (n := w1.heap.size + 1 + 1) #[.int .i64 (-(1 + d))] 3 (by simp)).alloc _) rfl rfl (by simp [maxLen])).wide (Nat.zero_le _) (by simp <;> omega)⟩
  | 3, _ => ⟨_, [255 + (1 + d)], rfl, pa_bad (by simp [plB]; omega), (Box.rowI [255 + (1 + d)] (Box.newAt (w := (((w1.alloc (.cells #[.int .i64 9, .int .i64 3] 3)).alloc (.cells #[.int .i64 3, .int .i64 3] 3)).alloc (.cells #[.int .i64 (-(1 + d))] 3))) (n := w1.heap.size + 1 + 1 + 1) #[.int .i64 (255 + (1 + d))] 3 (by simp)) rfl rfl (by simp [maxLen])).wide (Nat.zero_le _) (by simp <;> omega)⟩

def fullI (m : Nat) : List Int := (List.range m).map fun (i : Nat) => 2 * (i : Int)
theorem fullI_next (m : Nat) : fullI (m + 1) = fullI m ++ [2 * (m : Int)] := by simp [fullI, List.range_succ]
theorem fullI_len (m : Nat) : (fullI m).length = m := by simp [fullI]
theorem full_no : ∀ q : Nat, q < 16 → wiL (fullI 16) (1 + 2 * (q : Int)) = [] ∧ wiE (fullI 16) (1 + 2 * (q : Int)) = 801 := by decide +kernel
theorem full_yes : ∀ q : Nat, q < 16 → wiL (fullI 16) (2 * (q : Int)) = fullI 16 ∧ wiE (fullI 16) (2 * (q : Int)) = 0 := by decide +kernel

set_option maxRecDepth 20000 in
set_option maxHeartbeats 8000000 in
theorem walk (a0 : Int) (a1 : Int) (w : World) (w0 : (Lit.int .i64 a0).wf = true) (w1 : (Lit.int .i64 a1).wf = true) :
    Calls Try.prog 4 #[.int .i64 a0, .int .i64 a1] w fun e w' => e = .returned (.bool true) ∧ Below w.heap.size w w' := by
  have ed : bits .and .i64 a1 1023 = a1 % 1024 := and1023 a1
  have e1 : bits .and .i64 a0 1 = a0 % 2 := and1 a0
  have e4 : bits .and .i64 a0 3 = a0 % 4 := and3 a0
  have e15 : bits .and .i64 a1 15 = a1 % 16 := and15 a1
  obtain ⟨d, hd⟩ : ∃ x, x = a1 % 1024 := ⟨_, rfl⟩
  have d0 : 0 ≤ d := by omega
  have d1 : d < 1024 := by omega
  rw [← hd] at ed
  obtain ⟨r2, hr1⟩ : ∃ r : Nat, (r : Int) = a0 % 2 := ⟨(a0 % 2).toNat, by omega⟩
  have hr2 : r2 < 2 := by omega
  rw [← hr1] at e1
  obtain ⟨r4, hr3⟩ : ∃ r : Nat, (r : Int) = a0 % 4 := ⟨(a0 % 4).toNat, by omega⟩
  have hr4 : r4 < 4 := by omega
  rw [← hr3] at e4
  obtain ⟨q, hq⟩ : ∃ q : Nat, (q : Int) = a1 % 16 := ⟨(a1 % 16).toNat, by omega⟩
  have hq16 : q < 16 := by omega
  rw [← hq] at e15
  have F1 := toHid (full_no q hq16)
  have F2 := toHid (full_yes q hq16)
  clear hd hr1 hr3 hq w0 w1
  have k4 : (r4 : Int) < 4 := by omega
  have k2 : (r2 : Int) < 2 := by omega
  obtain ⟨y, hy, hyb⟩ : ∃ y : Int, ([.int .i64 (-(1 + d)), .int .i64 (255 + (1 + d))] : List Value)[r2]'(by simpa using hr2) = .int .i64 y ∧ Hid (plB y = false) := by
    match r2, hr2 with
    | 0, _ => exact ⟨_, rfl, toHid (by simp [plB]; omega)⟩
    | 1, _ => exact ⟨_, rfl, toHid (by simp [plB]; omega)⟩
  have hyf := toHid (wi_form (xs := []) (d := y) (.inr hyb.out))
  have hzf := toHid (wo_form (xs := []) (d := y) (.inr hyb.out))
  clear hyb
  have t1 := trivial
  have t2 := trivial
  go_enter Try.func4, Try.ntmps4
  go_wp2_with (first
    | (go_at_call 18; refine (awake8_any _).mono ?_; rintro e w1 ⟨rfl, h1⟩
       obtain ⟨s, bad, hs, hbad, hR⟩ := bads_all w1 d d0 r4 hr4
       replace hbad := toHid hbad
       replace hR := toHid hR)
    | (go_at_call 8; clear t1; refine (qWith_at (hR.out.alloc _) (by simp) _ (wi_form (.inl hbad.out)).1 (wi_form (.inl hbad.out)).2).mono ?_; rintro e w2 ⟨o2, rfl, P2, h2⟩
       have hB2 : Below w.heap.size w w2 := (((((h1.onA _).onA _).onA _).onA _).onA _).on h2
       have R2 : RowI 0 w2.heap.size w2 s bad := ((hR.out.alloc _).below h2 (by simp)).wide (Nat.le_refl _) (Nat.le_trans (by simp) h2.size)
       clear hR P2 h2 hs h1)
    | (go_at_call 10; clear t2; refine (qWithout_at R2 _ (wo_form (.inl hbad.out)).1 (wo_form (.inl hbad.out)).2).mono ?_; rintro e w3 ⟨o3, rfl, P3, h3⟩
       have R3 : RowI 0 w3.heap.size w3 s bad := (R2.below h3 (Nat.le_refl _)).wide (Nat.le_refl _) h3.size
       have hB3 := hB2.on h3
       clear R2 P3 h3 hB2)
    | (go_at_call 8; refine (qWith_at (xs := []) (lo := 0) (hi := 0) RowI.nil0 (Nat.zero_le _) _ hyf.out.1 hyf.out.2).mono ?_; rintro e w4 ⟨o4, rfl, P4, h4⟩
       have k4 := ((Below.refl _ w3).onA _).on h4
       clear P4 h4)
    | (go_at_call 10; refine (qWithout_at (xs := []) (lo := 0) (hi := 0) RowI.nil0 _ hzf.out.1 hzf.out.2).mono ?_; rintro e w5 ⟨o5, rfl, P5, h5⟩
       have k5 := k4.on h5
       have R5 : Hid (RowI 0 w5.heap.size w5 s bad) := toHid ((R3.below k5 (Nat.le_refl _)).wide (Nat.le_refl _) k5.size)
       have hB5 := hB3.on k5
       clear P5 h5 k4 k5 R3 hB3))
  clear hyf hzf hy e1 e4 ed k2
  go_loopw [16, 17] (fun o i wr => ∃ m : Nat, m ≤ 16 ∧ i = .int .i64 m ∧ wr.ownsRow w5.heap.size 3 1 o m ((fullI m).map (Value.int .i64)) ∧ Below w5.heap.size w5 wr) (fun _ i _ => 16 - (intOf i).toNat)
  case atStart => exact ⟨0, Nat.zero_le _, rfl, ⟨rfl, .inl ⟨rfl, rfl⟩⟩, Below.refl _ _⟩
  case round =>
    obtain ⟨m, hm, rfl, own, hbr⟩ := hrel
    by_cases hlt : m < 16
    · have hlt' : (m : Int) < 16 := by omega
      have OA := toHid own
      clear F1 F2 hbad R5 own
      go_wp2_with (at_builtin; refine app_ints rfl (.tmp 73) (.tmp 76) rfl w5.heap.size _ m (fullI m) rfl (OA.out.alloc _) ⟨wr.heap.size, 0, none⟩ 1 1 [2 * (m : Int)] rfl rfl (fun j hj => ?_) (by omega) (by have := hbr.size; simp; omega) ?_; · (match j, hj with | 0, _ => simp [Addr.add]))
      intro v6 w6 hown6 hgr6 hbel6
      go_wp2
      go_roundw
      case rel => exact ⟨m + 1, by omega, by go_num, by rw [fullI_next]; simpa using hown6, (hbr.onA _).trans hbel6⟩
      case measure => simp [intOf]; omega
    · have hme : m = 16 := by omega
      subst hme
      have rF : RowI w5.heap.size wr.heap.size wr _ (fullI 16) := RowI.of_owns own
      obtain ⟨pF, cF, eF, -, -⟩ := rF.ints (Nat.le_refl _)
      rw [fullI_len] at eF
      subst eF
      have RB : Hid (RowI 0 w5.heap.size wr s bad) := toHid (R5.out.below hbr (Nat.le_refl _))
      have hz5 := hbr.size
      replace rF := toHid rF
      have j1 := trivial
      have j2 := trivial
      clear own R5
      go_wp2_with (first
        | (go_at_call 8; clear j1; refine (qWith_at rF.out (Nat.le_refl _) _ F1.out.1 F1.out.2).mono ?_; rintro e wa ⟨oa, rfl, Pa, ha⟩
           clear Pa)
        | (go_at_call 8; refine (qWith_at (rF.out.below ha (Nat.le_refl _)) ha.size _ F2.out.1 F2.out.2).mono ?_; rintro e wb ⟨ob, rfl, Pb, hb⟩
           have kb := ha.on hb
           replace Pb := toHid Pb)
        | (go_at_call 14; clear j2; refine (qMay_is (RB.out.below kb hz5) hbad.out).mono ?_; rintro e wc ⟨rfl, hc⟩
           have kc := kb.on hc)
        | (go_at_call 14; refine (qMay_is (rF.out.below kc (Nat.le_refl _)) (r := true) (by decide +kernel)).mono ?_; rintro e wd ⟨rfl, hd⟩
           have kd := kc.on hd)
        | (go_at_call 12; refine (sameI_at (Pb.out.below (hc.on hd) (Nat.le_refl _)) (rF.out.below kd (Nat.le_refl _)) (b := true) (by simp)).mono ?_; rintro e we ⟨rfl, he⟩)
        | (go_at_call 13; refine (num_any _ _).mono ?_; rintro e w' ⟨rfl, hw'⟩; subst w'))
      go_ret
      exact ⟨rfl, ((hB5.on hbr).on kd).on he⟩

/-! ### The row's step -/
set_option maxRecDepth 100000 in
theorem lifted (os : Os) (started : os.Started) (H : Type) (enc : TypeId × Value → H) :
    ReturnsInHanded {} Try.checked os 4 .any (Rows.passiveFormsSpec.pre6 enc Try.prog Try.f4 Rows.passiveFormsRow.domain false) (Rows.passiveFormsSpec.post enc Try.prog Try.f4 false true false false) := by
  refine returnsInHanded_of_change_sized (C := Try.checked) ownK started (by kernel_rfl) Try.func4
    (ChangeSpec.witness6 (enc := enc) (C := Try.checked) false ⟨#[], #[.int .i64 0, .int .i64 0], []⟩ 8 (by kernel_rfl) (by kernel_rfl) (by kernel_rfl) (by kernel_rfl)) ?_
  intro W base args ds gs before hval0 hW hcnd hsz0 _
  have hsz : (DataW.weightsEach Try.prog (Try.f4.params.toList ++ Rows.passiveFormsSpec.plain.varTypes Try.prog) (ds ++ gs)).all (· ≤ reachBytes) = true := hsz0
  have hval : ∀ (j : Nat) t v, Try.f4.params[j]? = some t → args[j]? = some v → Value.okWide Try.prog W .any base t v := hval0
  have hW' := hW
  obtain ⟨p, q, hA0, hV, rfl, hfz, hnd⟩ := hW
  have hA : DataW.TrodAll enc Try.prog W 0 (fun _ => true) true Try.f4.params.toList args.toList ds p := hA0
  rw [Try.params4] at hA hval hsz
  obtain ⟨v0, vs0, d0, ds0, p0, q0, hargs, rfl, rfl, h0, r0⟩ := trodAll_cons hA
  obtain ⟨v1, vs1, d1, ds1, p1, q1, rfl, rfl, rfl, h1, r1⟩ := trodAll_cons r0
  obtain ⟨rfl, rfl, rfl⟩ := trodAll_nil r1
  obtain rfl : args = #[v0, v1] := by cases args; simp_all
  obtain ⟨rfl, rfl⟩ := trodVars_none hV
  clear r0 r1
  have k0 := h0
  have lt0 : ∀ x ∈ p0, x.block < W.heap.size := by obtain ⟨m, hm⟩ := k0; exact DataW.trod_lt m _ _ _ hm
  have k1 := h1
  have lt1 : ∀ x ∈ p1, x.block < W.heap.size := by obtain ⟨m, hm⟩ := k1; exact DataW.trod_lt m _ _ _ hm
  obtain ⟨a0, rfl, rfl, rfl, w0⟩ := open_int Try.underlying3 (hval 0 3 v0 rfl rfl) h0
  obtain ⟨a1, rfl, rfl, rfl, w1⟩ := open_int Try.underlying3 (hval 1 3 v1 rfl rfl) h1
  clear hA0 hval0
  refine (walk a0 a1 W w0 w1).mono fun e W' ⟨he, bel⟩ => ?_
  subst he
  exact ⟨_, rfl, _, _, _, [], _, [], hW', trodAll_mk1 (shut_bool Try.underlying4 _), (trodAll_cons_mk (Below.trod laidOut (by kernel_rfl) (of_decide_eq_true (by kernel_rfl)) k0 bel lt0) (trodAll_cons_mk (Below.trod laidOut (by kernel_rfl) (of_decide_eq_true (by kernel_rfl)) k1 bel lt1) trodAll_mk0)), rfl, bel.frame _, fun h => by cases h⟩

theorem over : Rows.passiveFormsRow.holds Try.pinned (OpenSpec.ofChange Rows.passiveFormsSpec) :=
  OpenClaim.holds_of_wide 4 Try.f4 rfl rfl rfl rfl rfl rfl rfl ⟨rfl, rfl, rfl, rfl, rfl⟩ rfl rfl rfl rfl rfl (by kernel_rfl) Try.func4 (by kernel_rfl)
    (of_decide_eq_true (by kernel_rfl)) (by unfold Func.isWrapper; first | (rw [if_pos (by decide +kernel)]; kernel_rfl) | (rw [if_neg (by decide +kernel)]; exact ⟨rfl, rfl⟩))
    (fun os started H enc _ => lifted os started H enc)

end Go.Proofs.Yteoncjfbfccdoaa.passiveForms

namespace Go.Proofs.Yteoncjfbfccdoaa
/-- The statement, by its short name. -/
theorem passiveForms_holds : Rows.PassiveFormsSaid := passiveForms.over
#print axioms passiveForms_holds
end Go.Proofs.Yteoncjfbfccdoaa
