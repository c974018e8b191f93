/-
  VersionForms: at every two numbers, a version whose count or writer is outside its bounds may not be, and Newer answers with the form's error on either side; no condition.
-/
import Derived.Test.YtpdcofkohhfncaaRows
import Derived.Test.YtpdcofkohhfncaaOpen
import Derived.Test.YtpdcofkohhfncaaVer
namespace Go.Proofs.Ytpdcofkohhfncaa.versionForms
open Go.ChangeShapes Go.WideShapes Go.ChangeAt Go.RowKit
set_option linter.unusedVariables false

/-! ### The walk -/
set_option maxHeartbeats 1000000 in
theorem walk (a0 : Int) (a1 : Int) (w : World) (w0 : (Lit.int .i64 a0).wf = true) (w1 : (Lit.int .i64 a1).wf = true) :
    Calls Try.prog 4 #[.int .i64 a0, .int .i64 a1] w fun e w' => e = .returned (.bool true) ∧ Below w.heap.size w w' := by
  have e3 : bits .and .i64 a0 3 = a0 % 4 := and3 a0
  have ex : bits .and .i64 a1 1023 = a1 % 1024 := and1023 a1
  obtain ⟨k, hk⟩ : ∃ k, k = a0 % 4 := ⟨_, rfl⟩
  obtain ⟨x, hx⟩ : ∃ x, x = a1 % 1024 := ⟨_, rfl⟩
  have k0 : k = 0 ∨ k = 1 ∨ k = 2 ∨ k = 3 := by omega
  have x0 : 0 ≤ x := by omega
  have x1 : x < 1024 := by omega
  rw [← hk] at e3
  rw [← hx] at ex
  clear hk hx w0 w1
  have g : verB 2 5 = true := by decide +kernel
  have t1 := trivial
  have t2 := trivial
  rcases k0 with rfl | rfl | rfl | rfl
  · go_enter Try.func4, Try.ntmps4
    go_wp2_with (first
      | (go_at_call 12; refine (awake3_any _).mono ?_; rintro e w9 ⟨rfl, bb9⟩)
      | (go_at_call 7; clear t1; refine (newer_bad _ _ _ _ _ (Or.inr (by simp [verB, cntB, plB]; omega))).mono ?_; rintro e w1 ⟨rfl, hb1⟩; obtain ⟨hc1, hf1⟩ := bcell hb1)
      | (go_at_call 7; refine (newer_bad _ _ _ _ _ (Or.inl (by simp [verB, cntB, plB]; omega))).mono ?_; rintro e w2 ⟨rfl, hb2⟩; replace hb2 := hb1.on hb2; clear hb1 hc1 hf1; obtain ⟨hc2, hf2⟩ := bcell hb2)
      | (go_at_call 10; clear t2; refine (may_good _ _ _ g).mono ?_; rintro e w3 ⟨rfl, hb3⟩; replace hb3 := hb2.on hb3; clear hb2 hc2 hf2; obtain ⟨hc3, hf3⟩ := bcell hb3)
      | (go_at_call 10; refine (may_bad _ _ _ (by simp [verB, cntB, plB]; omega)).mono ?_; rintro e w4 ⟨rfl, hb4⟩)
      | (go_at_call 9; refine (num_any _ _).mono ?_; rintro e w' ⟨rfl, hw'⟩; subst w'))
    go_ret
    exact ⟨rfl, ((((bb9.onA _).onA _).onA _).on hb3).on hb4⟩
  · go_enter Try.func4, Try.ntmps4
    go_wp2_with (first
      | (go_at_call 12; refine (awake3_any _).mono ?_; rintro e w9 ⟨rfl, bb9⟩)
      | (go_at_call 7; clear t1; refine (newer_bad _ _ _ _ _ (Or.inr (by simp [verB, cntB, plB]; omega))).mono ?_; rintro e w1 ⟨rfl, hb1⟩; obtain ⟨hc1, hf1⟩ := bcell hb1)
      | (go_at_call 7; refine (newer_bad _ _ _ _ _ (Or.inl (by simp [verB, cntB, plB]; omega))).mono ?_; rintro e w2 ⟨rfl, hb2⟩; replace hb2 := hb1.on hb2; clear hb1 hc1 hf1; obtain ⟨hc2, hf2⟩ := bcell hb2)
      | (go_at_call 10; clear t2; refine (may_good _ _ _ g).mono ?_; rintro e w3 ⟨rfl, hb3⟩; replace hb3 := hb2.on hb3; clear hb2 hc2 hf2; obtain ⟨hc3, hf3⟩ := bcell hb3)
      | (go_at_call 10; refine (may_bad _ _ _ (by simp [verB, cntB, plB]; omega)).mono ?_; rintro e w4 ⟨rfl, hb4⟩)
      | (go_at_call 9; refine (num_any _ _).mono ?_; rintro e w' ⟨rfl, hw'⟩; subst w'))
    go_ret
    exact ⟨rfl, ((((bb9.onA _).onA _).onA _).on hb3).on hb4⟩
  · go_enter Try.func4, Try.ntmps4
    go_wp2_with (first
      | (go_at_call 12; refine (awake3_any _).mono ?_; rintro e w9 ⟨rfl, bb9⟩)
      | (go_at_call 7; clear t1; refine (newer_bad _ _ _ _ _ (Or.inr (by simp [verB, cntB, plB]; omega))).mono ?_; rintro e w1 ⟨rfl, hb1⟩; obtain ⟨hc1, hf1⟩ := bcell hb1)
      | (go_at_call 7; refine (newer_bad _ _ _ _ _ (Or.inl (by simp [verB, cntB, plB]; omega))).mono ?_; rintro e w2 ⟨rfl, hb2⟩; replace hb2 := hb1.on hb2; clear hb1 hc1 hf1; obtain ⟨hc2, hf2⟩ := bcell hb2)
      | (go_at_call 10; clear t2; refine (may_good _ _ _ g).mono ?_; rintro e w3 ⟨rfl, hb3⟩; replace hb3 := hb2.on hb3; clear hb2 hc2 hf2; obtain ⟨hc3, hf3⟩ := bcell hb3)
      | (go_at_call 10; refine (may_bad _ _ _ (by simp [verB, cntB, plB]; omega)).mono ?_; rintro e w4 ⟨rfl, hb4⟩)
      | (go_at_call 9; refine (num_any _ _).mono ?_; rintro e w' ⟨rfl, hw'⟩; subst w'))
    go_ret
    exact ⟨rfl, ((((bb9.onA _).onA _).onA _).on hb3).on hb4⟩
  · go_enter Try.func4, Try.ntmps4
    go_wp2_with (first
      | (go_at_call 12; refine (awake3_any _).mono ?_; rintro e w9 ⟨rfl, bb9⟩)
      | (go_at_call 7; clear t1; refine (newer_bad _ _ _ _ _ (Or.inr (by simp [verB, cntB, plB]; omega))).mono ?_; rintro e w1 ⟨rfl, hb1⟩; obtain ⟨hc1, hf1⟩ := bcell hb1)
      | (go_at_call 7; refine (newer_bad _ _ _ _ _ (Or.inl (by simp [verB, cntB, plB]; omega))).mono ?_; rintro e w2 ⟨rfl, hb2⟩; replace hb2 := hb1.on hb2; clear hb1 hc1 hf1; obtain ⟨hc2, hf2⟩ := bcell hb2)
      | (go_at_call 10; clear t2; refine (may_good _ _ _ g).mono ?_; rintro e w3 ⟨rfl, hb3⟩; replace hb3 := hb2.on hb3; clear hb2 hc2 hf2; obtain ⟨hc3, hf3⟩ := bcell hb3)
      | (go_at_call 10; refine (may_bad _ _ _ (by simp [verB, cntB, plB]; omega)).mono ?_; rintro e w4 ⟨rfl, hb4⟩)
      | (go_at_call 9; refine (num_any _ _).mono ?_; rintro e w' ⟨rfl, hw'⟩; subst w'))
    go_ret
    exact ⟨rfl, ((((bb9.onA _).onA _).onA _).on hb3).on hb4⟩

/-! ### The row's step -/
set_option maxRecDepth 100000 in
theorem lifted (os : Os) (started : os.Started) (H : Type) (enc : TypeId × Value → H) :
    ReturnsInHanded {} Try.checked os 4 .any (Rows.versionFormsSpec.pre6 enc Try.prog Try.f4 Rows.versionFormsRow.domain false) (Rows.versionFormsSpec.post enc Try.prog Try.f4 false true false false) := by
  refine returnsInHanded_of_change_sized (C := Try.checked) ownK started (by kernel_rfl) Try.func4
    (ChangeSpec.witness6 (enc := enc) (C := Try.checked) false ⟨#[], #[.int .i64 0, .int .i64 0], []⟩ 8 (by kernel_rfl) (by kernel_rfl) (by kernel_rfl) (by kernel_rfl)) ?_
  intro W base args ds gs before hval0 hW hcnd hsz0 _
  have hsz : (DataW.weightsEach Try.prog (Try.f4.params.toList ++ Rows.versionFormsSpec.plain.varTypes Try.prog) (ds ++ gs)).all (· ≤ reachBytes) = true := hsz0
  have hval : ∀ (j : Nat) t v, Try.f4.params[j]? = some t → args[j]? = some v → Value.okWide Try.prog W .any base t v := hval0
  have hW' := hW
  obtain ⟨p, q, hA0, hV, rfl, hfz, hnd⟩ := hW
  have hA : DataW.TrodAll enc Try.prog W 0 (fun _ => true) true Try.f4.params.toList args.toList ds p := hA0
  rw [Try.params4] at hA hval hsz
  obtain ⟨v0, vs0, d0, ds0, p0, q0, hargs, rfl, rfl, h0, r0⟩ := trodAll_cons hA
  obtain ⟨v1, vs1, d1, ds1, p1, q1, rfl, rfl, rfl, h1, r1⟩ := trodAll_cons r0
  obtain ⟨rfl, rfl, rfl⟩ := trodAll_nil r1
  obtain rfl : args = #[v0, v1] := by cases args; simp_all
  obtain ⟨rfl, rfl⟩ := trodVars_none hV
  clear r0 r1
  have k0 := h0
  have lt0 : ∀ x ∈ p0, x.block < W.heap.size := by obtain ⟨m, hm⟩ := k0; exact DataW.trod_lt m _ _ _ hm
  have k1 := h1
  have lt1 : ∀ x ∈ p1, x.block < W.heap.size := by obtain ⟨m, hm⟩ := k1; exact DataW.trod_lt m _ _ _ hm
  obtain ⟨a0, rfl, rfl, rfl, w0⟩ := open_int Try.underlying3 (hval 0 3 v0 rfl rfl) h0
  obtain ⟨a1, rfl, rfl, rfl, w1⟩ := open_int Try.underlying3 (hval 1 3 v1 rfl rfl) h1
  clear hA0 hval0
  refine (walk a0 a1 W w0 w1).mono fun e W' ⟨he, bel⟩ => ?_
  subst he
  exact ⟨_, rfl, _, _, _, [], _, [], hW', trodAll_mk1 (shut_bool Try.underlying4 _), (trodAll_cons_mk (Below.trod laidOut (by kernel_rfl) (of_decide_eq_true (by kernel_rfl)) k0 bel lt0) (trodAll_cons_mk (Below.trod laidOut (by kernel_rfl) (of_decide_eq_true (by kernel_rfl)) k1 bel lt1) trodAll_mk0)), rfl, bel.frame _, fun h => by cases h⟩

theorem over : Rows.versionFormsRow.holds Try.pinned (OpenSpec.ofChange Rows.versionFormsSpec) :=
  OpenClaim.holds_of_wide 4 Try.f4 rfl rfl rfl rfl rfl rfl rfl ⟨rfl, rfl, rfl, rfl, rfl⟩ rfl rfl rfl rfl rfl (by kernel_rfl) Try.func4 (by kernel_rfl)
    (of_decide_eq_true (by kernel_rfl)) (by unfold Func.isWrapper; first | (rw [if_pos (by decide +kernel)]; kernel_rfl) | (rw [if_neg (by decide +kernel)]; exact ⟨rfl, rfl⟩))
    (fun os started H enc _ => lifted os started H enc)

end Go.Proofs.Ytpdcofkohhfncaa.versionForms

namespace Go.Proofs.Ytpdcofkohhfncaa
/-- The statement, by its short name. -/
theorem versionForms_holds : Rows.VersionFormsSaid := versionForms.over
#print axioms versionForms_holds
end Go.Proofs.Ytpdcofkohhfncaa
