/-
  The statement ItemForms: items that may not be, one thing at a time, and unlike keys: Best answers the error, May says no.
-/
import Derived.Test.YtogehhdlhdolkaaRows
import Derived.Test.YtogehhdlhdolkaaOpen
import Derived.Test.YtogehhdlhdolkaaItemLaw
import Derived.Test.YtogehhdlhdolkaaBox
namespace Go.Proofs.Ytogehhdlhdolkaa.itemForms
open Go.ChangeShapes Go.WideShapes Go.ChangeAt Go.RowKit
set_option linter.unusedVariables false

/-! ### The walk -/
set_option maxHeartbeats 4000000 in
theorem walk (a0 : Int) (a1 : Int) (w : World) (w0 : (Lit.int .i64 a0).wf = true) (w1 : (Lit.int .i64 a1).wf = true) :
    Calls Try.prog 5 #[.int .i64 a0, .int .i64 a1] w fun e w' => e = .returned (.bool true) ∧ Below w.heap.size w w' := by
  have e7 : bits .and .i64 a0 7 = a0 % 8 := and7 a0
  have ex : bits .and .i64 a1 1023 = a1 % 1024 := and1023 a1
  obtain ⟨z, ez, z0, z1⟩ : ∃ z, bits .and .i64 a1 254 = z ∧ 0 ≤ z ∧ z ≤ 254 := ⟨_, rfl, and254 a1⟩
  obtain ⟨k, hk⟩ : ∃ k, k = a0 % 8 := ⟨_, rfl⟩
  obtain ⟨x, hx⟩ : ∃ x, x = a1 % 1024 := ⟨_, rfl⟩
  have k0 : k = 0 ∨ k = 1 ∨ k = 2 ∨ k = 3 ∨ k = 4 ∨ k = 5 ∨ k = 6 ∨ k = 7 := by omega
  have x0 : 0 ≤ x := by omega
  have x1 : x < 1024 := by omega
  rw [← hk] at e7
  rw [← hx] at ex
  clear hk hx w0 w1
  have t1 := trivial
  have t2 := trivial
  have t3 := trivial
  have t4 := trivial
  rcases k0 with rfl | rfl | rfl | rfl | rfl | rfl | rfl | rfl
  all_goals
    go_enter Try.func5, Try.ntmps5
    go_wp2_with (first
      | (go_at_call 14; refine (awake4_any _).mono ?_; rintro e w9 ⟨rfl, bb9⟩)
      | (go_at_call 9; clear t1; refine (iBest_no _ _ _ _ _ _ _ _ _ _ _ (okB_r (by first | (simp [itB, byB, verB, cntB, plB]; done) | (simp [itB, byB, verB, cntB, plB]; omega)))).mono ?_; rintro e w1 ⟨rfl, hb1⟩
         have bV1 := ((((Box.new w9 _ _).alloc _).alloc _).alloc _).below hb1
         have bG1 := (((Box.new1 w9 _ _ _).alloc _).alloc _).below hb1
         have bB1 := (Box.new3 w9 _ _ _ _ _).below hb1
         obtain ⟨v1, v2, v3⟩ := id bV1
         obtain ⟨g1, g2, g3⟩ := id bG1
         obtain ⟨b1, b2, b3⟩ := id bB1)
      | (go_at_call 9; clear t2; refine (iBest_no _ _ _ _ _ _ _ _ _ _ _ (okB_l (by first | (simp [itB, byB, verB, cntB, plB]; done) | (simp [itB, byB, verB, cntB, plB]; omega)))).mono ?_; rintro e w2 ⟨rfl, hb2⟩
         have bV2 := (bV1.alloc _).below hb2
         have bG2 := (bG1.alloc _).below hb2
         have bB2 := (bB1.alloc _).below hb2
         clear v1 v2 v3 g1 g2 g3 b1 b2 b3
         obtain ⟨v1, v2, v3⟩ := id bV2
         obtain ⟨g1, g2, g3⟩ := id bG2
         obtain ⟨b1, b2, b3⟩ := id bB2)
      | (go_at_call 9; clear t3; refine (iBest_no _ _ _ _ _ _ _ _ _ _ _ (by decide +kernel)).mono ?_; rintro e w3 ⟨rfl, hb3⟩
         have bG3 := (bG2.alloc _).below hb3
         have bB3 := (bB2.alloc _).below hb3
         clear v1 v2 v3 g1 g2 g3 b1 b2 b3
         obtain ⟨g1, g2, g3⟩ := id bG3
         obtain ⟨b1, b2, b3⟩ := id bB3)
      | (go_at_call 12; clear t4; refine (iMay_yes _ _ _ _ _ _ (by decide +kernel)).mono ?_; rintro e w4 ⟨rfl, hb4⟩
         have bB4 := (bB3.alloc _).below hb4
         clear g1 g2 g3 b1 b2 b3
         obtain ⟨b1, b2, b3⟩ := id bB4)
      | (go_at_call 12; refine (iMay_no _ _ _ _ _ _ (by first | (simp [itB, byB, verB, cntB, plB]; done) | (simp [itB, byB, verB, cntB, plB]; omega))).mono ?_; rintro e w5 ⟨rfl, hb5⟩)
      | (go_at_call 11; refine (num_any _ _).mono ?_; rintro e w' ⟨rfl, hw'⟩; subst w'))
    go_ret
    exact ⟨rfl, (((((((((((bb9.onA _).onA _).onA _).onA _).on hb1).onA _).on hb2).onA _).on hb3).onA _).on hb4).on hb5⟩

/-! ### The row's step -/
set_option maxRecDepth 100000 in
theorem lifted (os : Os) (started : os.Started) (H : Type) (enc : TypeId × Value → H) :
    ReturnsInHanded {} Try.checked os 5 .any (Rows.itemFormsSpec.pre6 enc Try.prog Try.f5 Rows.itemFormsRow.domain false) (Rows.itemFormsSpec.post enc Try.prog Try.f5 false true false false) := by
  refine returnsInHanded_of_change_sized (C := Try.checked) ownK started (by kernel_rfl) Try.func5
    (ChangeSpec.witness6 (enc := enc) (C := Try.checked) false ⟨#[], #[.int .i64 0, .int .i64 0], []⟩ 8 (by kernel_rfl) (by kernel_rfl) (by kernel_rfl) (by kernel_rfl)) ?_
  intro W base args ds gs before hval0 hW hcnd hsz0 _
  have hsz : (DataW.weightsEach Try.prog (Try.f5.params.toList ++ Rows.itemFormsSpec.plain.varTypes Try.prog) (ds ++ gs)).all (· ≤ reachBytes) = true := hsz0
  have hval : ∀ (j : Nat) t v, Try.f5.params[j]? = some t → args[j]? = some v → Value.okWide Try.prog W .any base t v := hval0
  have hW' := hW
  obtain ⟨p, q, hA0, hV, rfl, hfz, hnd⟩ := hW
  have hA : DataW.TrodAll enc Try.prog W 0 (fun _ => true) true Try.f5.params.toList args.toList ds p := hA0
  rw [Try.params5] at hA hval hsz
  obtain ⟨v0, vs0, d0, ds0, p0, q0, hargs, rfl, rfl, h0, r0⟩ := trodAll_cons hA
  obtain ⟨v1, vs1, d1, ds1, p1, q1, rfl, rfl, rfl, h1, r1⟩ := trodAll_cons r0
  obtain ⟨rfl, rfl, rfl⟩ := trodAll_nil r1
  obtain rfl : args = #[v0, v1] := by cases args; simp_all
  obtain ⟨rfl, rfl⟩ := trodVars_none hV
  clear r0 r1
  have k0 := h0
  have lt0 : ∀ x ∈ p0, x.block < W.heap.size := by obtain ⟨m, hm⟩ := k0; exact DataW.trod_lt m _ _ _ hm
  have k1 := h1
  have lt1 : ∀ x ∈ p1, x.block < W.heap.size := by obtain ⟨m, hm⟩ := k1; exact DataW.trod_lt m _ _ _ hm
  obtain ⟨a0, rfl, rfl, rfl, w0⟩ := open_int Try.underlying3 (hval 0 3 v0 rfl rfl) h0
  obtain ⟨a1, rfl, rfl, rfl, w1⟩ := open_int Try.underlying3 (hval 1 3 v1 rfl rfl) h1
  clear hA0 hval0
  refine (walk a0 a1 W w0 w1).mono fun e W' ⟨he, bel⟩ => ?_
  subst he
  exact ⟨_, rfl, _, _, _, [], _, [], hW', trodAll_mk1 (shut_bool Try.underlying4 _), (trodAll_cons_mk (Below.trod laidOut (by kernel_rfl) (of_decide_eq_true (by kernel_rfl)) k0 bel lt0) (trodAll_cons_mk (Below.trod laidOut (by kernel_rfl) (of_decide_eq_true (by kernel_rfl)) k1 bel lt1) trodAll_mk0)), rfl, bel.frame _, fun h => by cases h⟩

theorem over : Rows.itemFormsRow.holds Try.pinned (OpenSpec.ofChange Rows.itemFormsSpec) :=
  OpenClaim.holds_of_wide 5 Try.f5 rfl rfl rfl rfl rfl rfl rfl ⟨rfl, rfl, rfl, rfl, rfl⟩ rfl rfl rfl rfl rfl (by kernel_rfl) Try.func5 (by kernel_rfl)
    (of_decide_eq_true (by kernel_rfl)) (by unfold Func.isWrapper; first | (rw [if_pos (by decide +kernel)]; kernel_rfl) | (rw [if_neg (by decide +kernel)]; exact ⟨rfl, rfl⟩))
    (fun os started H enc _ => lifted os started H enc)

end Go.Proofs.Ytogehhdlhdolkaa.itemForms

namespace Go.Proofs.Ytogehhdlhdolkaa
/-- The statement, by its short name. -/
theorem itemForms_holds : Rows.ItemFormsSaid := itemForms.over
#print axioms itemForms_holds
end Go.Proofs.Ytogehhdlhdolkaa
