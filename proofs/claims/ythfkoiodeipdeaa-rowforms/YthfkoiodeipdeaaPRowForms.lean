/-
  Proved: 'gimmallaw2.RowForms' returns true at every two ints, and leaves memory as it was; no condition.
-/
import Derived.Test.YthfkoiodeipdeaaRows
import Derived.Test.YthfkoiodeipdeaaOpen
import Derived.Test.YthfkoiodeipdeaaRowLaw
import Derived.Test.YthfkoiodeipdeaaRowRef
namespace Go.Proofs.Ythfkoiodeipdeaa.rowForms
open Go.ChangeShapes Go.WideShapes Go.ChangeAt Go.RowKit
set_option linter.unusedVariables false

/-! ### The walk -/
theorem noB {d b : Int} (h0 : 0 ≤ d) (h : b = -(1 + d) ∨ b = 255 + (1 + d)) : plB b = false := by
  unfold plB; simp; omega
theorem e_base {b : Int} (xs : List Int) (h : plB b = false) : rowE b xs = 200 := by
  have : rowB b xs = false := by simp [rowB, h]
  simp [rowE, this]
theorem e_two {b : Int} (h : plB b = false) : rowE 5 [7, b] = 200 := by
  have : rowB 5 [7, b] = false := by simp [rowB, plsB, h]
  simp [rowE, this]
theorem e_long (n : Nat) (hn : 64 < n) : rowE 5 (List.replicate n 0) = 200 := by
  have : rowB 5 (List.replicate n 0) = false := by simp [rowB]; omega
  simp [rowE, this]
theorem o_of {xs : List Int} {b : Int} (h : rowE b xs = 200) : ownE xs b = 200 := by
  unfold rowE at h
  unfold ownE
  split at h
  · omega
  · rename_i h1
    rw [if_neg]
    intro h2
    exact h1 h2.1

set_option maxHeartbeats 400000 in
theorem walk (a0 : Int) (a1 : Int) (w : World) (w0 : (Lit.int .i64 a0).wf = true) (w1 : (Lit.int .i64 a1).wf = true) :
    Calls Try.prog 4 #[.int .i64 a0, .int .i64 a1] w fun e w' => e = .returned (.bool true) ∧ Below w.heap.size w w' := by
  have ex : bits .and .i64 a1 1023 = a1 % 1024 := and1023 a1
  have ew : bits .and .i64 a0 1 = a0 % 2 := and1 a0
  obtain ⟨d, hd⟩ : ∃ d, d = a1 % 1024 := ⟨_, rfl⟩
  rw [← hd] at ex
  have hd0 : 0 ≤ d := by omega
  have hd1 : d < 1024 := by omega
  clear hd w0 w1
  have p1 : plB (-(1 + d)) = false := noB hd0 (.inl rfl)
  have p2 : plB (255 + (1 + d)) = false := noB hd0 (.inr rfl)
  obtain ⟨n, hn⟩ : ∃ n : Nat, 64 + (1 + d) = (n : Int) := ⟨(64 + (1 + d)).toNat, by omega⟩
  have hn0 : 64 < n := by omega
  have hn1 : n < 2000 := by omega
  have g1 := e_long n hn0
  have g2 := o_of g1
  have A1 := e_base [5] p1
  have A2 := e_base [5] p2
  have B1 := e_two p1
  have B2 := e_two p2
  have C1 := o_of A1
  have C2 := o_of A2
  have D1 := o_of B1
  have D2 := o_of B2
  have t1 := trivial
  have t2 := trivial
  have t3 := trivial
  have t4 := trivial
  have t5 := trivial
  have t6 := trivial
  have t7 := trivial
  have t8 := trivial
  clear p1 p2
  rcases (by omega : a0 % 2 = 0 ∨ a0 % 2 = 1) with h | h
  all_goals
    rw [h] at ew
    clear h
    go_enter Try.func4, Try.ntmps4
    go_wp2_with (first
      | (go_at_call 17; refine (awake2_any _).mono ?_; rintro e w9 ⟨rfl, bb9⟩)
      | (go_at_call 9; clear t1; refine (sort_any (RowI.lit1 (by simp) _) (by simp) _).mono ?_; rintro e w1 ⟨u1, rfl, hu1, bb1⟩; clear hu1)
      | (go_at_call 9; clear t2; refine (sort_any (RowI.lit2 (by simp) _ _) (by simp) _).mono ?_; rintro e w2 ⟨u2, rfl, hu2, bb2⟩; clear hu2)
      | (at_make; clear t3; refine make_ints rfl _ _ rfl _ _ n rfl rfl (by omega) (by omega) (by omega) ?_; intro w3 hr3 bb3)
      | (go_at_call 9; clear t4; refine (sort_any hr3 (Nat.le_refl _) _).mono ?_; rintro e w4 ⟨u4, rfl, hu4, bb4⟩; clear hu4)
      | (go_at_call 11; clear t5; refine (owner_any (RowI.lit1 (by simp) _) _).mono ?_; rintro e w5 ⟨rfl, bb5⟩)
      | (go_at_call 11; clear t6; refine (owner_any (RowI.lit2 (by simp) _ _) _).mono ?_; rintro e w6 ⟨rfl, bb6⟩)
      | (at_make; clear t7; refine make_ints rfl _ _ rfl _ _ n rfl rfl (by omega) (by omega) (by omega) ?_; intro w7 hr7 bb7)
      | (go_at_call 11; clear t8; refine (owner_any hr7 _).mono ?_; rintro e w8 ⟨rfl, bb8⟩)
      | (go_at_call 14; refine (num_any _ _).mono ?_; rintro e w' ⟨rfl, hw'⟩; subst w'))
    go_ret
    exact ⟨rfl, ((((((((((((bb9.onA _).onA _).on bb1).onA _).on bb2).on bb3).on bb4).onA _).on bb5).onA _).on bb6).on bb7).on bb8⟩

/-! ### The row's step -/
set_option maxRecDepth 100000 in
theorem lifted (os : Os) (started : os.Started) (H : Type) (enc : TypeId × Value → H) :
    ReturnsInHanded {} Try.checked os 4 .any (Rows.rowFormsSpec.pre6 enc Try.prog Try.f4 Rows.rowFormsRow.domain false) (Rows.rowFormsSpec.post enc Try.prog Try.f4 false true false false) := by
  refine returnsInHanded_of_change_sized (C := Try.checked) ownK started (by kernel_rfl) Try.func4
    (ChangeSpec.witness6 (enc := enc) (C := Try.checked) false ⟨#[], #[.int .i64 0, .int .i64 0], []⟩ 8 (by kernel_rfl) (by kernel_rfl) (by kernel_rfl) (by kernel_rfl)) ?_
  intro W base args ds gs before hval0 hW hcnd hsz0 _
  have hsz : (DataW.weightsEach Try.prog (Try.f4.params.toList ++ Rows.rowFormsSpec.plain.varTypes Try.prog) (ds ++ gs)).all (· ≤ reachBytes) = true := hsz0
  have hval : ∀ (j : Nat) t v, Try.f4.params[j]? = some t → args[j]? = some v → Value.okWide Try.prog W .any base t v := hval0
  have hW' := hW
  obtain ⟨p, q, hA0, hV, rfl, hfz, hnd⟩ := hW
  have hA : DataW.TrodAll enc Try.prog W 0 (fun _ => true) true Try.f4.params.toList args.toList ds p := hA0
  rw [Try.params4] at hA hval hsz
  obtain ⟨v0, vs0, d0, ds0, p0, q0, hargs, rfl, rfl, h0, r0⟩ := trodAll_cons hA
  obtain ⟨v1, vs1, d1, ds1, p1, q1, rfl, rfl, rfl, h1, r1⟩ := trodAll_cons r0
  obtain ⟨rfl, rfl, rfl⟩ := trodAll_nil r1
  obtain rfl : args = #[v0, v1] := by cases args; simp_all
  obtain ⟨rfl, rfl⟩ := trodVars_none hV
  clear r0 r1
  have k0 := h0
  have lt0 : ∀ x ∈ p0, x.block < W.heap.size := by obtain ⟨m, hm⟩ := k0; exact DataW.trod_lt m _ _ _ hm
  have k1 := h1
  have lt1 : ∀ x ∈ p1, x.block < W.heap.size := by obtain ⟨m, hm⟩ := k1; exact DataW.trod_lt m _ _ _ hm
  obtain ⟨a0, rfl, rfl, rfl, w0⟩ := open_int Try.underlying3 (hval 0 3 v0 rfl rfl) h0
  obtain ⟨a1, rfl, rfl, rfl, w1⟩ := open_int Try.underlying3 (hval 1 3 v1 rfl rfl) h1
  clear hA0 hval0
  refine (walk a0 a1 W w0 w1).mono fun e W' ⟨he, bel⟩ => ?_
  subst he
  exact ⟨_, rfl, _, _, _, [], _, [], hW', trodAll_mk1 (shut_bool Try.underlying4 _), (trodAll_cons_mk (Below.trod laidOut (by kernel_rfl) (of_decide_eq_true (by kernel_rfl)) k0 bel lt0) (trodAll_cons_mk (Below.trod laidOut (by kernel_rfl) (of_decide_eq_true (by kernel_rfl)) k1 bel lt1) trodAll_mk0)), rfl, bel.frame _, fun h => by cases h⟩

theorem over : Rows.rowFormsRow.holds Try.pinned (OpenSpec.ofChange Rows.rowFormsSpec) :=
  OpenClaim.holds_of_wide 4 Try.f4 rfl rfl rfl rfl rfl rfl rfl ⟨rfl, rfl, rfl, rfl, rfl⟩ rfl rfl rfl rfl rfl (by kernel_rfl) Try.func4 (by kernel_rfl)
    (of_decide_eq_true (by kernel_rfl)) (by unfold Func.isWrapper; first | (rw [if_pos (by decide +kernel)]; kernel_rfl) | (rw [if_neg (by decide +kernel)]; exact ⟨rfl, rfl⟩))
    (fun os started H enc _ => lifted os started H enc)

end Go.Proofs.Ythfkoiodeipdeaa.rowForms

namespace Go.Proofs.Ythfkoiodeipdeaa
/-- The statement, by its short name. -/
theorem rowForms_holds : Rows.RowFormsSaid := rowForms.over
#print axioms rowForms_holds
end Go.Proofs.Ythfkoiodeipdeaa
