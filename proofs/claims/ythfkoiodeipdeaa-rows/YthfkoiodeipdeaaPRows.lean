/-
  Proved: 'gimmallaw2.Rows' returns true at every base, list and key, and leaves its arguments as they were; no condition.
-/
import Derived.Test.YthfkoiodeipdeaaRows
import Derived.Test.YthfkoiodeipdeaaOpen
import Derived.Test.YthfkoiodeipdeaaRowLaw
import Derived.Test.YthfkoiodeipdeaaRowRef
namespace Go.Proofs.Ythfkoiodeipdeaa.rows
open Go.ChangeShapes Go.WideShapes Go.ChangeAt Go.RowKit
set_option linter.unusedVariables false

/-! ### The walk -/
set_option maxHeartbeats 1000000 in
theorem walk (a0 : Int) (v1 : Value) (x1 : List Int) (a2 : Int) (w : World) (w0 : (Lit.int .i64 a0).wf = true) (r1 : RowI 0 w.heap.size w v1 x1) (s1 : x1.length * 8 ≤ 140737488351232) (w1 : ∀ x ∈ x1, (Lit.int .i64 x).wf = true) (w2 : (Lit.int .i64 a2).wf = true) :
    Calls Try.prog 3 #[.int .i64 a0, v1, .int .i64 a2] w fun e w' => e = .returned (.bool true) ∧ Below w.heap.size w w' := by
  have hlend := lendInts_any r1 (by omega)
  clear w0 w1 w2 s1
  go_enter Try.func3, Try.ntmps3
  go_wp2_with (first
    | (go_at_call 8; refine hlend.mono ?_; rintro e w1 ⟨xs, rfl, hl1, hb1⟩; have i1 := r1.below hb1 (Nat.le_refl _))
    | (go_at_call 9; refine (sort_any hl1.row (Nat.le_refl _) _).mono ?_; rintro e w2 ⟨ua, rfl, ha2, hb2⟩; have i2 := i1.below hb2 hb1.size; have hl2 := hl1.below hb2 (Nat.le_refl _))
    | (go_at_call 10; refine (rSort_any i2 (Nat.le_trans hb1.size hb2.size) _).mono ?_; rintro e w3 ⟨ub, rfl, hb3, bb3⟩; have i3 := i2.below bb3 (Nat.le_trans hb1.size hb2.size); have hl3 := hl2.below bb3 hb2.size; have ha3 := ha2.below bb3 (Nat.le_refl _))
    | (go_at_call 11; refine (owner_any hl3.row _).mono ?_; rintro e w4 ⟨rfl, bb4⟩; have i4 := i3.below bb4 (Nat.le_trans (Nat.le_trans hb1.size hb2.size) bb3.size); have hl4 := hl3.below bb4 (Nat.le_trans hb2.size bb3.size); have ha4 := ha3.below bb4 bb3.size; have hb4 := hb3.below bb4 (Nat.le_refl _))
    | (go_at_call 12; refine (rOwner_any i4 _).mono ?_; rintro e w5 ⟨rfl, hw5⟩; subst w5)
    | (go_at_call 13; refine (sameInts_any ha4 hb4).mono ?_; rintro e w6 ⟨rfl, q6, hw6⟩; subst w6)
    | (go_at_call 14; refine (num_any _ _).mono ?_; rintro e w' ⟨rfl, hw'⟩; subst w')
    | (go_at_call 15; refine (spoilInts_any (ha4.drewN q6)).mono ?_; rintro e w7 ⟨rfl, bb7⟩; have i7 := (i4.drewN q6).below bb7 hb1.size; have hl7 := (hl4.drewN q6).below bb7 (Nat.le_refl _))
    | (go_at_call 16; refine (keptInts_any hl7 i7).mono ?_; rintro e w8 ⟨rfl, q8, hw8⟩; subst w8)
    | (go_at_call 17; refine (awake2_any _).mono ?_; rintro e w9 ⟨rfl, bb9⟩))
  go_ret
  exact ⟨rfl, (((((((hb1.on hb2).on bb3).on bb4).onD q6).trans (bb7.mono hb1.size)).onD q8).on bb9)⟩

/-! ### The row's step -/
set_option maxRecDepth 100000 in
theorem lifted (os : Os) (started : os.Started) (H : Type) (enc : TypeId × Value → H) :
    ReturnsInHanded {} Try.checked os 3 .any (Rows.rowsSpec.pre6 enc Try.prog Try.f3 Rows.rowsRow.domain false) (Rows.rowsSpec.post enc Try.prog Try.f3 false true false false) := by
  refine returnsInHanded_of_change_sized (C := Try.checked) ownK started (by kernel_rfl) Try.func3
    (ChangeSpec.witness6 (enc := enc) (C := Try.checked) false ⟨#[], #[.int .i64 0, .slice none 0 0, .int .i64 0], []⟩ 8 (by kernel_rfl) (by kernel_rfl) (by kernel_rfl) (by kernel_rfl)) ?_
  intro W base args ds gs before hval0 hW hcnd hsz0 _
  have hsz : (DataW.weightsEach Try.prog (Try.f3.params.toList ++ Rows.rowsSpec.plain.varTypes Try.prog) (ds ++ gs)).all (· ≤ reachBytes) = true := hsz0
  have hval : ∀ (j : Nat) t v, Try.f3.params[j]? = some t → args[j]? = some v → Value.okWide Try.prog W .any base t v := hval0
  have hW' := hW
  obtain ⟨p, q, hA0, hV, rfl, hfz, hnd⟩ := hW
  have hA : DataW.TrodAll enc Try.prog W 0 (fun _ => true) true Try.f3.params.toList args.toList ds p := hA0
  rw [Try.params3] at hA hval hsz
  obtain ⟨v0, vs0, d0, ds0, p0, q0, hargs, rfl, rfl, h0, r0⟩ := trodAll_cons hA
  obtain ⟨v1, vs1, d1, ds1, p1, q1, rfl, rfl, rfl, h1, r1⟩ := trodAll_cons r0
  obtain ⟨v2, vs2, d2, ds2, p2, q2, rfl, rfl, rfl, h2, r2⟩ := trodAll_cons r1
  obtain ⟨rfl, rfl, rfl⟩ := trodAll_nil r2
  obtain rfl : args = #[v0, v1, v2] := by cases args; simp_all
  obtain ⟨rfl, rfl⟩ := trodVars_none hV
  clear r0 r1 r2
  have k0 := h0
  have lt0 : ∀ x ∈ p0, x.block < W.heap.size := by obtain ⟨m, hm⟩ := k0; exact DataW.trod_lt m _ _ _ hm
  have k1 := h1
  have lt1 : ∀ x ∈ p1, x.block < W.heap.size := by obtain ⟨m, hm⟩ := k1; exact DataW.trod_lt m _ _ _ hm
  have z1 : ∀ n ∈ d1.weights Try.prog 22, n ≤ reachBytes := fun n hn => by simpa using List.all_eq_true.1 hsz _ (DataW.weights_mem_each (j := 1) rfl rfl n hn)
  have f1 : W.noneFrozen p1 := fun b off hm => hfz b off (by simp [hm])
  have k2 := h2
  have lt2 : ∀ x ∈ p2, x.block < W.heap.size := by obtain ⟨m, hm⟩ := k2; exact DataW.trod_lt m _ _ _ hm
  obtain ⟨a0, rfl, rfl, rfl, w0⟩ := open_int Try.underlying3 (hval 0 3 v0 rfl rfl) h0
  obtain ⟨x1, r1, s1, w1⟩ := open_rowI (hval 1 22 v1 rfl rfl) h1 f1 z1
  obtain ⟨a2, rfl, rfl, rfl, w2⟩ := open_int Try.underlying3 (hval 2 3 v2 rfl rfl) h2
  clear hA0 hval0
  refine (walk a0 v1 x1 a2 W w0 r1 s1 w1 w2).mono fun e W' ⟨he, bel⟩ => ?_
  subst he
  exact ⟨_, rfl, _, _, _, [], _, [], hW', trodAll_mk1 (shut_bool Try.underlying4 _), (trodAll_cons_mk (Below.trod laidOut (by kernel_rfl) (of_decide_eq_true (by kernel_rfl)) k0 bel lt0) (trodAll_cons_mk (Below.trod laidOut (by kernel_rfl) (of_decide_eq_true (by kernel_rfl)) k1 bel lt1) (trodAll_cons_mk (Below.trod laidOut (by kernel_rfl) (of_decide_eq_true (by kernel_rfl)) k2 bel lt2) trodAll_mk0))), rfl, bel.frame _, fun h => by cases h⟩

theorem over : Rows.rowsRow.holds Try.pinned (OpenSpec.ofChange Rows.rowsSpec) :=
  OpenClaim.holds_of_wide 3 Try.f3 rfl rfl rfl rfl rfl rfl rfl ⟨rfl, rfl, rfl, rfl, rfl⟩ rfl rfl rfl rfl rfl (by kernel_rfl) Try.func3 (by kernel_rfl)
    (of_decide_eq_true (by kernel_rfl)) (by unfold Func.isWrapper; first | (rw [if_pos (by decide +kernel)]; kernel_rfl) | (rw [if_neg (by decide +kernel)]; exact ⟨rfl, rfl⟩))
    (fun os started H enc _ => lifted os started H enc)

end Go.Proofs.Ythfkoiodeipdeaa.rows

namespace Go.Proofs.Ythfkoiodeipdeaa
/-- The statement, by its short name. -/
theorem rows_holds : Rows.RowsSaid := rows.over
#print axioms rows_holds
end Go.Proofs.Ythfkoiodeipdeaa
