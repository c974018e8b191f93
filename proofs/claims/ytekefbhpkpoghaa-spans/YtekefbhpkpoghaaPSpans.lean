
/-
  Spans holds at every list of items and every two numbers: what package span answers is the document's own answer, nothing that was handed in has turned, and the answer is memory of its own.
-/
import Derived.Test.YtekefbhpkpoghaaRows
import Derived.Test.YtekefbhpkpoghaaOpen
import Derived.Test.YtekefbhpkpoghaaSpanLaw
import Derived.Test.YtekefbhpkpoghaaSpanRef
import Derived.Test.YtekefbhpkpoghaaOpenT
namespace Go.Proofs.Ytekefbhpkpoghaa.spans
open Go.ChangeShapes Go.WideShapes Go.ChangeAt Go.RowKit
set_option linter.unusedVariables false

/-! ### The walk -/
set_option maxHeartbeats 4000000 in
theorem walk (v0 : Value) (x0 : List It) (a1 : Int) (a2 : Int) (w : World) (r0 : RowT 0 w.heap.size w v0 x0) (s0 : x0.length * 40 ≤ 140737488351232) (w0 : ∀ x ∈ x0, ItW x) (w1 : (Lit.int .i64 a1).wf = true) (w2 : (Lit.int .i64 a2).wf = true) :
    Calls Try.prog 3 #[v0, .int .i64 a1, .int .i64 a2] w fun e w' => e = .returned (.bool true) ∧ Below w.heap.size w w' := by
  clear w0 w1 w2
  have hr := r0
  have hz : w.heap.size ≤ w.heap.size := Nat.le_refl _
  have hlen : x0.length * 40 ≤ 140737488351232 := s0
  obtain ⟨p0, c0, e0, n0, -⟩ := hr.its hz
  subst e0
  clear r0 s0
  go_enter Try.func3, Try.ntmps3
  go_wp2_with (first
    | (go_at_call 7; refine (lendItems_any hr (by omega)).mono ?_; rintro e w1 ⟨l1, rfl, L1, h1⟩
       have r1 := hr.below h1 hz
       have z1 := h1.size)
    | (go_at_call 8; refine (sOf_any L1.row (Nat.le_refl _) _ _).mono ?_; rintro e w2 ⟨o2, rfl, P2, h2⟩
       have L2 := L1.below h2 (Nat.le_refl _)
       have r2 := r1.below h2 z1
       have z2 := Nat.le_trans z1 h2.size)
    | (go_at_call 9; refine (rSpan_any r2 z2 _ _).mono ?_; rintro e w3 ⟨o3, rfl, P3, h3⟩
       have L3 := L2.below h3 h2.size
       have P23 := P2.below h3 (Nat.le_refl _)
       have r3 := r2.below h3 z2
       have z3 := Nat.le_trans z2 h3.size
       have y3 := Nat.le_trans h2.size h3.size)
    | (go_at_call 10; refine (same_at P23 P3 (b := true) (by simp)).mono ?_; rintro e w6 ⟨rfl, h6⟩
       have P26 := P23.below h6 h3.size
       have L6 := L3.below h6 y3
       have r6 := r3.below h6 z3)
    | (go_at_call 12; refine (spoilItems_any P26).mono ?_; rintro e w9 ⟨rfl, h9⟩
       have L9 := L6.below h9 (Nat.le_refl _)
       have r9 := r6.below h9 z1)
    | (go_at_call 13; refine (keptItems_any L9 r9).mono ?_; rintro e w10 ⟨rfl, q, rfl⟩)
    | (go_at_call 14; refine (awake6_any _).mono ?_; rintro e w11 ⟨rfl, h11⟩)
    | (go_at_call 11; refine (num_any _ _).mono ?_; rintro e w' ⟨rfl, hw'⟩; subst w'))
  go_ret
  have hB : Below w.heap.size w w6 := ((h1.on h2).on h3).on h6
  exact ⟨rfl, ((hB.trans (h9.mono z1)).onD q).on h11⟩

/-! ### The row's step -/
set_option maxRecDepth 100000 in
theorem lifted (os : Os) (started : os.Started) (H : Type) (enc : TypeId × Value → H) :
    ReturnsInHanded {} Try.checked os 3 .any (Rows.spansSpec.pre6 enc Try.prog Try.f3 Rows.spansRow.domain false) (Rows.spansSpec.post enc Try.prog Try.f3 false true false false) := by
  refine returnsInHanded_of_change_sized (C := Try.checked) ownK started (by kernel_rfl) Try.func3
    (ChangeSpec.witness6 (enc := enc) (C := Try.checked) false ⟨#[], #[.slice none 0 0, .int .i64 0, .int .i64 0], []⟩ 8 (by kernel_rfl) (by kernel_rfl) (by kernel_rfl) (by kernel_rfl)) ?_
  intro W base args ds gs before hval0 hW hcnd hsz0 _
  have hsz : (DataW.weightsEach Try.prog (Try.f3.params.toList ++ Rows.spansSpec.plain.varTypes Try.prog) (ds ++ gs)).all (· ≤ reachBytes) = true := hsz0
  have hval : ∀ (j : Nat) t v, Try.f3.params[j]? = some t → args[j]? = some v → Value.okWide Try.prog W .any base t v := hval0
  have hW' := hW
  obtain ⟨p, q, hA0, hV, rfl, hfz, hnd⟩ := hW
  have hA : DataW.TrodAll enc Try.prog W 0 (fun _ => true) true Try.f3.params.toList args.toList ds p := hA0
  rw [Try.params3] at hA hval hsz
  obtain ⟨v0, vs0, d0, ds0, p0, q0, hargs, rfl, rfl, h0, r0⟩ := trodAll_cons hA
  obtain ⟨v1, vs1, d1, ds1, p1, q1, rfl, rfl, rfl, h1, r1⟩ := trodAll_cons r0
  obtain ⟨v2, vs2, d2, ds2, p2, q2, rfl, rfl, rfl, h2, r2⟩ := trodAll_cons r1
  obtain ⟨rfl, rfl, rfl⟩ := trodAll_nil r2
  obtain rfl : args = #[v0, v1, v2] := by cases args; simp_all
  obtain ⟨rfl, rfl⟩ := trodVars_none hV
  clear r0 r1 r2
  have k0 := h0
  have lt0 : ∀ x ∈ p0, x.block < W.heap.size := by obtain ⟨m, hm⟩ := k0; exact DataW.trod_lt m _ _ _ hm
  have z0 : ∀ n ∈ d0.weights Try.prog 22, n ≤ reachBytes := fun n hn => by simpa using List.all_eq_true.1 hsz _ (DataW.weights_mem_each (j := 0) rfl rfl n hn)
  have f0 : W.noneFrozen p0 := fun b off hm => hfz b off (by simp [hm])
  have k1 := h1
  have lt1 : ∀ x ∈ p1, x.block < W.heap.size := by obtain ⟨m, hm⟩ := k1; exact DataW.trod_lt m _ _ _ hm
  have k2 := h2
  have lt2 : ∀ x ∈ p2, x.block < W.heap.size := by obtain ⟨m, hm⟩ := k2; exact DataW.trod_lt m _ _ _ hm
  obtain ⟨x0, r0, s0, w0⟩ := open_rowT (hval 0 22 v0 rfl rfl) h0 f0 z0
  obtain ⟨a1, rfl, rfl, rfl, w1⟩ := open_int Try.underlying3 (hval 1 3 v1 rfl rfl) h1
  obtain ⟨a2, rfl, rfl, rfl, w2⟩ := open_int Try.underlying3 (hval 2 3 v2 rfl rfl) h2
  clear hA0 hval0
  refine (walk v0 x0 a1 a2 W r0 s0 w0 w1 w2).mono fun e W' ⟨he, bel⟩ => ?_
  subst he
  exact ⟨_, rfl, _, _, _, [], _, [], hW', trodAll_mk1 (shut_bool Try.underlying4 _), (trodAll_cons_mk (Below.trod laidOut (by kernel_rfl) (of_decide_eq_true (by kernel_rfl)) k0 bel lt0) (trodAll_cons_mk (Below.trod laidOut (by kernel_rfl) (of_decide_eq_true (by kernel_rfl)) k1 bel lt1) (trodAll_cons_mk (Below.trod laidOut (by kernel_rfl) (of_decide_eq_true (by kernel_rfl)) k2 bel lt2) trodAll_mk0))), rfl, bel.frame _, fun h => by cases h⟩

theorem over : Rows.spansRow.holds Try.pinned (OpenSpec.ofChange Rows.spansSpec) :=
  OpenClaim.holds_of_wide 3 Try.f3 rfl rfl rfl rfl rfl rfl rfl ⟨rfl, rfl, rfl, rfl, rfl⟩ rfl rfl rfl rfl rfl (by kernel_rfl) Try.func3 (by kernel_rfl)
    (of_decide_eq_true (by kernel_rfl)) (by unfold Func.isWrapper; first | (rw [if_pos (by decide +kernel)]; kernel_rfl) | (rw [if_neg (by decide +kernel)]; exact ⟨rfl, rfl⟩))
    (fun os started H enc _ => lifted os started H enc)

end Go.Proofs.Ytekefbhpkpoghaa.spans

namespace Go.Proofs.Ytekefbhpkpoghaa
/-- The statement, by its short name. -/
theorem spans_holds : Rows.SpansSaid := spans.over
#print axioms spans_holds
end Go.Proofs.Ytekefbhpkpoghaa
