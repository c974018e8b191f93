/-
  The statement ItemGone: a dropped item is the best of its version, and one of a newer version is better than it.
-/
import Derived.Test.YtogehhdlhdolkaaRows
import Derived.Test.YtogehhdlhdolkaaOpen
import Derived.Test.YtogehhdlhdolkaaItemLaw
import Derived.Test.YtogehhdlhdolkaaBox
namespace Go.Proofs.Ytogehhdlhdolkaa.itemGone
open Go.ChangeShapes Go.WideShapes Go.ChangeAt Go.RowKit
set_option linter.unusedVariables false

/-! ### The walk -/
set_option maxHeartbeats 4000000 in
theorem walk (a0 : Int) (a1 : Int) (a2 : Int) (a3 : Int) (w : World) (w0 : (Lit.int .i64 a0).wf = true) (w1 : (Lit.int .i64 a1).wf = true) (w2 : (Lit.int .i64 a2).wf = true) (w3 : (Lit.int .i64 a3).wf = true) :
    Calls Try.prog 8 #[.int .i64 a0, .int .i64 a1, .int .i64 a2, .int .i64 a3] w fun e w' => e = .returned (.bool true) ∧ Below w.heap.size w w' := by
  have ep : bits .and .i64 a0 255 = a0 % 256 := and255 a0
  have eq : bits .and .i64 a1 255 = a1 % 256 := and255 a1
  have er : bits .and .i64 a2 255 = a2 % 256 := and255 a2
  have em : bits .and .i64 a3 3 = a3 % 4 := and3 a3
  obtain ⟨p, hp⟩ : ∃ p, p = a0 % 256 := ⟨_, rfl⟩
  obtain ⟨q, hq⟩ : ∃ p, p = a1 % 256 := ⟨_, rfl⟩
  obtain ⟨r, hr⟩ : ∃ p, p = a2 % 256 := ⟨_, rfl⟩
  obtain ⟨m, hm⟩ : ∃ p, p = a3 % 4 := ⟨_, rfl⟩
  have p0 : 0 ≤ p := by omega
  have p1 : p < 256 := by omega
  have q0 : 0 ≤ q := by omega
  have q1 : q < 256 := by omega
  have r0 : 0 ≤ r := by omega
  have r1 : r < 256 := by omega
  have m0 : 0 ≤ m := by omega
  have m1 : m < 4 := by omega
  rw [← hp] at ep
  rw [← hq] at eq
  rw [← hr] at er
  rw [← hm] at em
  clear hp hq hr hm w0 w1 w2 w3
  have hw : Hid (betB ⟨7, 1 + p + 1 + m, q, r, false⟩ ⟨7, 1 + p, q, 0, true⟩ = true) := by
    show betB ⟨7, 1 + p + 1 + m, q, r, false⟩ ⟨7, 1 + p, q, 0, true⟩ = true
    simp only [betB]
    rw [if_neg (by omega)]
    simp [newB, verB, cntB, plB, gtB]
    omega
  have t1 := trivial
  go_enter Try.func8, Try.ntmps8
  go_wp2_with (first
    | (go_at_call 14; refine (awake4_any _).mono ?_; rintro e w9 ⟨rfl, bb9⟩)
    | (go_at_call 9; clear t1; refine (iBest_b _ _ _ _ _ _ _ _ _ _ (by simp [itB, byB, verB, cntB, plB]; omega) (by simp [itB, byB, verB, cntB, plB]; omega) (by simp [betB, oneB])).mono ?_; rintro e w1 ⟨rfl, hb1⟩
       have bB1 := ((Box.new2 w9 _ _ _ _).alloc _).below hb1
       have bC1 := (Box.new3 w9 _ _ _ _ _).below hb1
       obtain ⟨b1, b2, b3⟩ := id bB1
       obtain ⟨c1, c2, c3⟩ := id bC1)
    | (go_at_call 9; refine (iBest_b _ _ _ _ _ _ _ _ _ _ (by simp [itB, byB, verB, cntB, plB]; omega) (by simp [itB, byB, verB, cntB, plB]; omega) hw.out).mono ?_; rintro e w2 ⟨rfl, hb2⟩
       have bB2 := (bB1.alloc _).below hb2
       have bC2 := (bC1.alloc _).below hb2
       have bX2 := (Box.new w1 _ _).below hb2
       clear b1 b2 b3 c1 c2 c3
       obtain ⟨b1, b2, b3⟩ := id bB2
       obtain ⟨c1, c2, c3⟩ := id bC2
       obtain ⟨x1, x2, x3⟩ := id bX2)
    | (go_at_call 11; refine (num_any _ _).mono ?_; rintro e w' ⟨rfl, hw'⟩; subst w'))
  go_ret
  exact ⟨rfl, ((((((((bb9.onA _).onA _).onA _).onA _).on hb1).onA _).on hb2).onA _)⟩

/-! ### The row's step -/
set_option maxRecDepth 100000 in
theorem lifted (os : Os) (started : os.Started) (H : Type) (enc : TypeId × Value → H) :
    ReturnsInHanded {} Try.checked os 8 .any (Rows.itemGoneSpec.pre6 enc Try.prog Try.f8 Rows.itemGoneRow.domain false) (Rows.itemGoneSpec.post enc Try.prog Try.f8 false true false false) := by
  refine returnsInHanded_of_change_sized (C := Try.checked) ownK started (by kernel_rfl) Try.func8
    (ChangeSpec.witness6 (enc := enc) (C := Try.checked) false ⟨#[], #[.int .i64 0, .int .i64 0, .int .i64 0, .int .i64 0], []⟩ 8 (by kernel_rfl) (by kernel_rfl) (by kernel_rfl) (by kernel_rfl)) ?_
  intro W base args ds gs before hval0 hW hcnd hsz0 _
  have hsz : (DataW.weightsEach Try.prog (Try.f8.params.toList ++ Rows.itemGoneSpec.plain.varTypes Try.prog) (ds ++ gs)).all (· ≤ reachBytes) = true := hsz0
  have hval : ∀ (j : Nat) t v, Try.f8.params[j]? = some t → args[j]? = some v → Value.okWide Try.prog W .any base t v := hval0
  have hW' := hW
  obtain ⟨p, q, hA0, hV, rfl, hfz, hnd⟩ := hW
  have hA : DataW.TrodAll enc Try.prog W 0 (fun _ => true) true Try.f8.params.toList args.toList ds p := hA0
  rw [Try.params8] at hA hval hsz
  obtain ⟨v0, vs0, d0, ds0, p0, q0, hargs, rfl, rfl, h0, r0⟩ := trodAll_cons hA
  obtain ⟨v1, vs1, d1, ds1, p1, q1, rfl, rfl, rfl, h1, r1⟩ := trodAll_cons r0
  obtain ⟨v2, vs2, d2, ds2, p2, q2, rfl, rfl, rfl, h2, r2⟩ := trodAll_cons r1
  obtain ⟨v3, vs3, d3, ds3, p3, q3, rfl, rfl, rfl, h3, r3⟩ := trodAll_cons r2
  obtain ⟨rfl, rfl, rfl⟩ := trodAll_nil r3
  obtain rfl : args = #[v0, v1, v2, v3] := by cases args; simp_all
  obtain ⟨rfl, rfl⟩ := trodVars_none hV
  clear r0 r1 r2 r3
  have k0 := h0
  have lt0 : ∀ x ∈ p0, x.block < W.heap.size := by obtain ⟨m, hm⟩ := k0; exact DataW.trod_lt m _ _ _ hm
  have k1 := h1
  have lt1 : ∀ x ∈ p1, x.block < W.heap.size := by obtain ⟨m, hm⟩ := k1; exact DataW.trod_lt m _ _ _ hm
  have k2 := h2
  have lt2 : ∀ x ∈ p2, x.block < W.heap.size := by obtain ⟨m, hm⟩ := k2; exact DataW.trod_lt m _ _ _ hm
  have k3 := h3
  have lt3 : ∀ x ∈ p3, x.block < W.heap.size := by obtain ⟨m, hm⟩ := k3; exact DataW.trod_lt m _ _ _ hm
  obtain ⟨a0, rfl, rfl, rfl, w0⟩ := open_int Try.underlying3 (hval 0 3 v0 rfl rfl) h0
  obtain ⟨a1, rfl, rfl, rfl, w1⟩ := open_int Try.underlying3 (hval 1 3 v1 rfl rfl) h1
  obtain ⟨a2, rfl, rfl, rfl, w2⟩ := open_int Try.underlying3 (hval 2 3 v2 rfl rfl) h2
  obtain ⟨a3, rfl, rfl, rfl, w3⟩ := open_int Try.underlying3 (hval 3 3 v3 rfl rfl) h3
  clear hA0 hval0
  refine (walk a0 a1 a2 a3 W w0 w1 w2 w3).mono fun e W' ⟨he, bel⟩ => ?_
  subst he
  exact ⟨_, rfl, _, _, _, [], _, [], hW', trodAll_mk1 (shut_bool Try.underlying4 _), (trodAll_cons_mk (Below.trod laidOut (by kernel_rfl) (of_decide_eq_true (by kernel_rfl)) k0 bel lt0) (trodAll_cons_mk (Below.trod laidOut (by kernel_rfl) (of_decide_eq_true (by kernel_rfl)) k1 bel lt1) (trodAll_cons_mk (Below.trod laidOut (by kernel_rfl) (of_decide_eq_true (by kernel_rfl)) k2 bel lt2) (trodAll_cons_mk (Below.trod laidOut (by kernel_rfl) (of_decide_eq_true (by kernel_rfl)) k3 bel lt3) trodAll_mk0)))), rfl, bel.frame _, fun h => by cases h⟩

theorem over : Rows.itemGoneRow.holds Try.pinned (OpenSpec.ofChange Rows.itemGoneSpec) :=
  OpenClaim.holds_of_wide 8 Try.f8 rfl rfl rfl rfl rfl rfl rfl ⟨rfl, rfl, rfl, rfl, rfl⟩ rfl rfl rfl rfl rfl (by kernel_rfl) Try.func8 (by kernel_rfl)
    (of_decide_eq_true (by kernel_rfl)) (by unfold Func.isWrapper; first | (rw [if_pos (by decide +kernel)]; kernel_rfl) | (rw [if_neg (by decide +kernel)]; exact ⟨rfl, rfl⟩))
    (fun os started H enc _ => lifted os started H enc)

end Go.Proofs.Ytogehhdlhdolkaa.itemGone

namespace Go.Proofs.Ytogehhdlhdolkaa
/-- The statement, by its short name. -/
theorem itemGone_holds : Rows.ItemGoneSaid := itemGone.over
#print axioms itemGone_holds
end Go.Proofs.Ytogehhdlhdolkaa
