
/-
  Cutses: at any list of cuts, any two numbers, each call of package cuts answers as the document does, and the list stays. Conditions: none beyond the statement's own.
-/
import Derived.Test.YtnbnnbcjlfdlpaaRows
import Derived.Test.YtnbnnbcjlfdlpaaOpen
import Derived.Test.YtnbnnbcjlfdlpaaCutLaw
import Derived.Test.YtnbnnbcjlfdlpaaCutWith
import Derived.Test.YtnbnnbcjlfdlpaaOpenU
namespace Go.Proofs.Ytnbnnbcjlfdlpaa.cutses
open Go.ChangeShapes Go.WideShapes Go.ChangeAt Go.RowKit
set_option linter.unusedVariables false

/-! ### The walk -/
set_option maxHeartbeats 4000000 in
theorem walk (v0 : Value) (x0 : List Cu) (a1 : Int) (a2 : Int) (w : World) (r0 : RowU 0 w.heap.size w v0 x0) (s0 : x0.length * 16 ≤ 140737488351232) (w0 : ∀ x ∈ x0, CuW x) (w1 : (Lit.int .i64 a1).wf = true) (w2 : (Lit.int .i64 a2).wf = true) :
    Calls Try.prog 3 #[v0, .int .i64 a1, .int .i64 a2] w fun e w' => e = .returned (.bool true) ∧ Below w.heap.size w w' := by
  clear w0 w1 w2
  have hr := r0
  have hz : w.heap.size ≤ w.heap.size := Nat.le_refl _
  have hlen : x0.length * 16 ≤ 140737488351232 := s0
  obtain ⟨p0, c0, e0, n0, -⟩ := hr.cus hz
  subst e0
  clear r0 s0
  have t1 := trivial
  have t2 := trivial
  go_enter Try.func3, Try.ntmps3
  go_wp2_with (first
    | (go_at_call 7; refine (lendCuts_any hr (by omega)).mono ?_; rintro e w1 ⟨l1, rfl, L1, h1⟩
       have r1 := hr.below h1 hz
       have z1 := h1.size)
    | (go_at_call 8; refine (uWith_any L1.row (Nat.le_refl _) _ _).mono ?_; rintro e w2 ⟨o2, rfl, P2, h2⟩
       have L2 := L1.below h2 (Nat.le_refl _)
       have r2 := r1.below h2 z1
       have y2 := h2.size
       have z2 := Nat.le_trans z1 y2)
    | (go_at_call 9; refine (rWithCut_any r2 z2 _ _ hlen).mono ?_; rintro e w3 ⟨o3, rfl, P3, h3⟩
       have L3 := L2.below h3 y2
       have P23 := P2.below h3 (Nat.le_refl _)
       have r3 := r2.below h3 z2
       have u3 := h3.size
       have z3 := Nat.le_trans z2 u3
       have y3 := Nat.le_trans y2 u3)
    | (go_at_call 10; refine (uWithout_any L3.row y3 _ _).mono ?_; rintro e w4 ⟨o4, rfl, P4, h4⟩
       have L4 := L3.below h4 y3
       have P24 := P23.below h4 u3
       have P34 := P3.below h4 (Nat.le_refl _)
       have r4 := r3.below h4 z3
       have u4 := h4.size
       have z4 := Nat.le_trans z3 u4
       have y4 := Nat.le_trans y3 u4)
    | (go_at_call 11; refine (rWithoutCut_any r4 z4 _ _ hlen).mono ?_; rintro e w5 ⟨o5, rfl, P5, h5⟩
       have L5 := L4.below h5 y4
       have P25 := P24.below h5 (Nat.le_trans u3 u4)
       have P35 := P34.below h5 u4
       have P45 := P4.below h5 (Nat.le_refl _)
       have r5 := r4.below h5 z4
       have u5 := h5.size
       have z5 := Nat.le_trans z4 u5
       have y5 := Nat.le_trans y4 u5
       have j5 := Nat.le_trans u3 (Nat.le_trans u4 u5))
    | (go_at_call 12; refine (uIs_all L5.row y5 _ _).mono ?_; rintro e wa ⟨rfl, ha⟩
       have La := L5.below ha y5
       have P2a := P25.below ha j5
       have P3a := P35.below ha (Nat.le_trans u4 u5)
       have P4a := P45.below ha u5
       have P5a := P5.below ha (Nat.le_refl _)
       have ra := r5.below ha z5
       have ua := ha.size
       have za := Nat.le_trans z5 ua
       have ya := Nat.le_trans y5 ua
       have ja := Nat.le_trans j5 ua
       have va := Nat.le_trans u5 ua
       have xa := Nat.le_trans u4 va)
    | (go_at_call 13; refine (rIsCut_any ra za _ _).mono ?_; rintro e wb ⟨rfl, hb⟩
       have Lb := La.below hb ya
       have P2b := P2a.below hb ja
       have P3b := P3a.below hb xa
       have P4b := P4a.below hb va
       have P5b := P5a.below hb ua
       have rb := ra.below hb za
       have ub := hb.size
       have zb := Nat.le_trans za ub
       have yb := Nat.le_trans ya ub
       have jb := Nat.le_trans ja ub
       have vb := Nat.le_trans va ub
       have sb' := Nat.le_trans ua ub)
    | (go_at_call 14; clear t1; refine (sameU_at P2b P3b (b := true) (by simp)).mono ?_; rintro e w6 ⟨rfl, h6⟩
       have L6 := Lb.below h6 yb
       have P26 := P2b.below h6 jb
       have P46 := P4b.below h6 vb
       have P56 := P5b.below h6 sb'
       have r6 := rb.below h6 zb
       have u6 := h6.size
       have z6 := Nat.le_trans zb u6
       have y6 := Nat.le_trans yb u6
       have j6 := Nat.le_trans jb u6
       have v6 := Nat.le_trans vb u6)
    | (go_at_call 14; refine (sameU_at P46 P56 (b := true) (by simp)).mono ?_; rintro e w7 ⟨rfl, h7⟩
       have L7 := L6.below h7 y6
       have P27 := P26.below h7 j6
       have P47 := P46.below h7 v6
       have r7 := r6.below h7 z6
       have u7 := h7.size
       have z7 := Nat.le_trans z6 u7
       have y7 := Nat.le_trans y6 u7
       have j7 := Nat.le_trans j6 u7
       have v7 := Nat.le_trans v6 u7)
    | (go_at_call 16; refine (uMay_is L7.row y7 rfl).mono ?_; rintro e w8 ⟨rfl, h8⟩
       have L8 := L7.below h8 y7
       have P28 := P27.below h8 j7
       have P48 := P47.below h8 v7
       have r8 := r7.below h8 z7
       have u8 := h8.size
       have z8 := Nat.le_trans z7 u8
       have y8 := Nat.le_trans y7 u8
       have j8 := Nat.le_trans j7 u8
       have v8 := Nat.le_trans v7 u8)
    | (go_at_call 17; refine (rCutsMay_any r8 z8).mono ?_; rintro e w9 ⟨rfl, h9⟩
       have L9 := L8.below h9 y8
       have P29 := P28.below h9 j8
       have P49 := P48.below h9 v8
       have r9 := r8.below h9 z8)
    | (go_at_call 18; clear t2; refine (spoilCuts_any P29).mono ?_; rintro e w10 ⟨rfl, h10⟩
       have L10 := L9.below h10.below (Nat.le_refl _)
       have P410 := P49.onlyU h10 (.inr u3)
       have r10 := r9.below h10.below z1)
    | (go_at_call 18; refine (spoilCuts_any P410).mono ?_; rintro e w11 ⟨rfl, h11⟩
       have L11 := L10.below h11.below y3
       have r11 := r10.below h11.below z3)
    | (go_at_call 19; refine (keptCuts_any L11 r11).mono ?_; rintro e w12 ⟨rfl, q, rfl⟩)
    | (go_at_call 20; refine (awake15_any _).mono ?_; rintro e w13 ⟨rfl, h13⟩)
    | (go_at_call 15; refine (num_any _ _).mono ?_; rintro e w' ⟨rfl, hw'⟩; subst w'))
  go_ret
  have hB : Below w.heap.size w w9 := ((((((((((h1.on h2).on h3).on h4).on h5).on ha).on hb).on h6).on h7).on h8).on h9)
  exact ⟨rfl, (((hB.trans (h10.below.mono z1)).trans (h11.below.mono z3)).onD q).on h13⟩

/-! ### The row's step -/
set_option maxRecDepth 100000 in
theorem lifted (os : Os) (started : os.Started) (H : Type) (enc : TypeId × Value → H) :
    ReturnsInHanded {} Try.checked os 3 .any (Rows.cutsesSpec.pre6 enc Try.prog Try.f3 Rows.cutsesRow.domain false) (Rows.cutsesSpec.post enc Try.prog Try.f3 false true false false) := by
  refine returnsInHanded_of_change_sized (C := Try.checked) ownK started (by kernel_rfl) Try.func3
    (ChangeSpec.witness6 (enc := enc) (C := Try.checked) false ⟨#[], #[.slice none 0 0, .int .i64 0, .int .i64 0], []⟩ 8 (by kernel_rfl) (by kernel_rfl) (by kernel_rfl) (by kernel_rfl)) ?_
  intro W base args ds gs before hval0 hW hcnd hsz0 _
  have hsz : (DataW.weightsEach Try.prog (Try.f3.params.toList ++ Rows.cutsesSpec.plain.varTypes Try.prog) (ds ++ gs)).all (· ≤ reachBytes) = true := hsz0
  have hval : ∀ (j : Nat) t v, Try.f3.params[j]? = some t → args[j]? = some v → Value.okWide Try.prog W .any base t v := hval0
  have hW' := hW
  obtain ⟨p, q, hA0, hV, rfl, hfz, hnd⟩ := hW
  have hA : DataW.TrodAll enc Try.prog W 0 (fun _ => true) true Try.f3.params.toList args.toList ds p := hA0
  rw [Try.params3] at hA hval hsz
  obtain ⟨v0, vs0, d0, ds0, p0, q0, hargs, rfl, rfl, h0, r0⟩ := trodAll_cons hA
  obtain ⟨v1, vs1, d1, ds1, p1, q1, rfl, rfl, rfl, h1, r1⟩ := trodAll_cons r0
  obtain ⟨v2, vs2, d2, ds2, p2, q2, rfl, rfl, rfl, h2, r2⟩ := trodAll_cons r1
  obtain ⟨rfl, rfl, rfl⟩ := trodAll_nil r2
  obtain rfl : args = #[v0, v1, v2] := by cases args; simp_all
  obtain ⟨rfl, rfl⟩ := trodVars_none hV
  clear r0 r1 r2
  have k0 := h0
  have lt0 : ∀ x ∈ p0, x.block < W.heap.size := by obtain ⟨m, hm⟩ := k0; exact DataW.trod_lt m _ _ _ hm
  have z0 : ∀ n ∈ d0.weights Try.prog 22, n ≤ reachBytes := fun n hn => by simpa using List.all_eq_true.1 hsz _ (DataW.weights_mem_each (j := 0) rfl rfl n hn)
  have f0 : W.noneFrozen p0 := fun b off hm => hfz b off (by simp [hm])
  have k1 := h1
  have lt1 : ∀ x ∈ p1, x.block < W.heap.size := by obtain ⟨m, hm⟩ := k1; exact DataW.trod_lt m _ _ _ hm
  have k2 := h2
  have lt2 : ∀ x ∈ p2, x.block < W.heap.size := by obtain ⟨m, hm⟩ := k2; exact DataW.trod_lt m _ _ _ hm
  obtain ⟨x0, r0, s0, w0⟩ := open_rowU (hval 0 22 v0 rfl rfl) h0 f0 z0
  obtain ⟨a1, rfl, rfl, rfl, w1⟩ := open_int Try.underlying3 (hval 1 3 v1 rfl rfl) h1
  obtain ⟨a2, rfl, rfl, rfl, w2⟩ := open_int Try.underlying3 (hval 2 3 v2 rfl rfl) h2
  clear hA0 hval0
  refine (walk v0 x0 a1 a2 W r0 s0 w0 w1 w2).mono fun e W' ⟨he, bel⟩ => ?_
  subst he
  exact ⟨_, rfl, _, _, _, [], _, [], hW', trodAll_mk1 (shut_bool Try.underlying4 _), (trodAll_cons_mk (Below.trod laidOut (by kernel_rfl) (of_decide_eq_true (by kernel_rfl)) k0 bel lt0) (trodAll_cons_mk (Below.trod laidOut (by kernel_rfl) (of_decide_eq_true (by kernel_rfl)) k1 bel lt1) (trodAll_cons_mk (Below.trod laidOut (by kernel_rfl) (of_decide_eq_true (by kernel_rfl)) k2 bel lt2) trodAll_mk0))), rfl, bel.frame _, fun h => by cases h⟩

theorem over : Rows.cutsesRow.holds Try.pinned (OpenSpec.ofChange Rows.cutsesSpec) :=
  OpenClaim.holds_of_wide 3 Try.f3 rfl rfl rfl rfl rfl rfl rfl ⟨rfl, rfl, rfl, rfl, rfl⟩ rfl rfl rfl rfl rfl (by kernel_rfl) Try.func3 (by kernel_rfl)
    (of_decide_eq_true (by kernel_rfl)) (by unfold Func.isWrapper; first | (rw [if_pos (by decide +kernel)]; kernel_rfl) | (rw [if_neg (by decide +kernel)]; exact ⟨rfl, rfl⟩))
    (fun os started H enc _ => lifted os started H enc)

end Go.Proofs.Ytnbnnbcjlfdlpaa.cutses

namespace Go.Proofs.Ytnbnnbcjlfdlpaa
/-- The statement, by its short name. -/
theorem cutses_holds : Rows.CutsesSaid := cutses.over
#print axioms cutses_holds
end Go.Proofs.Ytnbnnbcjlfdlpaa
