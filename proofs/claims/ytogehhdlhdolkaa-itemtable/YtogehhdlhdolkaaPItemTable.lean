/-
  The statement ItemTable: which of two small items is the best, by a number reckoned from each by hand.
-/
import Derived.Test.YtogehhdlhdolkaaRows
import Derived.Test.YtogehhdlhdolkaaOpen
import Derived.Test.YtogehhdlhdolkaaItemLaw
import Derived.Test.YtogehhdlhdolkaaBox
namespace Go.Proofs.Ytogehhdlhdolkaa.itemTable
open Go.ChangeShapes Go.WideShapes Go.ChangeAt Go.RowKit
set_option linter.unusedVariables false

/-! ### The walk -/
set_option maxHeartbeats 4000000 in
theorem walk (a0 : Int) (a1 : Int) (w : World) (w0 : (Lit.int .i64 a0).wf = true) (w1 : (Lit.int .i64 a1).wf = true) :
    Calls Try.prog 6 #[.int .i64 a0, .int .i64 a1] w fun e w' => e = .returned (.bool true) ∧ Below w.heap.size w w' := by
  have ec : bits .and .i64 a0 1 = a0 % 2 := and1 a0
  have eu : bits .and .i64 (a0 / 2) 1 = a0 / 2 % 2 := and1 _
  have ex : bits .and .i64 (a0 / 4) 1 = a0 / 4 % 2 := and1 _
  have eg : bits .and .i64 (a0 / 8) 1 = a0 / 8 % 2 := and1 _
  have ed : bits .and .i64 a1 1 = a1 % 2 := and1 a1
  have ev : bits .and .i64 (a1 / 2) 1 = a1 / 2 % 2 := and1 _
  have ey : bits .and .i64 (a1 / 4) 1 = a1 / 4 % 2 := and1 _
  have eh : bits .and .i64 (a1 / 8) 1 = a1 / 8 % 2 := and1 _
  obtain ⟨c, hc⟩ : ∃ z, z = a0 % 2 := ⟨_, rfl⟩
  have c0 : 0 ≤ c := by omega
  have c1 : c ≤ 1 := by omega
  rw [← hc] at ec
  obtain ⟨u, hu⟩ : ∃ z, z = a0 / 2 % 2 := ⟨_, rfl⟩
  have u0 : 0 ≤ u := by omega
  have u1 : u ≤ 1 := by omega
  rw [← hu] at eu
  obtain ⟨x, hx⟩ : ∃ z, z = a0 / 4 % 2 := ⟨_, rfl⟩
  have x0 : 0 ≤ x := by omega
  have x1 : x ≤ 1 := by omega
  rw [← hx] at ex
  obtain ⟨g, hg⟩ : ∃ z, z = a0 / 8 % 2 := ⟨_, rfl⟩
  have g0 : 0 ≤ g := by omega
  have g1 : g ≤ 1 := by omega
  rw [← hg] at eg
  obtain ⟨d, hd⟩ : ∃ z, z = a1 % 2 := ⟨_, rfl⟩
  have d0 : 0 ≤ d := by omega
  have d1 : d ≤ 1 := by omega
  rw [← hd] at ed
  obtain ⟨v, hv⟩ : ∃ z, z = a1 / 2 % 2 := ⟨_, rfl⟩
  have v0 : 0 ≤ v := by omega
  have v1 : v ≤ 1 := by omega
  rw [← hv] at ev
  obtain ⟨y, hy⟩ : ∃ z, z = a1 / 4 % 2 := ⟨_, rfl⟩
  have y0 : 0 ≤ y := by omega
  have y1 : y ≤ 1 := by omega
  rw [← hy] at ey
  obtain ⟨h, hh⟩ : ∃ z, z = a1 / 8 % 2 := ⟨_, rfl⟩
  have h0 : 0 ≤ h := by omega
  have h1 : h ≤ 1 := by omega
  rw [← hh] at eh
  clear hc hu hx hg hd hv hy hh w0 w1
  have hg : g = 1 ∨ g = 0 := by omega
  have hh : h = 1 ∨ h = 0 := by omega
  clear g0 g1 h0 h1
  rcases hg with rfl | rfl <;> rcases hh with rfl | rfl
  · have key := tab (c := c) (u := u) (x := 0) (d := d) (v := v) (y := 0) (g := true) (h := true) c0 c1 u0 u1 (by omega) (by omega) d0 d1 v0 v1 (by omega) (by omega) (by simp) (by simp)
    simp at key
    rcases Bool.eq_false_or_eq_true (betB ⟨5, 1 + d, v, 0, true⟩ ⟨5, 1 + c, u, 0, true⟩) with hw | hw
    · have k1 : 100 * (1 + c) + 10 * u + 5 < 100 * (1 + d) + 10 * v + 5 := by have := key.1 hw; omega
      have k2 : ¬ (100 * (1 + d) + 10 * v + 5 ≤ 100 * (1 + c) + 10 * u + 5) := by omega
      have k3 : decide (100 * (1 + d) + 10 * v + 5 ≤ 100 * (1 + c) + 10 * u + 5) = false := by simpa using k2
      have k4 : 100 * (1 + c) + 10 * u + 5 ≤ 100 * (1 + d) + 10 * v + 5 := by omega
      have k5 : ¬ (100 * (1 + d) + 10 * v ≤ 100 * (1 + c) + 10 * u) := by omega
      have k6 : decide (100 * (1 + d) + 10 * v ≤ 100 * (1 + c) + 10 * u) = false := by simpa using k5
      have k7 : 100 * (1 + c) + 10 * u ≤ 100 * (1 + d) + 10 * v := by omega
      clear key k1
      replace hw : Hid _ := hw
      go_enter Try.func6, Try.ntmps6
      go_wp2_with (first
        | (go_at_call 14; refine (awake4_any _).mono ?_; rintro e w9 ⟨rfl, bb9⟩)
        | (go_at_call 9; refine (iBest_b _ _ _ _ _ _ _ _ _ _ (by first | (simp [itB, byB, verB, cntB, plB]; done) | (simp [itB, byB, verB, cntB, plB]; omega)) (by first | (simp [itB, byB, verB, cntB, plB]; done) | (simp [itB, byB, verB, cntB, plB]; omega)) hw.out).mono ?_; rintro e w1 ⟨rfl, hb1⟩
           have bA1 := ((Box.new w9 _ _).alloc _).below hb1
           have bB1 := (Box.new1 w9 _ _ _).below hb1
           obtain ⟨p1, p2, p3⟩ := id bA1
           obtain ⟨q1, q2, q3⟩ := id bB1)
        | (go_at_call 11; refine (num_any _ _).mono ?_; rintro e w' ⟨rfl, hw'⟩; subst w'))
      go_ret
      exact ⟨rfl, (((bb9.onA _).onA _).on hb1).onA _⟩
    · have k1 : 100 * (1 + d) + 10 * v + 5 ≤ 100 * (1 + c) + 10 * u + 5 := by have := key.2 hw; omega
      have k2 : 100 * (1 + d) + 10 * v ≤ 100 * (1 + c) + 10 * u := by omega
      clear key
      replace hw : Hid _ := hw
      go_enter Try.func6, Try.ntmps6
      go_wp2_with (first
        | (go_at_call 14; refine (awake4_any _).mono ?_; rintro e w9 ⟨rfl, bb9⟩)
        | (go_at_call 9; refine (iBest_a _ _ _ _ _ _ _ _ _ _ (by first | (simp [itB, byB, verB, cntB, plB]; done) | (simp [itB, byB, verB, cntB, plB]; omega)) (by first | (simp [itB, byB, verB, cntB, plB]; done) | (simp [itB, byB, verB, cntB, plB]; omega)) hw.out).mono ?_; rintro e w1 ⟨rfl, hb1⟩
           have bA1 := ((Box.new w9 _ _).alloc _).below hb1
           have bB1 := (Box.new1 w9 _ _ _).below hb1
           obtain ⟨p1, p2, p3⟩ := id bA1
           obtain ⟨q1, q2, q3⟩ := id bB1)
        | (go_at_call 11; refine (num_any _ _).mono ?_; rintro e w' ⟨rfl, hw'⟩; subst w'))
      go_ret
      exact ⟨rfl, (((bb9.onA _).onA _).on hb1).onA _⟩
  · have key := tab (c := c) (u := u) (x := 0) (d := d) (v := v) (y := y) (g := true) (h := false) c0 c1 u0 u1 (by omega) (by omega) d0 d1 v0 v1 y0 y1 (by simp) (by simp)
    simp at key
    rcases Bool.eq_false_or_eq_true (betB ⟨5, 1 + d, v, y, false⟩ ⟨5, 1 + c, u, 0, true⟩) with hw | hw
    · have k1 : 100 * (1 + c) + 10 * u + 5 < 100 * (1 + d) + 10 * v + y := by have := key.1 hw; omega
      have k2 : ¬ (100 * (1 + d) + 10 * v + y ≤ 100 * (1 + c) + 10 * u + 5) := by omega
      have k3 : decide (100 * (1 + d) + 10 * v + y ≤ 100 * (1 + c) + 10 * u + 5) = false := by simpa using k2
      have k4 : 100 * (1 + c) + 10 * u + 5 ≤ 100 * (1 + d) + 10 * v + y := by omega
      clear key k1
      replace hw : Hid _ := hw
      go_enter Try.func6, Try.ntmps6
      go_wp2_with (first
        | (go_at_call 14; refine (awake4_any _).mono ?_; rintro e w9 ⟨rfl, bb9⟩)
        | (go_at_call 9; refine (iBest_b _ _ _ _ _ _ _ _ _ _ (by first | (simp [itB, byB, verB, cntB, plB]; done) | (simp [itB, byB, verB, cntB, plB]; omega)) (by first | (simp [itB, byB, verB, cntB, plB]; done) | (simp [itB, byB, verB, cntB, plB]; omega)) hw.out).mono ?_; rintro e w1 ⟨rfl, hb1⟩
           have bA1 := ((Box.new w9 _ _).alloc _).below hb1
           have bB1 := (Box.new1 w9 _ _ _).below hb1
           obtain ⟨p1, p2, p3⟩ := id bA1
           obtain ⟨q1, q2, q3⟩ := id bB1)
        | (go_at_call 11; refine (num_any _ _).mono ?_; rintro e w' ⟨rfl, hw'⟩; subst w'))
      go_ret
      exact ⟨rfl, (((bb9.onA _).onA _).on hb1).onA _⟩
    · have k1 : 100 * (1 + d) + 10 * v + y ≤ 100 * (1 + c) + 10 * u + 5 := by have := key.2 hw; omega
      clear key
      replace hw : Hid _ := hw
      go_enter Try.func6, Try.ntmps6
      go_wp2_with (first
        | (go_at_call 14; refine (awake4_any _).mono ?_; rintro e w9 ⟨rfl, bb9⟩)
        | (go_at_call 9; refine (iBest_a _ _ _ _ _ _ _ _ _ _ (by first | (simp [itB, byB, verB, cntB, plB]; done) | (simp [itB, byB, verB, cntB, plB]; omega)) (by first | (simp [itB, byB, verB, cntB, plB]; done) | (simp [itB, byB, verB, cntB, plB]; omega)) hw.out).mono ?_; rintro e w1 ⟨rfl, hb1⟩
           have bA1 := ((Box.new w9 _ _).alloc _).below hb1
           have bB1 := (Box.new1 w9 _ _ _).below hb1
           obtain ⟨p1, p2, p3⟩ := id bA1
           obtain ⟨q1, q2, q3⟩ := id bB1)
        | (go_at_call 11; refine (num_any _ _).mono ?_; rintro e w' ⟨rfl, hw'⟩; subst w'))
      go_ret
      exact ⟨rfl, (((bb9.onA _).onA _).on hb1).onA _⟩
  · have key := tab (c := c) (u := u) (x := x) (d := d) (v := v) (y := 0) (g := false) (h := true) c0 c1 u0 u1 x0 x1 d0 d1 v0 v1 (by omega) (by omega) (by simp) (by simp)
    simp at key
    rcases Bool.eq_false_or_eq_true (betB ⟨5, 1 + d, v, 0, true⟩ ⟨5, 1 + c, u, x, false⟩) with hw | hw
    · have k1 : 100 * (1 + c) + 10 * u + x < 100 * (1 + d) + 10 * v + 5 := by have := key.1 hw; omega
      have k2 : ¬ (100 * (1 + d) + 10 * v + 5 ≤ 100 * (1 + c) + 10 * u + x) := by omega
      have k3 : decide (100 * (1 + d) + 10 * v + 5 ≤ 100 * (1 + c) + 10 * u + x) = false := by simpa using k2
      have k4 : 100 * (1 + c) + 10 * u + x ≤ 100 * (1 + d) + 10 * v + 5 := by omega
      clear key k1
      replace hw : Hid _ := hw
      go_enter Try.func6, Try.ntmps6
      go_wp2_with (first
        | (go_at_call 14; refine (awake4_any _).mono ?_; rintro e w9 ⟨rfl, bb9⟩)
        | (go_at_call 9; refine (iBest_b _ _ _ _ _ _ _ _ _ _ (by first | (simp [itB, byB, verB, cntB, plB]; done) | (simp [itB, byB, verB, cntB, plB]; omega)) (by first | (simp [itB, byB, verB, cntB, plB]; done) | (simp [itB, byB, verB, cntB, plB]; omega)) hw.out).mono ?_; rintro e w1 ⟨rfl, hb1⟩
           have bA1 := ((Box.new w9 _ _).alloc _).below hb1
           have bB1 := (Box.new1 w9 _ _ _).below hb1
           obtain ⟨p1, p2, p3⟩ := id bA1
           obtain ⟨q1, q2, q3⟩ := id bB1)
        | (go_at_call 11; refine (num_any _ _).mono ?_; rintro e w' ⟨rfl, hw'⟩; subst w'))
      go_ret
      exact ⟨rfl, (((bb9.onA _).onA _).on hb1).onA _⟩
    · have k1 : 100 * (1 + d) + 10 * v + 5 ≤ 100 * (1 + c) + 10 * u + x := by have := key.2 hw; omega
      clear key
      replace hw : Hid _ := hw
      go_enter Try.func6, Try.ntmps6
      go_wp2_with (first
        | (go_at_call 14; refine (awake4_any _).mono ?_; rintro e w9 ⟨rfl, bb9⟩)
        | (go_at_call 9; refine (iBest_a _ _ _ _ _ _ _ _ _ _ (by first | (simp [itB, byB, verB, cntB, plB]; done) | (simp [itB, byB, verB, cntB, plB]; omega)) (by first | (simp [itB, byB, verB, cntB, plB]; done) | (simp [itB, byB, verB, cntB, plB]; omega)) hw.out).mono ?_; rintro e w1 ⟨rfl, hb1⟩
           have bA1 := ((Box.new w9 _ _).alloc _).below hb1
           have bB1 := (Box.new1 w9 _ _ _).below hb1
           obtain ⟨p1, p2, p3⟩ := id bA1
           obtain ⟨q1, q2, q3⟩ := id bB1)
        | (go_at_call 11; refine (num_any _ _).mono ?_; rintro e w' ⟨rfl, hw'⟩; subst w'))
      go_ret
      exact ⟨rfl, (((bb9.onA _).onA _).on hb1).onA _⟩
  · have key := tab (c := c) (u := u) (x := x) (d := d) (v := v) (y := y) (g := false) (h := false) c0 c1 u0 u1 x0 x1 d0 d1 v0 v1 y0 y1 (by simp) (by simp)
    simp at key
    rcases Bool.eq_false_or_eq_true (betB ⟨5, 1 + d, v, y, false⟩ ⟨5, 1 + c, u, x, false⟩) with hw | hw
    · have k1 : 100 * (1 + c) + 10 * u + x < 100 * (1 + d) + 10 * v + y := by have := key.1 hw; omega
      have k2 : ¬ (100 * (1 + d) + 10 * v + y ≤ 100 * (1 + c) + 10 * u + x) := by omega
      have k3 : decide (100 * (1 + d) + 10 * v + y ≤ 100 * (1 + c) + 10 * u + x) = false := by simpa using k2
      have k4 : 100 * (1 + c) + 10 * u + x ≤ 100 * (1 + d) + 10 * v + y := by omega
      clear key k1
      replace hw : Hid _ := hw
      go_enter Try.func6, Try.ntmps6
      go_wp2_with (first
        | (go_at_call 14; refine (awake4_any _).mono ?_; rintro e w9 ⟨rfl, bb9⟩)
        | (go_at_call 9; refine (iBest_b _ _ _ _ _ _ _ _ _ _ (by first | (simp [itB, byB, verB, cntB, plB]; done) | (simp [itB, byB, verB, cntB, plB]; omega)) (by first | (simp [itB, byB, verB, cntB, plB]; done) | (simp [itB, byB, verB, cntB, plB]; omega)) hw.out).mono ?_; rintro e w1 ⟨rfl, hb1⟩
           have bA1 := ((Box.new w9 _ _).alloc _).below hb1
           have bB1 := (Box.new1 w9 _ _ _).below hb1
           obtain ⟨p1, p2, p3⟩ := id bA1
           obtain ⟨q1, q2, q3⟩ := id bB1)
        | (go_at_call 11; refine (num_any _ _).mono ?_; rintro e w' ⟨rfl, hw'⟩; subst w'))
      go_ret
      exact ⟨rfl, (((bb9.onA _).onA _).on hb1).onA _⟩
    · have k1 : 100 * (1 + d) + 10 * v + y ≤ 100 * (1 + c) + 10 * u + x := by have := key.2 hw; omega
      clear key
      replace hw : Hid _ := hw
      go_enter Try.func6, Try.ntmps6
      go_wp2_with (first
        | (go_at_call 14; refine (awake4_any _).mono ?_; rintro e w9 ⟨rfl, bb9⟩)
        | (go_at_call 9; refine (iBest_a _ _ _ _ _ _ _ _ _ _ (by first | (simp [itB, byB, verB, cntB, plB]; done) | (simp [itB, byB, verB, cntB, plB]; omega)) (by first | (simp [itB, byB, verB, cntB, plB]; done) | (simp [itB, byB, verB, cntB, plB]; omega)) hw.out).mono ?_; rintro e w1 ⟨rfl, hb1⟩
           have bA1 := ((Box.new w9 _ _).alloc _).below hb1
           have bB1 := (Box.new1 w9 _ _ _).below hb1
           obtain ⟨p1, p2, p3⟩ := id bA1
           obtain ⟨q1, q2, q3⟩ := id bB1)
        | (go_at_call 11; refine (num_any _ _).mono ?_; rintro e w' ⟨rfl, hw'⟩; subst w'))
      go_ret
      exact ⟨rfl, (((bb9.onA _).onA _).on hb1).onA _⟩

/-! ### The row's step -/
set_option maxRecDepth 100000 in
theorem lifted (os : Os) (started : os.Started) (H : Type) (enc : TypeId × Value → H) :
    ReturnsInHanded {} Try.checked os 6 .any (Rows.itemTableSpec.pre6 enc Try.prog Try.f6 Rows.itemTableRow.domain false) (Rows.itemTableSpec.post enc Try.prog Try.f6 false true false false) := by
  refine returnsInHanded_of_change_sized (C := Try.checked) ownK started (by kernel_rfl) Try.func6
    (ChangeSpec.witness6 (enc := enc) (C := Try.checked) false ⟨#[], #[.int .i64 0, .int .i64 0], []⟩ 8 (by kernel_rfl) (by kernel_rfl) (by kernel_rfl) (by kernel_rfl)) ?_
  intro W base args ds gs before hval0 hW hcnd hsz0 _
  have hsz : (DataW.weightsEach Try.prog (Try.f6.params.toList ++ Rows.itemTableSpec.plain.varTypes Try.prog) (ds ++ gs)).all (· ≤ reachBytes) = true := hsz0
  have hval : ∀ (j : Nat) t v, Try.f6.params[j]? = some t → args[j]? = some v → Value.okWide Try.prog W .any base t v := hval0
  have hW' := hW
  obtain ⟨p, q, hA0, hV, rfl, hfz, hnd⟩ := hW
  have hA : DataW.TrodAll enc Try.prog W 0 (fun _ => true) true Try.f6.params.toList args.toList ds p := hA0
  rw [Try.params6] at hA hval hsz
  obtain ⟨v0, vs0, d0, ds0, p0, q0, hargs, rfl, rfl, h0, r0⟩ := trodAll_cons hA
  obtain ⟨v1, vs1, d1, ds1, p1, q1, rfl, rfl, rfl, h1, r1⟩ := trodAll_cons r0
  obtain ⟨rfl, rfl, rfl⟩ := trodAll_nil r1
  obtain rfl : args = #[v0, v1] := by cases args; simp_all
  obtain ⟨rfl, rfl⟩ := trodVars_none hV
  clear r0 r1
  have k0 := h0
  have lt0 : ∀ x ∈ p0, x.block < W.heap.size := by obtain ⟨m, hm⟩ := k0; exact DataW.trod_lt m _ _ _ hm
  have k1 := h1
  have lt1 : ∀ x ∈ p1, x.block < W.heap.size := by obtain ⟨m, hm⟩ := k1; exact DataW.trod_lt m _ _ _ hm
  obtain ⟨a0, rfl, rfl, rfl, w0⟩ := open_int Try.underlying3 (hval 0 3 v0 rfl rfl) h0
  obtain ⟨a1, rfl, rfl, rfl, w1⟩ := open_int Try.underlying3 (hval 1 3 v1 rfl rfl) h1
  clear hA0 hval0
  refine (walk a0 a1 W w0 w1).mono fun e W' ⟨he, bel⟩ => ?_
  subst he
  exact ⟨_, rfl, _, _, _, [], _, [], hW', trodAll_mk1 (shut_bool Try.underlying4 _), (trodAll_cons_mk (Below.trod laidOut (by kernel_rfl) (of_decide_eq_true (by kernel_rfl)) k0 bel lt0) (trodAll_cons_mk (Below.trod laidOut (by kernel_rfl) (of_decide_eq_true (by kernel_rfl)) k1 bel lt1) trodAll_mk0)), rfl, bel.frame _, fun h => by cases h⟩

theorem over : Rows.itemTableRow.holds Try.pinned (OpenSpec.ofChange Rows.itemTableSpec) :=
  OpenClaim.holds_of_wide 6 Try.f6 rfl rfl rfl rfl rfl rfl rfl ⟨rfl, rfl, rfl, rfl, rfl⟩ rfl rfl rfl rfl rfl (by kernel_rfl) Try.func6 (by kernel_rfl)
    (of_decide_eq_true (by kernel_rfl)) (by unfold Func.isWrapper; first | (rw [if_pos (by decide +kernel)]; kernel_rfl) | (rw [if_neg (by decide +kernel)]; exact ⟨rfl, rfl⟩))
    (fun os started H enc _ => lifted os started H enc)

end Go.Proofs.Ytogehhdlhdolkaa.itemTable

namespace Go.Proofs.Ytogehhdlhdolkaa
/-- The statement, by its short name. -/
theorem itemTable_holds : Rows.ItemTableSaid := itemTable.over
#print axioms itemTable_holds
end Go.Proofs.Ytogehhdlhdolkaa
