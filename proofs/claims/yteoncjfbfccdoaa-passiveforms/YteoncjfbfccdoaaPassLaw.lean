
/-
  What the statements about the lost ones ask first: that the program answers at some places at all.
-/
import Derived.Test.YteoncjfbfccdoaaPassB
import Derived.Test.YteoncjfbfccdoaaNum
namespace Go.Proofs.Yteoncjfbfccdoaa
open Go.ChangeShapes Go.WideShapes Go.ChangeAt Go.RowKit

set_option maxHeartbeats 4000000 in
theorem awake8_any (w : World) :
    Calls Try.prog 18 #[] w fun e w' => e = .returned (.bool true) ∧ Below w.heap.size w w' := by
  have p1 := trivial
  have q1 := trivial
  have t1 := trivial
  have B0 := Box.new w #[.int .i64 3, .int .i64 9] 3
  have R0 := Box.rowI (n := 2) [3, 9] B0 rfl rfl (by decide)
  have z0 : w.heap.size + 1 ≤ _ := B0.1
  clear B0
  go_enter Try.func18, Try.ntmps18
  go_wp2_with (first
    | (go_at_call 8; clear p1; refine (qWith_at (ys := [3, 5, 9]) (err := 0) R0 z0 _ (by decide +kernel) (by decide +kernel)).mono ?_; rintro e w1 ⟨o1, rfl, r1, h1⟩
       clear R0 z0)
    | (go_at_call 10; clear q1; refine (qWithout_at (ys := [3, 5]) (err := 0) r1 _ (by decide +kernel) (by decide +kernel)).mono ?_; rintro e w2 ⟨o2, rfl, r2, h2⟩
       have c1 := toHid (r1.below h2 (Nat.le_refl _))
       have z2 := h2.size
       clear r1)
    | (go_at_call 8
       have B3 := Box.new w2 #[.int .i64 9, .int .i64 3] 3
       refine (qWith_at (ys := []) (err := 800) (Box.rowI (n := 2) [9, 3] B3 rfl rfl (by decide)) B3.1 _ (by decide +kernel) (by decide +kernel)).mono ?_; rintro e w3 ⟨o3, rfl, r3, h3⟩
       clear B3 r3
       have k3 := ((Below.refl _ w2).onA _).on h3
       have z3 := k3.size)
    | (go_at_call 10; refine (qWithout_at (ys := []) (err := 800) (RowI.nil0 (lo := 0) (hi := 0)) _ (by decide +kernel) (by decide +kernel)).mono ?_; rintro e w4 ⟨o4, rfl, r4, h4⟩
       clear r4
       have k4 := k3.on h4
       have z4 := k4.size)
    | (go_at_call 12; clear t1
       have BA := Box.new w4 #[.int .i64 3, .int .i64 5, .int .i64 9] 3
       refine (sameI_at (c1.out.below (k4.onA _) z2) (Box.rowI (n := 3) [3, 5, 9] BA rfl rfl (by decide)) (b := true) (by decide +kernel)).mono ?_; rintro e w5 ⟨rfl, h5⟩
       clear BA
       have k5 := (k4.onA _).on h5
       have z5 := k5.size)
    | (go_at_call 12
       have BA := Box.new w5 #[.int .i64 3, .int .i64 5] 3
       refine (sameI_at (r2.below (k5.onA _) (Nat.le_refl _)) (Box.rowI (n := 2) [3, 5] BA rfl rfl (by decide)) (b := true) (by decide +kernel)).mono ?_; rintro e w6 ⟨rfl, h6⟩
       clear BA
       have k6 := (k5.onA _).on h6)
    | (go_at_call 14; refine (qMay_is (r := true) (c1.out.below k6 z2) (by decide +kernel)).mono ?_; rintro e w7 ⟨rfl, h7⟩)
    | (go_at_call 13; refine (num_any _ _).mono ?_; rintro e w' ⟨rfl, hw'⟩; subst w'))
  go_ret
  exact ⟨rfl, ((((Below.refl _ w).onA _).on h1).on h2).on (k6.on h7)⟩

end Go.Proofs.Yteoncjfbfccdoaa
