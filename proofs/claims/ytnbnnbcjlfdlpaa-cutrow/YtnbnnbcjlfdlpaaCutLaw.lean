
/-
  What the statements about cuts ask first: that the program answers at some places at all.
-/
import Derived.Test.YtnbnnbcjlfdlpaaCutD
import Derived.Test.YtnbnnbcjlfdlpaaNum
namespace Go.Proofs.Ytnbnnbcjlfdlpaa
open Go.ChangeShapes Go.WideShapes Go.ChangeAt Go.RowKit

set_option maxHeartbeats 4000000 in
theorem awake15_any (w : World) :
    Calls Try.prog 20 #[] w fun e w' => e = .returned (.bool true) ∧ Below w.heap.size w w' := by
  have p1 := trivial
  have q1 := trivial
  have t1 := trivial
  have B0 := Box.new w #[.int .i64 3, .int .i64 9] 40
  have R0 := Box.rowU (n := 1) [⟨3, 9⟩] B0 rfl rfl (by decide)
  have z0 : w.heap.size + 1 ≤ _ := B0.1
  clear B0
  go_enter Try.func20, Try.ntmps20
  go_wp2_with (first
    | (go_at_call 8; clear p1; refine (uWith_at (ys := [⟨2, 5⟩, ⟨3, 9⟩]) (err := 0) R0 z0 _ _ (by decide +kernel) (by decide +kernel)).mono ?_; rintro e w1 ⟨o1, rfl, r1, h1⟩
       have h0 := ((Below.refl _ w).onA _).on h1
       clear R0 z0 h1)
    | (go_at_call 10; refine (uWithout_at (ys := [⟨2, 5⟩]) (err := 0) (r1.wide (Nat.zero_le _) (Nat.le_refl _)) (Nat.le_refl _) _ _ (by decide +kernel) (by decide +kernel)).mono ?_; rintro e w2 ⟨o2, rfl, r2, h2⟩
       have c2 := toHid (r1.below h2 (Nat.le_refl _))
       have z2 := h2.size
       clear r1)
    | (go_at_call 12; clear q1; refine (uIs_at (r := true) (err := 0) c2.out z2 _ _ (by decide +kernel) (by decide +kernel)).mono ?_; rintro e w3 ⟨rfl, h3⟩
       have c3 := toHid (c2.out.below h3 z2)
       have d3 := toHid (r2.below h3 (Nat.le_refl _))
       have z3 := Nat.le_trans z2 h3.size
       have y3 := h3.size
       clear r2 c2)
    | (go_at_call 8; refine (uWith_at (ys := []) (err := 1500) c3.out z3 _ _ (by decide +kernel) (by decide +kernel)).mono ?_; rintro e w4 ⟨o4, rfl, r4, h4⟩
       clear r4
       have c4 := toHid (c3.out.below h4 z3)
       have d4 := toHid (d3.out.below h4 y3)
       have z4 := Nat.le_trans z3 h4.size
       have y4 := Nat.le_trans y3 h4.size
       clear c3 d3)
    | (go_at_call 12
       have B3 := Box.new w4 #[.int .i64 9, .int .i64 3] 40
       refine (uIs_at (r := false) (err := 1500) (Box.rowU (n := 1) [⟨9, 3⟩] B3 rfl rfl (by decide)) B3.1 _ _ (by decide +kernel) (by decide +kernel)).mono ?_; rintro e w5 ⟨rfl, h5⟩
       clear B3
       have k5 := ((Below.refl _ w4).onA _).on h5
       have z5 := k5.size)
    | (go_at_call 14; clear t1
       have BA := Box.new w5 #[.int .i64 2, .int .i64 5, .int .i64 3, .int .i64 9] 40
       refine (sameU_at (c4.out.below (k5.onA _) z4) (Box.rowU (n := 2) [⟨2, 5⟩, ⟨3, 9⟩] BA rfl rfl (by decide)) (b := true) (by decide +kernel)).mono ?_; rintro e w6 ⟨rfl, h6⟩
       clear BA
       have k6 := (k5.onA _).on h6
       have z6 := k6.size)
    | (go_at_call 14
       have BA := Box.new w6 #[.int .i64 2, .int .i64 5] 40
       refine (sameU_at (d4.out.below (k6.onA _) y4) (Box.rowU (n := 1) [⟨2, 5⟩] BA rfl rfl (by decide)) (b := true) (by decide +kernel)).mono ?_; rintro e w7 ⟨rfl, h7⟩
       clear BA
       have k7 := (k6.onA _).on h7
       have z7 := k7.size)
    | (go_at_call 16; refine (uMay_is (r := true) (c4.out.below k7 z4) (Nat.le_trans z4 z7) (by decide +kernel)).mono ?_; rintro e w8 ⟨rfl, h8⟩)
    | (go_at_call 15; refine (num_any _ _).mono ?_; rintro e w' ⟨rfl, hw'⟩; subst w'))
  go_ret
  exact ⟨rfl, (((h0.on h2).on h3).on h4).on (k7.on h8)⟩

end Go.Proofs.Ytnbnnbcjlfdlpaa
