
/-
  What the statements about bytes ask first: that the program answers at some messages and texts at all.
-/
import Derived.Test.YtkalamplagopnaaWireF
import Derived.Test.YtkalamplagopnaaNum
namespace Go.Proofs.Ytkalamplagopnaa
open Go.ChangeShapes Go.WideShapes Go.ChangeAt Go.RowKit

theorem aw1 (w : World) : Calls Try.prog 9 #[.agg #[.int .i64 3, .int .i64 1, .int .i64 2, .slice none 0 0, .int .i64 5, .int .i64 5, .int .i64 258, .int .i64 9, .int .i64 3, .bool false, .bool true]] w fun e w' =>
    e = .returned (.tuple #[.string ⟨#[3, 1, 2, 5, 1, 5, 2, 1, 9, 3, 0, 20]⟩, .int .i64 0]) ∧ Below w.heap.size w w' := by
  have h := wPut_any (RowI.nil0 (lo := 0) (hi := 0) (w := w)) (Nat.zero_le _) 3 1 2 5 5 258 9 3 false true
  rw [show putL ⟨3, 1, 2, [], 5, ⟨5, 258, 9, 3, false⟩, true⟩ = [3, 1, 2, 5, 1, 5, 2, 1, 9, 3, 0, 20] by decide +kernel, show putE ⟨3, 1, 2, [], 5, ⟨5, 258, 9, 3, false⟩, true⟩ = 0 by decide +kernel, show sb [3, 1, 2, 5, 1, 5, 2, 1, 9, 3, 0, 20] = ⟨#[3, 1, 2, 5, 1, 5, 2, 1, 9, 3, 0, 20]⟩ by rfl] at h
  exact h
theorem aw2 (w : World) : Calls Try.prog 11 #[.string ⟨#[3, 1, 2, 5, 1, 5, 2, 1, 9, 3, 0, 20]⟩] w fun e w' => ∃ p c,
    e = .returned (.tuple #[.agg #[.int .i64 3, .int .i64 1, .int .i64 2, .slice p 0 c, .int .i64 5, .int .i64 5, .int .i64 258, .int .i64 9, .int .i64 3, .bool false, .bool true], .int .i64 0]) ∧ RowI w.heap.size w'.heap.size w' (.slice p 0 c) [] ∧ Below w.heap.size w w' := by
  have h := wGet_any (L := [3, 1, 2, 5, 1, 5, 2, 1, 9, 3, 0, 20]) (by intro x hx; simp at hx; omega) (by decide) w
  rw [show getM [3, 1, 2, 5, 1, 5, 2, 1, 9, 3, 0, 20] = ⟨3, 1, 2, [], 5, ⟨5, 258, 9, 3, false⟩, true⟩ by decide +kernel, show getE [3, 1, 2, 5, 1, 5, 2, 1, 9, 3, 0, 20] = 0 by decide +kernel, show sb [3, 1, 2, 5, 1, 5, 2, 1, 9, 3, 0, 20] = ⟨#[3, 1, 2, 5, 1, 5, 2, 1, 9, 3, 0, 20]⟩ by rfl] at h
  exact h
theorem aw3 {lo hi : Nat} {w : World} {v : Value} (hv : RowI lo hi w v [7, 3]) (hh : hi ≤ w.heap.size) : Calls Try.prog 9 #[.agg #[.int .i64 0, .int .i64 1, .int .i64 2, v, .int .i64 0, .int .i64 0, .int .i64 0, .int .i64 0, .int .i64 0, .bool false, .bool false]] w fun e w' =>
    e = .returned (.tuple #[.string ⟨#[0, 1, 2, 2, 7, 3]⟩, .int .i64 0]) ∧ Below w.heap.size w w' := by
  have h := wPut_any hv hh 0 1 2 0 0 0 0 0 false false
  rw [show putL ⟨0, 1, 2, [7, 3], 0, ⟨0, 0, 0, 0, false⟩, false⟩ = [0, 1, 2, 2, 7, 3] by decide +kernel, show putE ⟨0, 1, 2, [7, 3], 0, ⟨0, 0, 0, 0, false⟩, false⟩ = 0 by decide +kernel, show sb [0, 1, 2, 2, 7, 3] = ⟨#[0, 1, 2, 2, 7, 3]⟩ by rfl] at h
  exact h
theorem aw4 (w : World) : Calls Try.prog 9 #[.agg #[.int .i64 0, .int .i64 0, .int .i64 0, .slice none 0 0, .int .i64 0, .int .i64 0, .int .i64 0, .int .i64 0, .int .i64 0, .bool false, .bool false]] w fun e w' =>
    e = .returned (.tuple #[.string ⟨#[]⟩, .int .i64 1300]) ∧ Below w.heap.size w w' := by
  have h := wPut_any (RowI.nil0 (lo := 0) (hi := 0) (w := w)) (Nat.zero_le _) 0 0 0 0 0 0 0 0 false false
  rw [show putL ⟨0, 0, 0, [], 0, ⟨0, 0, 0, 0, false⟩, false⟩ = [] by decide +kernel, show putE ⟨0, 0, 0, [], 0, ⟨0, 0, 0, 0, false⟩, false⟩ = 1300 by decide +kernel, show sb [] = ⟨#[]⟩ by rfl] at h
  exact h
theorem aw5 (w : World) : Calls Try.prog 11 #[.string ⟨#[]⟩] w fun e w' => ∃ p c,
    e = .returned (.tuple #[.agg #[.int .i64 0, .int .i64 0, .int .i64 0, .slice p 0 c, .int .i64 0, .int .i64 0, .int .i64 0, .int .i64 0, .int .i64 0, .bool false, .bool false], .int .i64 1300]) ∧ RowI w.heap.size w'.heap.size w' (.slice p 0 c) [] ∧ Below w.heap.size w w' := by
  have h := wGet_any (L := []) (by intro x hx; cases hx) (by decide) w
  rw [show getM [] = zeroM by decide +kernel, show getE [] = 1300 by decide +kernel, show sb [] = ⟨#[]⟩ by rfl] at h
  exact h

set_option maxHeartbeats 4000000 in
theorem awake13_any (w : World) :
    Calls Try.prog 16 #[] w fun e w' => e = .returned (.bool true) ∧ Below w.heap.size w w' := by
  have B1 := toHid (Box.new w #[.int .i64 3, .int .i64 1, .int .i64 2, .slice none 0 0, .int .i64 5, .int .i64 5, .int .i64 258, .int .i64 9, .int .i64 3, .bool false, .bool true] 28)
  have t1 := trivial
  have t2 := trivial
  have t3 := trivial
  have t4 := trivial
  go_enter Try.func16, Try.ntmps16
  go_wp2_with (first
    | (go_at_call 9; clear t1; refine (aw1 _).mono ?_; rintro e w1 ⟨rfl, h1⟩
       have hk := toHid (((Below.refl _ w).onA _).on h1)
       replace B1 := toHid (B1.out.below h1)
       clear h1)
    | (go_at_call 11; clear t2; refine (aw2 _).mono ?_; rintro e w2 ⟨p, c, rfl, R2, h2⟩
       replace hk := toHid ((hk.out.on h2).onA (.cells #[.int .i64 3, .int .i64 1, .int .i64 2, .slice p 0 c, .int .i64 5, .int .i64 5, .int .i64 258, .int .i64 9, .int .i64 3, .bool false, .bool true] 28))
       replace B1 := toHid ((B1.out.below h2).alloc (.cells #[.int .i64 3, .int .i64 1, .int .i64 2, .slice p 0 c, .int .i64 5, .int .i64 5, .int .i64 258, .int .i64 9, .int .i64 3, .bool false, .bool true] 28))
       have B2 := toHid (Box.new w2 #[.int .i64 3, .int .i64 1, .int .i64 2, .slice p 0 c, .int .i64 5, .int .i64 5, .int .i64 258, .int .i64 9, .int .i64 3, .bool false, .bool true] 28)
       replace R2 := toHid (R2.alloc (.cells #[.int .i64 3, .int .i64 1, .int .i64 2, .slice p 0 c, .int .i64 5, .int .i64 5, .int .i64 258, .int .i64 9, .int .i64 3, .bool false, .bool true] 28))
       have z2 : w2.heap.size ≤ (w2.alloc (.cells #[.int .i64 3, .int .i64 1, .int .i64 2, .slice p 0 c, .int .i64 5, .int .i64 5, .int .i64 258, .int .i64 9, .int .i64 3, .bool false, .bool true] 28)).heap.size := by simp
       replace z2 := toHid z2
       clear h2)
    | (go_at_call 9; clear t3
       refine (aw3 (Box.rowI (n := 2) [7, 3] (Box.newAt #[.int .i64 7, .int .i64 3] 3 (by simp)) rfl rfl (by decide)) (by simp)).mono ?_; rintro e w3 ⟨rfl, h3⟩
       replace hk := toHid ((hk.out.onA _).on h3)
       replace B1 := toHid ((B1.out.alloc _).below h3)
       replace B2 := toHid ((B2.out.alloc _).below h3)
       replace R2 := toHid ((R2.out.alloc _).below h3 (by simp; omega))
       clear h3)
    | (go_at_call 9; clear t4; refine (aw4 _).mono ?_; rintro e w4 ⟨rfl, h4⟩
       have z3 := B2.out.1
       replace hk := toHid (hk.out.on h4)
       replace B1 := toHid (B1.out.below h4)
       replace B2 := toHid (B2.out.below h4)
       replace R2 := toHid (R2.out.below h4 (by omega))
       clear h4 z3)
    | (go_at_call 11; refine (aw5 _).mono ?_; rintro e w5 ⟨p5, c5, rfl, -, h5⟩
       have z3 := B2.out.1
       replace hk := toHid ((hk.out.on h5).onA (.cells #[.int .i64 0, .int .i64 0, .int .i64 0, .slice p5 0 c5, .int .i64 0, .int .i64 0, .int .i64 0, .int .i64 0, .int .i64 0, .bool false, .bool false] 28))
       replace B1 := (B1.out.below h5).alloc (.cells #[.int .i64 0, .int .i64 0, .int .i64 0, .slice p5 0 c5, .int .i64 0, .int .i64 0, .int .i64 0, .int .i64 0, .int .i64 0, .bool false, .bool false] 28)
       replace B2 := (B2.out.below h5).alloc (.cells #[.int .i64 0, .int .i64 0, .int .i64 0, .slice p5 0 c5, .int .i64 0, .int .i64 0, .int .i64 0, .int .i64 0, .int .i64 0, .bool false, .bool false] 28)
       replace R2 := toHid ((R2.out.below h5 (by omega)).alloc (.cells #[.int .i64 0, .int .i64 0, .int .i64 0, .slice p5 0 c5, .int .i64 0, .int .i64 0, .int .i64 0, .int .i64 0, .int .i64 0, .bool false, .bool false] 28))
       obtain ⟨a1, a2, a3⟩ := B1
       obtain ⟨b1, b2, b3⟩ := B2
       clear h5 z3)
    | (go_at_call 13; refine (num_any _ _).mono ?_; rintro e w9 ⟨rfl, hw9⟩; subst w9)
    | (go_at_call 14; refine (sameMsg_same (is := []) R2.out (RowI.nil0 (lo := 0) (hi := 0)) _ _ _ _ _ _ _ _ _ _).mono ?_; rintro e w6 ⟨rfl, h6⟩
       replace hk := toHid (hk.out.on h6)
       clear a1 a2 a3 b1 b2 b3 h6))
  go_ret
  exact ⟨rfl, hk.out⟩

end Go.Proofs.Ytkalamplagopnaa
