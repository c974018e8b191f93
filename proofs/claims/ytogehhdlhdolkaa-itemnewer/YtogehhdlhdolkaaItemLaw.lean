/-
  What the statements about items ask first: that the program answers at some items at all.
-/
import Derived.Test.YtogehhdlhdolkaaItem
import Derived.Test.YtogehhdlhdolkaaBox
namespace Go.Proofs.Ytogehhdlhdolkaa
open Go.ChangeShapes Go.WideShapes Go.ChangeAt Go.RowKit

theorem and7 (n : Int) : bits .and .i64 n 7 = n % 8 := by
  have h1 : (BitVec.ofInt 64 7).toNat = 2 ^ 3 - 1 := by decide
  have key : (BitVec.ofInt 64 n &&& BitVec.ofInt 64 7).toNat = (n % ((2 ^ 64 : Nat) : Int)).toNat % 2 ^ 3 := by
    rw [BitVec.toNat_and, BitVec.toNat_ofInt, h1, Nat.and_two_pow_sub_one_eq_mod]
  show IntKind.i64.wrap ((BitVec.ofInt 64 n &&& BitVec.ofInt 64 7).toNat : Nat) = n % 8
  rw [key, IntKind.wrap_i64]
  omega
theorem and254 (n : Int) : 0 ≤ bits .and .i64 n 254 ∧ bits .and .i64 n 254 ≤ 254 := by
  have h1 : (BitVec.ofInt 64 254).toNat = 254 := by decide
  have key : (BitVec.ofInt 64 n &&& BitVec.ofInt 64 254).toNat ≤ 254 := by
    rw [BitVec.toNat_and, h1]
    exact Nat.and_le_right
  show 0 ≤ IntKind.i64.wrap ((BitVec.ofInt 64 n &&& BitVec.ofInt 64 254).toNat : Nat) ∧ IntKind.i64.wrap ((BitVec.ofInt 64 n &&& BitVec.ofInt 64 254).toNat : Nat) ≤ 254
  rw [IntKind.wrap_i64]
  omega

theorem okB_l {a b : It} (h : itB a = false) : okB a b = false := by simp [okB, h]
theorem okB_r {a b : It} (h : itB b = false) : okB a b = false := by simp [okB, h]
theorem iMay_yes (k c u x : Int) (g : Bool) (w : World) (h : itB ⟨k, c, u, x, g⟩ = true) :
    Calls Try.prog 12 #[.agg #[.int .i64 k, .int .i64 c, .int .i64 u, .int .i64 x, .bool g]] w fun e w' => e = .returned (.bool true) ∧ Below w.heap.size w w' := h ▸ iMay_any k c u x g w
theorem iMay_no (k c u x : Int) (g : Bool) (w : World) (h : itB ⟨k, c, u, x, g⟩ = false) :
    Calls Try.prog 12 #[.agg #[.int .i64 k, .int .i64 c, .int .i64 u, .int .i64 x, .bool g]] w fun e w' => e = .returned (.bool false) ∧ Below w.heap.size w w' := h ▸ iMay_any k c u x g w

/-- The number that is reckoned by hand from a small item rises as the item gets better. -/
theorem tab {c u x d v y : Int} {g h : Bool} (c0 : 0 ≤ c) (c1 : c ≤ 1) (u0 : 0 ≤ u) (u1 : u ≤ 1) (x0 : 0 ≤ x) (x1 : x ≤ 1) (d0 : 0 ≤ d) (d1 : d ≤ 1) (v0 : 0 ≤ v) (v1 : v ≤ 1) (y0 : 0 ≤ y) (y1 : y ≤ 1) (gz : g = true → x = 0) (hz : h = true → y = 0) :
    (betB ⟨5, 1 + d, v, y, h⟩ ⟨5, 1 + c, u, x, g⟩ = true → 100 * (1 + c) + 10 * u + x + (if g = true then 5 else 0) < 100 * (1 + d) + 10 * v + y + (if h = true then 5 else 0)) ∧
    (betB ⟨5, 1 + d, v, y, h⟩ ⟨5, 1 + c, u, x, g⟩ = false → 100 * (1 + d) + 10 * v + y + (if h = true then 5 else 0) ≤ 100 * (1 + c) + 10 * u + x + (if g = true then 5 else 0)) := by
  by_cases e : d = c ∧ v = u
  · obtain ⟨rfl, rfl⟩ := e
    cases g <;> cases h <;> simp [betB, oneB] at gz hz ⊢ <;> omega
  · have en : ¬ (1 + d = 1 + c ∧ v = u) := by omega
    simp only [betB]
    rw [if_neg en]
    simp only [newB, verB, cntB, plB, gtB, Bool.and_eq_true, Bool.or_eq_true, Bool.and_eq_false_iff, Bool.or_eq_false_iff, decide_eq_true_eq, decide_eq_false_iff_not]
    cases g <;> cases h <;> simp at gz hz ⊢ <;> omega

set_option maxHeartbeats 1000000 in
theorem awake4_any (w : World) :
    Calls Try.prog 14 #[] w fun e w' => e = .returned (.bool true) ∧ Below w.heap.size w w' := by
  have t1 := trivial
  have t2 := trivial
  have t3 := trivial
  have t4 := trivial
  go_enter Try.func14, Try.ntmps14
  go_wp2_with (first
    | (go_at_call 9; clear t1; refine (iBest_b _ _ _ _ _ _ _ _ _ _ (by decide +kernel) (by decide +kernel) (by decide +kernel)).mono ?_; rintro e w1 ⟨rfl, hb1⟩
       have bA1 := ((Box.new w _ _).alloc _).below hb1
       have bB1 := (Box.new1 w _ _ _).below hb1
       obtain ⟨a1, a2, a3⟩ := id bA1
       obtain ⟨b1, b2, b3⟩ := id bB1)
    | (go_at_call 9; clear t2; refine (iBest_b _ _ _ _ _ _ _ _ _ _ (by decide +kernel) (by decide +kernel) (by decide +kernel)).mono ?_; rintro e w2 ⟨rfl, hb2⟩
       have bA2 := (bA1.alloc _).below hb2
       have bB2 := (bB1.alloc _).below hb2
       have bX2 := (Box.new w1 _ _).below hb2
       clear a1 a2 a3 b1 b2 b3
       obtain ⟨a1, a2, a3⟩ := id bA2
       obtain ⟨b1, b2, b3⟩ := id bB2
       obtain ⟨x1, x2, x3⟩ := id bX2)
    | (go_at_call 9; clear t3; refine (iBest_no _ _ _ _ _ _ _ _ _ _ _ (by decide +kernel)).mono ?_; rintro e w3 ⟨rfl, hb3⟩
       have bA3 := (bA2.alloc _).below hb3
       have bB3 := (bB2.alloc _).below hb3
       have bX3 := (bX2.alloc _).below hb3
       have bY3 := (Box.new w2 _ _).below hb3
       clear a1 a2 a3 b1 b2 b3 x1 x2 x3
       obtain ⟨a1, a2, a3⟩ := id bA3
       obtain ⟨b1, b2, b3⟩ := id bB3
       obtain ⟨x1, x2, x3⟩ := id bX3
       obtain ⟨y1, y2, y3⟩ := id bY3)
    | (go_at_call 12; clear t4; refine (iMay_yes _ _ _ _ _ _ (by decide +kernel)).mono ?_; rintro e w4 ⟨rfl, hb4⟩
       have bA4 := (bA3.alloc _).below hb4
       clear a1 a2 a3 b1 b2 b3 x1 x2 x3 y1 y2 y3
       obtain ⟨a1, a2, a3⟩ := id bA4)
    | (go_at_call 12; refine (iMay_no _ _ _ _ _ _ (by decide +kernel)).mono ?_; rintro e w5 ⟨rfl, hb5⟩)
    | (go_at_call 11; refine (num_any _ _).mono ?_; rintro e w' ⟨rfl, hw'⟩; subst w'))
  go_ret
  exact ⟨rfl, ((((((((Below.refl _ w).onA _).onA _).on hb1).onA _).on hb2).onA _).on hb3).onA _ |>.on hb4 |>.on hb5⟩

end Go.Proofs.Ytogehhdlhdolkaa
