
/-
  The two lists of a view whose own variable lies in a block of its own: what stays of them when that variable is written. And a little plain mathematics of package hello's way.
-/
import Derived.Test.YtghamcomjfholaaAgeMath
import Derived.Test.YtghamcomjfholaaItemRow
import Derived.Test.YtghamcomjfholaaRingRef
import Derived.Test.YtghamcomjfholaaRowBox
import Derived.Test.YtghamcomjfholaaIntRow
import Derived.Test.YtghamcomjfholaaRowMath
namespace Go.Proofs.Ytghamcomjfholaa
open Go.ChangeShapes Go.WideShapes Go.ChangeAt Go.RowKit

/-- As VwNew, and neither list lies in block b. -/
structure VwBut (base b : Nat) (w : World) (p q : Value) (ps : List Pe) (is : List Int) : Prop where
  out : ∃ lo1 hi1 lo2 hi2, RowP lo1 hi1 w p ps ∧ RowI lo2 hi2 w q is ∧ base ≤ lo1 ∧ hi1 ≤ w.heap.size ∧ base ≤ lo2 ∧ hi2 ≤ w.heap.size ∧ (hi1 ≤ lo2 ∨ hi2 ≤ lo1) ∧ (hi1 ≤ b ∨ b < lo1) ∧ (hi2 ≤ b ∨ b < lo2)
section but
variable {base b : Nat} {w w' : World} {p q : Value} {ps : List Pe} {is : List Int}
theorem VwNew.but (h : VwNew base w p q ps is) (hb : w.heap.size ≤ b) : VwBut base b w p q ps is := by
  obtain ⟨lo1, hi1, lo2, hi2, P, Q, h1, h2, h3, h4, h5⟩ := h.out
  exact ⟨lo1, hi1, lo2, hi2, P, Q, h1, h2, h3, h4, h5, .inl (by omega), .inl (by omega)⟩
theorem VwBut.new (h : VwBut base b w p q ps is) : VwNew base w p q ps is := by
  obtain ⟨lo1, hi1, lo2, hi2, P, Q, h1, h2, h3, h4, h5, -, -⟩ := h.out
  exact ⟨lo1, hi1, lo2, hi2, P, Q, h1, h2, h3, h4, h5⟩
theorem VwBut.at (h : VwBut base b w p q ps is) : VwAt base w.heap.size w p q ps is := h.new.at
theorem VwBut.below (h : VwBut base b w p q ps is) (hb : Below w.heap.size w w') : VwBut base b w' p q ps is := by
  obtain ⟨lo1, hi1, lo2, hi2, P, Q, h1, h2, h3, h4, h5⟩ := h.out
  exact ⟨lo1, hi1, lo2, hi2, P.below hb h2, Q.below hb h4, h1, Nat.le_trans h2 hb.size, h3, Nat.le_trans h4 hb.size, h5⟩
theorem VwBut.alloc (h : VwBut base b w p q ps is) (o : Obj) : VwBut base b (w.alloc o) p q ps is := h.below ((Below.refl _ w).onA o)
/-- The variable's own block is written. -/
theorem VwBut.set (h : VwBut base b w p q ps is) (hS : Only b (b + 1) w w') : VwBut base b w' p q ps is := by
  obtain ⟨lo1, hi1, lo2, hi2, P, Q, h1, h2, h3, h4, h5, h6, h7⟩ := h.out
  refine ⟨lo1, hi1, lo2, hi2, P.only hS (by omega), Q.only hS (by omega), h1, by rw [hS.size]; exact h2, h3, by rw [hS.size]; exact h4, h5, h6, h7⟩
/-- A block below all is written. -/
theorem VwNew.only {lo hi : Nat} (h : VwNew base w p q ps is) (hS : Only lo hi w w') (hl : hi ≤ base) : VwNew base w' p q ps is := by
  obtain ⟨lo1, hi1, lo2, hi2, P, Q, h1, h2, h3, h4, h5⟩ := h.out
  refine ⟨lo1, hi1, lo2, hi2, P.only hS (.inr (by omega)), Q.only hS (.inr (by omega)), h1, by rw [hS.size]; exact h2, h3, by rw [hS.size]; exact h4, h5⟩
/-- A block above all is written. -/
theorem VwBut.over {lo hi : Nat} (h : VwBut base b w p q ps is) {w1 : World} (hb : Below w.heap.size w w1) (hS : Only lo hi w1 w') (hl : w.heap.size ≤ lo) : VwBut base b w' p q ps is := by
  obtain ⟨lo1, hi1, lo2, hi2, P, Q, h1, h2, h3, h4, h5⟩ := (h.below hb).out
  obtain ⟨mo1, ni1, mo2, ni2, P', Q', k1, k2, k3, k4, k5⟩ := h.out
  have := hS.size
  have := hb.size
  exact ⟨mo1, ni1, mo2, ni2, (P'.below hb k2).only hS (.inl (by omega)), (Q'.below hb k4).only hS (.inl (by omega)), k1, by omega, k3, by omega, k5⟩
theorem VwBut.shape (h : VwBut base b w p q ps is) :
    ∃ a c a' c', p = .slice a ps.length c ∧ q = .slice a' is.length c' ∧ ps.length ≤ 9223372036854775807 ∧ is.length ≤ 9223372036854775807 := h.at.shape
theorem VwBut.drewN (h : VwBut base b w p q ps is) (n : Nat) : VwBut base b (w.drewN n) p q ps is := h.below ((Below.refl _ w).onD n)
end but

/-! ### Package hello's way: the peers behind one that is heard, if there is room -/
end Go.Proofs.Ytghamcomjfholaa

namespace Go.Proofs.Ytghamcomjfholaa
open Go.ChangeShapes Go.WideShapes Go.ChangeAt Go.RowKit

structure VgNew (base : Nat) (w : World) (p q r : Value) (ps : List Pe) (is gs : List Int) : Prop where
  out : ∃ lo1 hi1 lo2 hi2 lo3 hi3, RowP lo1 hi1 w p ps ∧ RowI lo2 hi2 w q is ∧ RowI lo3 hi3 w r gs ∧ (base ≤ lo1 ∧ hi1 ≤ w.heap.size) ∧ (base ≤ lo2 ∧ hi2 ≤ w.heap.size) ∧ (base ≤ lo3 ∧ hi3 ≤ w.heap.size) ∧ (hi1 ≤ lo2 ∨ hi2 ≤ lo1) ∧ (hi1 ≤ lo3 ∨ hi3 ≤ lo1) ∧ (hi2 ≤ lo3 ∨ hi3 ≤ lo2)
section vg
variable {base : Nat} {w w' : World} {p q r : Value} {ps : List Pe} {is gs : List Int}
theorem VgNew.vw (h : VgNew base w p q r ps is gs) : VwNew base w p q ps is := by
  obtain ⟨lo1, hi1, lo2, hi2, lo3, hi3, P, Q, -, ⟨h1, h2⟩, ⟨h3, h4⟩, -, h5, -, -⟩ := h.out
  exact ⟨lo1, hi1, lo2, hi2, P, Q, h1, h2, h3, h4, h5⟩
theorem VgNew.row (h : VgNew base w p q r ps is gs) : RowI base w.heap.size w r gs := by
  obtain ⟨lo1, hi1, lo2, hi2, lo3, hi3, -, -, R, -, -, ⟨h1, h2⟩, -⟩ := h.out
  exact R.wide h1 h2
theorem VgNew.nil (base : Nat) (w : World) : VgNew base w (.slice none 0 0) (.slice none 0 0) (.slice none 0 0) [] [] [] :=
  ⟨base, 0, base, 0, base, 0, RowC.nil0, RowI.nil0, RowI.nil0, ⟨Nat.le_refl _, Nat.zero_le _⟩, ⟨Nat.le_refl _, Nat.zero_le _⟩, ⟨Nat.le_refl _, Nat.zero_le _⟩, .inl (Nat.zero_le _), .inl (Nat.zero_le _), .inl (Nat.zero_le _)⟩
theorem VgNew.below (h : VgNew base w p q r ps is gs) (hb : Below w.heap.size w w') : VgNew base w' p q r ps is gs := by
  obtain ⟨lo1, hi1, lo2, hi2, lo3, hi3, P, Q, R, ⟨h1, h2⟩, ⟨h3, h4⟩, ⟨h5, h6⟩, h7⟩ := h.out
  have := hb.size
  exact ⟨lo1, hi1, lo2, hi2, lo3, hi3, P.below hb h2, Q.below hb h4, R.below hb h6, ⟨h1, by omega⟩, ⟨h3, by omega⟩, ⟨h5, by omega⟩, h7⟩
theorem VgNew.down {base' : Nat} (h : VgNew base w p q r ps is gs) (hb : base' ≤ base) : VgNew base' w p q r ps is gs := by
  obtain ⟨lo1, hi1, lo2, hi2, lo3, hi3, P, Q, R, ⟨h1, h2⟩, ⟨h3, h4⟩, ⟨h5, h6⟩, h7⟩ := h.out
  exact ⟨lo1, hi1, lo2, hi2, lo3, hi3, P, Q, R, ⟨by omega, h2⟩, ⟨by omega, h4⟩, ⟨by omega, h6⟩, h7⟩
/-- The list was made last. -/
theorem VgNew.of (h : VwNew base w p q ps is) (hw : base ≤ w.heap.size) (hb : Below w.heap.size w w') (R : RowI w.heap.size w'.heap.size w' r gs) : VgNew base w' p q r ps is gs := by
  obtain ⟨lo1, hi1, lo2, hi2, P, Q, h1, h2, h3, h4, h5⟩ := h.out
  have := hb.size
  exact ⟨lo1, hi1, lo2, hi2, _, _, P.below hb h2, Q.below hb h4, R, ⟨h1, by omega⟩, ⟨h3, by omega⟩, ⟨hw, Nat.le_refl _⟩, h5, .inl h2, .inl h4⟩
/-- A block below all is written. -/
theorem VgNew.only {lo hi : Nat} (h : VgNew base w p q r ps is gs) (hS : Only lo hi w w') (hl : hi ≤ base) : VgNew base w' p q r ps is gs := by
  obtain ⟨lo1, hi1, lo2, hi2, lo3, hi3, P, Q, R, ⟨h1, h2⟩, ⟨h3, h4⟩, ⟨h5, h6⟩, h7⟩ := h.out
  have := hS.size
  exact ⟨lo1, hi1, lo2, hi2, lo3, hi3, P.only hS (.inr (by omega)), Q.only hS (.inr (by omega)), R.only hS (.inr (by omega)), ⟨h1, by omega⟩, ⟨h3, by omega⟩, ⟨h5, by omega⟩, h7⟩
end vg

end Go.Proofs.Ytghamcomjfholaa

namespace Go.Proofs.Ytghamcomjfholaa
open Go.ChangeShapes Go.WideShapes Go.ChangeAt Go.RowKit

theorem isNoPlace_any (x : Int) (w : World) :
    Calls Try.prog 92 #[.int .i64 x] w fun e w' => e = .returned (.bool (!plB x)) ∧ w' = w := by
  by_cases h : plB x = true
  · rw [h]
    go_enter Try.func92, Try.ntmps92
    go_wp2_with (go_at_call 80; refine (distance_yes _ _ _ h h).mono ?_; rintro e w' ⟨rfl, rfl⟩)
    go_ret
    exact ⟨rfl, rfl⟩
  · have h : plB x = false := by simpa using h
    rw [h]
    go_enter Try.func92, Try.ntmps92
    go_wp2_with (go_at_call 80; refine (distance_no _ _ _ (.inl h)).mono ?_; rintro e w' ⟨rfl, rfl⟩)
    go_ret
    exact ⟨rfl, rfl⟩

/-- The closure: two places by their distance from the base, which lies in its own cell. -/
theorem byDistance1_any (b x y : Int) (B : Nat) (w : World) (hb : plB b = true) (hx : plB x = true) (hy : plB y = true) (hc : w.cell? ⟨B, 0, none⟩ = some (.int .i64 b)) :
    Calls Try.prog 93 #[.int .i64 x, .int .i64 y, .pointer (some ⟨B, 0, none⟩)] w fun e w' => e = .returned (.int .i64 (cmpI (far b x) (far b y))) ∧ w' = w := by
  go_enter Try.func93, Try.ntmps93
  go_wp2_with (first | (go_at_call 80; refine (distance_yes _ _ _ (by assumption) (by assumption)).mono ?_; rintro e w' ⟨rfl, hw'⟩; subst w') | (go_at_call 94; refine (compare_any _ _ _).mono ?_; rintro e w' ⟨rfl, hw'⟩; subst w'))
  go_ret
  exact ⟨rfl, rfl⟩

theorem byDistance_any (b : Int) (w : World) :
    Calls Try.prog 87 #[.int .i64 b] w fun e w' => e = .returned (.func (.func 93) #[] #[.pointer (some ⟨w.heap.size, 0, none⟩)]) ∧ w' = w.alloc (.cells #[.int .i64 b] 3) := by
  go_enter Try.func87, Try.ntmps87
  go_wp2
  go_ret
  exact ⟨rfl, rfl⟩

end Go.Proofs.Ytghamcomjfholaa

namespace Go.Proofs.Ytghamcomjfholaa
open Go.ChangeShapes Go.WideShapes Go.ChangeAt Go.RowKit

def tkN : Nat → VSt → VSt
  | 0, s => s
  | k + 1, s => tkS (tkN k s)
theorem tkN_ok {i : Int} {s : VSt} (h : okS i s) : ∀ k, okS i (tkN k s)
  | 0 => h
  | k + 1 => tk_ok (tkN_ok h k)
theorem tkN_size {i : Int} {s : VSt} (h : okS i s) : ∀ k, (tkN k s).1.length + (tkN k s).2.length = s.1.length + s.2.length
  | 0 => rfl
  | k + 1 => (tk_size (tkN_ok h k)).trans (tkN_size h k)

/-- The two lists of a view, neither in block b. -/
structure VaBut (b : Nat) (w : World) (p q : Value) (ps : List Pe) (is : List Int) : Prop where
  out : ∃ lo hi, VwAt lo hi w p q ps is ∧ hi ≤ w.heap.size ∧ (hi ≤ b ∨ b < lo)
section va
variable {b : Nat} {w w' : World} {p q : Value} {ps : List Pe} {is : List Int}
theorem VaBut.below (h : VaBut b w p q ps is) (hb : Below w.heap.size w w') : VaBut b w' p q ps is := by
  obtain ⟨lo, hi, V, h1, h2⟩ := h.out
  exact ⟨lo, hi, V.below hb h1, Nat.le_trans h1 hb.size, h2⟩
theorem VaBut.set (h : VaBut b w p q ps is) (hS : Only b (b + 1) w w') : VaBut b w' p q ps is := by
  obtain ⟨lo, hi, V, h1, h2⟩ := h.out
  exact ⟨lo, hi, ⟨V.ps.only hS (by omega), V.is.only hS (by omega)⟩, by rw [hS.size]; exact h1, h2⟩
theorem VaBut.shape (h : VaBut b w p q ps is) : ∃ a c a' c', p = .slice a ps.length c ∧ q = .slice a' is.length c' := by
  obtain ⟨lo, hi, V, -, -⟩ := h.out
  obtain ⟨a, c, a', c', e1, e2, -, -⟩ := V.shape
  exact ⟨a, c, a', c', e1, e2⟩
theorem VwNew.va {base : Nat} (h : VwNew base w p q ps is) (hb : b < base) : VaBut b w p q ps is := ⟨base, w.heap.size, h.at, Nat.le_refl _, .inr hb⟩
end va

end Go.Proofs.Ytghamcomjfholaa
