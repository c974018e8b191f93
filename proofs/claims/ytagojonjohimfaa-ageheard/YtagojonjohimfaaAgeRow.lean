
/-
  A view that was made, and a list of places beside it: three lists in new memory, each in blocks of its own; what stays of the list when the view is written over.
-/
import Derived.Test.YtagojonjohimfaaHelloBox
namespace Go.Proofs.Ytagojonjohimfaa
open Go.ChangeShapes Go.WideShapes Go.ChangeAt Go.RowKit

structure VgNew (base : Nat) (w : World) (p q r : Value) (ps : List Pe) (is gs : List Int) : Prop where
  out : ∃ lo1 hi1 lo2 hi2 lo3 hi3, RowP lo1 hi1 w p ps ∧ RowI lo2 hi2 w q is ∧ RowI lo3 hi3 w r gs ∧ (base ≤ lo1 ∧ hi1 ≤ w.heap.size) ∧ (base ≤ lo2 ∧ hi2 ≤ w.heap.size) ∧ (base ≤ lo3 ∧ hi3 ≤ w.heap.size) ∧ (hi1 ≤ lo2 ∨ hi2 ≤ lo1) ∧ (hi1 ≤ lo3 ∨ hi3 ≤ lo1) ∧ (hi2 ≤ lo3 ∨ hi3 ≤ lo2)
section vg
variable {base : Nat} {w w' : World} {p q r : Value} {ps : List Pe} {is gs : List Int}
theorem VgNew.vw (h : VgNew base w p q r ps is gs) : VwNew base w p q ps is := by
  obtain ⟨lo1, hi1, lo2, hi2, lo3, hi3, P, Q, -, ⟨h1, h2⟩, ⟨h3, h4⟩, -, h5, -, -⟩ := h.out
  exact ⟨lo1, hi1, lo2, hi2, P, Q, h1, h2, h3, h4, h5⟩
theorem VgNew.row (h : VgNew base w p q r ps is gs) : RowI base w.heap.size w r gs := by
  obtain ⟨lo1, hi1, lo2, hi2, lo3, hi3, -, -, R, -, -, ⟨h1, h2⟩, -⟩ := h.out
  exact R.wide h1 h2
theorem VgNew.nil (base : Nat) (w : World) : VgNew base w (.slice none 0 0) (.slice none 0 0) (.slice none 0 0) [] [] [] :=
  ⟨base, 0, base, 0, base, 0, RowC.nil0, RowI.nil0, RowI.nil0, ⟨Nat.le_refl _, Nat.zero_le _⟩, ⟨Nat.le_refl _, Nat.zero_le _⟩, ⟨Nat.le_refl _, Nat.zero_le _⟩, .inl (Nat.zero_le _), .inl (Nat.zero_le _), .inl (Nat.zero_le _)⟩
theorem VgNew.below (h : VgNew base w p q r ps is gs) (hb : Below w.heap.size w w') : VgNew base w' p q r ps is gs := by
  obtain ⟨lo1, hi1, lo2, hi2, lo3, hi3, P, Q, R, ⟨h1, h2⟩, ⟨h3, h4⟩, ⟨h5, h6⟩, h7⟩ := h.out
  have := hb.size
  exact ⟨lo1, hi1, lo2, hi2, lo3, hi3, P.below hb h2, Q.below hb h4, R.below hb h6, ⟨h1, by omega⟩, ⟨h3, by omega⟩, ⟨h5, by omega⟩, h7⟩
theorem VgNew.down {base' : Nat} (h : VgNew base w p q r ps is gs) (hb : base' ≤ base) : VgNew base' w p q r ps is gs := by
  obtain ⟨lo1, hi1, lo2, hi2, lo3, hi3, P, Q, R, ⟨h1, h2⟩, ⟨h3, h4⟩, ⟨h5, h6⟩, h7⟩ := h.out
  exact ⟨lo1, hi1, lo2, hi2, lo3, hi3, P, Q, R, ⟨by omega, h2⟩, ⟨by omega, h4⟩, ⟨by omega, h6⟩, h7⟩
/-- The list was made last. -/
theorem VgNew.of (h : VwNew base w p q ps is) (hw : base ≤ w.heap.size) (hb : Below w.heap.size w w') (R : RowI w.heap.size w'.heap.size w' r gs) : VgNew base w' p q r ps is gs := by
  obtain ⟨lo1, hi1, lo2, hi2, P, Q, h1, h2, h3, h4, h5⟩ := h.out
  have := hb.size
  exact ⟨lo1, hi1, lo2, hi2, _, _, P.below hb h2, Q.below hb h4, R, ⟨h1, by omega⟩, ⟨h3, by omega⟩, ⟨hw, Nat.le_refl _⟩, h5, .inl h2, .inl h4⟩
/-- A block below all is written. -/
theorem VgNew.only {lo hi : Nat} (h : VgNew base w p q r ps is gs) (hS : Only lo hi w w') (hl : hi ≤ base) : VgNew base w' p q r ps is gs := by
  obtain ⟨lo1, hi1, lo2, hi2, lo3, hi3, P, Q, R, ⟨h1, h2⟩, ⟨h3, h4⟩, ⟨h5, h6⟩, h7⟩ := h.out
  have := hS.size
  exact ⟨lo1, hi1, lo2, hi2, lo3, hi3, P.only hS (.inr (by omega)), Q.only hS (.inr (by omega)), R.only hS (.inr (by omega)), ⟨h1, by omega⟩, ⟨h3, by omega⟩, ⟨h5, by omega⟩, h7⟩
end vg

set_option maxHeartbeats 400000 in
theorem spoilView_beside {base : Nat} {w : World} {p q r : Value} {ps : List Pe} {is gs : List Int} (i : Int) (h : VgNew base w p q r ps is gs) (hb : base ≤ w.heap.size) :
    Calls Try.prog 13 #[.agg #[.int .i64 i, p, q]] w fun e w' => e = .returned (.tuple #[]) ∧ RowI base w'.heap.size w' r gs ∧ Below base w w' := by
  have hsh := h.vw.at.shape
  obtain ⟨lo1, hi1, lo2, hi2, lo3, hi3, P, Q, R, ⟨h1, h2⟩, ⟨h3, h4⟩, ⟨h5, h6⟩, h7, h8, h9⟩ := h.out
  have H1 := toHid (fun o : Obj => spoilPeers_any (P.alloc o PeV_len))
  have H2 := toHid (fun (o : Obj) (w1 : World) (hw : Only lo1 hi1 (w.alloc o) w1) => spoilI_only ((Q.alloc o).only hw (by omega)))
  have H3 := toHid (fun (o : Obj) (w1 w2 : World) (hw : Only lo1 hi1 (w.alloc o) w1) (hv : Only lo2 hi2 w1 w2) => ((R.alloc o).only hw (by omega)).only hv (by omega))
  have B1 := toHid (fun (cs : Array Value) (t : TypeId) => Box.new w cs t)
  obtain ⟨a, c, a', c', ep, eq, hn, hn'⟩ := hsh
  subst ep eq
  clear h P Q R
  go_enter Try.func13, Try.ntmps13
  go_wp2_with (first
    | (go_at_call 27; refine (H1.out _).mono ?_; rintro e w1 ⟨rfl, k1⟩
       have b2 := fun o => (k1.cell w.heap.size o (.inr h2)).trans ((B1.out _ _).2.1 o))
    | (go_at_call 14; refine (H2.out _ _ k1).mono ?_; rintro e w2 ⟨rfl, k2⟩))
  go_end0
  have e1 := k1.size
  have e2 := k2.size
  simp only [World.size_alloc] at e1
  exact ⟨rfl, (H3.out _ _ _ k1 k2).wide h5 (by omega), (((Below.refl base w).alloc hb _).trans (k1.below.mono h1)).trans (k2.below.mono h3)⟩

end Go.Proofs.Ytagojonjohimfaa
