
/-
  Five cells of a block written over: what it reads as, and what stays.
-/
import Derived.Test.YtkalamplagopnaaBox
import Derived.Test.YtkalamplagopnaaOnly
namespace Go.Proofs.Ytkalamplagopnaa
open Go.ChangeShapes Go.WideShapes Go.ChangeAt Go.RowKit

/-- Five cells of a block written over, one behind the other. -/
theorem Box.set5 {w : World} {x : Nat} {y0 y1 y2 y3 y4 y10 z5 z6 z7 z8 z9 : Value} (h : Box w x #[y0, y1, y2, y3, y4, z5, z6, z7, z8, z9, y10]) (v5 v6 v7 v8 v9 : Value) :
    Box (((((w.setCell ⟨x, 5, none⟩ v5).setCell ⟨x, 6, none⟩ v6).setCell ⟨x, 7, none⟩ v7).setCell ⟨x, 8, none⟩ v8).setCell ⟨x, 9, none⟩ v9) x #[y0, y1, y2, y3, y4, v5, v6, v7, v8, v9, y10] ∧
      Only x (x + 1) w (((((w.setCell ⟨x, 5, none⟩ v5).setCell ⟨x, 6, none⟩ v6).setCell ⟨x, 7, none⟩ v7).setCell ⟨x, 8, none⟩ v8).setCell ⟨x, 9, none⟩ v9) :=
  ⟨((((h.setS (ys := #[y0, y1, y2, y3, y4, v5, z6, z7, z8, z9, y10]) 5 v5 (by simp) (by simp)).setS (ys := #[y0, y1, y2, y3, y4, v5, v6, z7, z8, z9, y10]) 6 v6 (by simp) (by simp)).setS (ys := #[y0, y1, y2, y3, y4, v5, v6, v7, z8, z9, y10]) 7 v7 (by simp) (by simp)).setS (ys := #[y0, y1, y2, y3, y4, v5, v6, v7, v8, z9, y10]) 8 v8 (by simp) (by simp)).setS (ys := #[y0, y1, y2, y3, y4, v5, v6, v7, v8, v9, y10]) 9 v9 (by simp) (by simp),
   (((((Only.refl x (x + 1) w).setCell (b := x) (o := 5) (Nat.le_refl _) (Nat.lt_succ_self _) v5).setCell (b := x) (o := 6) (Nat.le_refl _) (Nat.lt_succ_self _) v6).setCell (b := x) (o := 7) (Nat.le_refl _) (Nat.lt_succ_self _) v7).setCell (b := x) (o := 8) (Nat.le_refl _) (Nat.lt_succ_self _) v8).setCell (b := x) (o := 9) (Nat.le_refl _) (Nat.lt_succ_self _) v9⟩

end Go.Proofs.Ytkalamplagopnaa
