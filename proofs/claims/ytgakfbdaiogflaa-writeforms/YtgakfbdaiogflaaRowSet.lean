
/-
  A row of items, one of which is written over: what it reads as then.
-/
import Derived.Test.YtgakfbdaiogflaaNodeRow
import Derived.Test.YtgakfbdaiogflaaRowPart
namespace Go.Proofs.Ytgakfbdaiogflaa
open Go.ChangeShapes Go.WideShapes Go.ChangeAt Go.RowKit

/-- Five cells from o on are written. -/
def put5 (w : World) (b o : Nat) (x : It) : World :=
  ((((w.setCell ⟨b, o, none⟩ (.int .i64 x.k)).setCell ⟨b, o + 1, none⟩ (.int .i64 x.c)).setCell ⟨b, o + 2, none⟩ (.int .i64 x.u)).setCell ⟨b, o + 3, none⟩ (.int .i64 x.x)).setCell ⟨b, o + 4, none⟩ (.bool x.g)

theorem put5_frozen (w : World) (b o : Nat) (x : It) (p : Addr) : (put5 w b o x).frozen? p = w.frozen? p := by
  simp [put5, World.frozen?_setCell]
theorem put5_size (w : World) (b o : Nat) (x : It) : (put5 w b o x).heap.size = w.heap.size := by
  simp [put5, World.size_setCell]
theorem put5_other (w : World) (b o : Nat) (x : It) (b' o' : Nat) (h : b = b' → o' < o ∨ o + 5 ≤ o') : (put5 w b o x).cell? ⟨b', o', none⟩ = w.cell? ⟨b', o', none⟩ := by
  unfold put5
  have e : ∀ i, i < 5 → (⟨b, o + i, none⟩ : Addr) ≠ ⟨b', o', none⟩ := fun i hi e => by
    have h1 : b = b' := congrArg Addr.block e
    have h2 : o + i = o' := congrArg Addr.off e
    have := h h1
    omega
  rw [World.cell?_setCell_other _ _ _ _ (e 4 (by omega)), World.cell?_setCell_other _ _ _ _ (e 3 (by omega)), World.cell?_setCell_other _ _ _ _ (e 2 (by omega)), World.cell?_setCell_other _ _ _ _ (e 1 (by omega))]
  exact World.cell?_setCell_other _ _ _ _ (e 0 (by omega))
theorem put5_same {w : World} {b o : Nat} {y : It} (x : It) (h : ItAt w b o y) (i : Nat) (hi : i < 5) : (put5 w b o x).cell? ⟨b, o + i, none⟩ = (ItV x)[i]? := by
  obtain ⟨c0, c1, c2, c3, c4⟩ := h
  have e : ∀ i j, i ≠ j → (⟨b, o + i, none⟩ : Addr) ≠ ⟨b, o + j, none⟩ := fun i j hij e => by
    have h2 : o + i = o + j := congrArg Addr.off e
    omega
  unfold put5
  match i, hi with
  | 0, _ =>
    rw [World.cell?_setCell_other _ _ _ _ (e 4 0 (by omega)), World.cell?_setCell_other _ _ _ _ (e 3 0 (by omega)), World.cell?_setCell_other _ _ _ _ (e 2 0 (by omega)), World.cell?_setCell_other _ _ _ _ (e 1 0 (by omega))]
    exact World.cell?_setCell_same _ _ _ c0
  | 1, _ =>
    rw [World.cell?_setCell_other _ _ _ _ (e 4 1 (by omega)), World.cell?_setCell_other _ _ _ _ (e 3 1 (by omega)), World.cell?_setCell_other _ _ _ _ (e 2 1 (by omega))]
    exact World.cell?_setCell_same _ _ _ ((World.cell?_setCell_other _ _ _ _ (e 0 1 (by omega))).trans c1)
  | 2, _ =>
    rw [World.cell?_setCell_other _ _ _ _ (e 4 2 (by omega)), World.cell?_setCell_other _ _ _ _ (e 3 2 (by omega))]
    exact World.cell?_setCell_same _ _ _ ((World.cell?_setCell_other _ _ _ _ (e 1 2 (by omega))).trans ((World.cell?_setCell_other _ _ _ _ (e 0 2 (by omega))).trans c2))
  | 3, _ =>
    rw [World.cell?_setCell_other _ _ _ _ (e 4 3 (by omega))]
    exact World.cell?_setCell_same _ _ _ ((World.cell?_setCell_other _ _ _ _ (e 2 3 (by omega))).trans ((World.cell?_setCell_other _ _ _ _ (e 1 3 (by omega))).trans ((World.cell?_setCell_other _ _ _ _ (e 0 3 (by omega))).trans c3)))
  | 4, _ =>
    exact World.cell?_setCell_same _ _ _ ((World.cell?_setCell_other _ _ _ _ (e 3 4 (by omega))).trans ((World.cell?_setCell_other _ _ _ _ (e 2 4 (by omega))).trans ((World.cell?_setCell_other _ _ _ _ (e 1 4 (by omega))).trans ((World.cell?_setCell_other _ _ _ _ (e 0 4 (by omega))).trans c4))))

/-- The item at place m is written over. -/
theorem its_put5 {w : World} {b off : Nat} {zs : List It} (h : ∀ j, j < zs.length * 5 → w.cell? ⟨b, off + j, none⟩ = (zs.flatMap ItV)[j]? ∧ w.frozen? ⟨b, off + j, none⟩ = false) (m : Nat) (hm : m < zs.length) (x : It) :
    ∀ j, j < (zs.set m x).length * 5 → (put5 w b (off + m * 5) x).cell? ⟨b, off + j, none⟩ = ((zs.set m x).flatMap ItV)[j]? ∧ (put5 w b (off + m * 5) x).frozen? ⟨b, off + j, none⟩ = false := by
  intro j hj
  rw [List.length_set] at hj
  refine ⟨?_, (put5_frozen _ _ _ _ _).trans (h j hj).2⟩
  obtain ⟨q, r, rfl, hr⟩ : ∃ q r, j = q * 5 + r ∧ r < 5 := ⟨j / 5, j % 5, by omega, by omega⟩
  have hq : q < zs.length := by omega
  rw [flat_at ItV_len (zs.set m x) q r (by rw [List.length_set]; exact hq) hr]
  by_cases e : m = q
  · subst e
    rw [List.getElem_set_self, ← Nat.add_assoc]
    exact put5_same x (itsAt h m hm) r hr
  · rw [List.getElem_set_ne e, put5_other _ _ _ _ _ _ (fun _ => by omega), (h _ hj).1, flat_at ItV_len zs q r hq hr]

theorem put5_below {N b o : Nat} {w w' : World} (h : Below N w w') (hb : N ≤ b) (x : It) : Below N w (put5 w' b o x) :=
  ((((h.setCell hb _).setCell hb _).setCell hb _).setCell hb _).setCell hb _

end Go.Proofs.Ytgakfbdaiogflaa
