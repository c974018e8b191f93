
/-
  A call that has turned nothing but cells of some blocks: what stays of a row elsewhere.
-/
import Derived.Test.YtnbnnbcjlfdlpaaBase
namespace Go.Proofs.Ytnbnnbcjlfdlpaa
open Go.RowKit

/-- Nothing has turned but cells of the blocks from lo on and below hi. -/
structure Only (lo hi : Nat) (w w' : World) : Prop where
  below : Below lo w w'
  size : w'.heap.size = w.heap.size
  cell : ∀ b o, b < lo ∨ hi ≤ b → w'.cell? ⟨b, o, none⟩ = w.cell? ⟨b, o, none⟩
  frozen : ∀ b o, w'.frozen? ⟨b, o, none⟩ = w.frozen? ⟨b, o, none⟩
theorem Only.refl (lo hi : Nat) (w : World) : Only lo hi w w := ⟨Below.refl _ _, rfl, fun _ _ _ => rfl, fun _ _ => rfl⟩
theorem Only.setCell {lo hi : Nat} {w w' : World} (h : Only lo hi w w') {b o : Nat} (h1 : lo ≤ b) (h2 : b < hi) (x : Value) : Only lo hi w (w'.setCell ⟨b, o, none⟩ x) :=
  ⟨h.below.setCell h1 x, by rw [World.size_setCell]; exact h.size, fun b' o' h' => (World.cell?_setCell_other _ _ _ _ (fun e => by have : b = b' := congrArg Addr.block e; omega)).trans (h.cell b' o' h'), fun b' o' => (World.frozen?_setCell _ _ _ _).trans (h.frozen b' o')⟩
theorem RowI.only {lo hi lo' hi' : Nat} {w w' : World} {v : Value} {zs : List Int} (h : RowI lo hi w v zs) (hw : Only lo' hi' w w') (hd : hi ≤ lo' ∨ hi' ≤ lo) : RowI lo hi w' v zs := by
  obtain ⟨p, cap, rfl, hl, hc, hx⟩ := h
  refine ⟨p, cap, rfl, hl, hc, fun hne => ?_⟩
  obtain ⟨b, off, rfl, h1, h2, h3⟩ := hx hne
  exact ⟨b, off, rfl, h1, h2, fun j hj => ⟨(hw.cell b _ (by omega)).trans (h3 j hj).1, (hw.frozen b _).trans (h3 j hj).2⟩⟩

end Go.Proofs.Ytnbnnbcjlfdlpaa
