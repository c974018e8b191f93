
/-
  A block of memory that reads as these cells: what stays of it behind a call that makes memory.
-/
import Derived.Test.YtnadallefpahjaaBase
namespace Go.Proofs.Ytnadallefpahjaa
open Go.ChangeShapes Go.WideShapes Go.ChangeAt Go.RowKit

theorem toHid {p : Prop} (h : p) : Hid p := h

/-! ### A block of memory that reads as these cells, none of them frozen -/
def Box (w : World) (b : Nat) (xs : Array Value) : Prop := b < w.heap.size ∧ (∀ o, w.cell? ⟨b, o, none⟩ = xs[o]?) ∧ ∀ o, w.frozen? ⟨b, o, none⟩ = false
theorem Box.new (w : World) (xs : Array Value) (t : TypeId) : Box (w.alloc (.cells xs t)) w.heap.size xs :=
  ⟨by simp, fun o => World.cell?_alloc_at xs t _ o rfl, fun o => World.frozen?_alloc_at xs t _ o rfl⟩
theorem Box.newAt {w : World} {n : Nat} (xs : Array Value) (t : TypeId) (h : n = w.heap.size) : Box (w.alloc (.cells xs t)) n xs := h ▸ Box.new w xs t
theorem Box.new1 (w : World) (o : Obj) (xs : Array Value) (t : TypeId) : Box ((w.alloc o).alloc (.cells xs t)) (w.heap.size + 1) xs := Box.newAt xs t (by simp)
theorem Box.new2 (w : World) (o p : Obj) (xs : Array Value) (t : TypeId) : Box (((w.alloc o).alloc p).alloc (.cells xs t)) (w.heap.size + 1 + 1) xs := Box.newAt xs t (by simp)
theorem Box.below {w w' : World} {b : Nat} {xs : Array Value} (h : Box w b xs) (hb : Below w.heap.size w w') : Box w' b xs :=
  ⟨Nat.lt_of_lt_of_le h.1 hb.size, fun o => (hb.cell (p := ⟨b, o, none⟩) h.1).trans (h.2.1 o), fun o => (hb.frozen (p := ⟨b, o, none⟩) h.1).trans (h.2.2 o)⟩
theorem Box.alloc {w : World} {b : Nat} {xs : Array Value} (h : Box w b xs) (o : Obj) : Box (w.alloc o) b xs := h.below ((Below.refl _ w).onA o)
theorem Box.drewN {w : World} {b : Nat} {xs : Array Value} (h : Box w b xs) (q : Nat) : Box (w.drewN q) b xs := h.below ((Below.refl _ w).onD q)

theorem Box.setO {w : World} {b : Nat} {xs : Array Value} (h : Box w b xs) (n i : Nat) (v : Value) (hn : n ≠ b) : Box (w.setCell ⟨n, i, none⟩ v) b xs :=
  ⟨by rw [World.size_setCell]; exact h.1, fun o => (World.cell?_setCell_other _ _ _ _ (fun e => hn (congrArg Addr.block e))).trans (h.2.1 o), fun o => (World.frozen?_setCell _ _ _ _).trans (h.2.2 o)⟩
theorem Box.setS {w : World} {b : Nat} {xs ys : Array Value} (h : Box w b xs) (i : Nat) (v : Value) (hi : i < xs.size) (hy : ys = xs.setIfInBounds i v) : Box (w.setCell ⟨b, i, none⟩ v) b ys := by
  refine ⟨by rw [World.size_setCell]; exact h.1, fun o => ?_, fun o => (World.frozen?_setCell _ _ _ _).trans (h.2.2 o)⟩
  subst hy
  by_cases ho : i = o
  · subst ho
    rw [World.cell?_setCell_same _ _ _ ((h.2.1 i).trans (Array.getElem?_eq_getElem hi))]
    simp [hi]
  · rw [World.cell?_setCell_other _ _ _ _ (fun e => ho (congrArg Addr.off e)), h.2.1 o]
    simp [ho]

end Go.Proofs.Ytnadallefpahjaa

namespace Go.Proofs.Ytnadallefpahjaa
open Go.RowKit

/-- Nothing has turned but cells of the blocks from lo on and below hi. -/
structure Only (lo hi : Nat) (w w' : World) : Prop where
  below : Below lo w w'
  size : w'.heap.size = w.heap.size
  cell : ∀ b o, b < lo ∨ hi ≤ b → w'.cell? ⟨b, o, none⟩ = w.cell? ⟨b, o, none⟩
  frozen : ∀ b o, w'.frozen? ⟨b, o, none⟩ = w.frozen? ⟨b, o, none⟩
theorem Only.refl (lo hi : Nat) (w : World) : Only lo hi w w := ⟨Below.refl _ _, rfl, fun _ _ _ => rfl, fun _ _ => rfl⟩
theorem Only.setCell {lo hi : Nat} {w w' : World} (h : Only lo hi w w') {b o : Nat} (h1 : lo ≤ b) (h2 : b < hi) (x : Value) : Only lo hi w (w'.setCell ⟨b, o, none⟩ x) :=
  ⟨h.below.setCell h1 x, by rw [World.size_setCell]; exact h.size, fun b' o' h' => (World.cell?_setCell_other _ _ _ _ (fun e => by have : b = b' := congrArg Addr.block e; omega)).trans (h.cell b' o' h'), fun b' o' => (World.frozen?_setCell _ _ _ _).trans (h.frozen b' o')⟩
theorem RowI.only {lo hi lo' hi' : Nat} {w w' : World} {v : Value} {zs : List Int} (h : RowI lo hi w v zs) (hw : Only lo' hi' w w') (hd : hi ≤ lo' ∨ hi' ≤ lo) : RowI lo hi w' v zs := by
  obtain ⟨p, cap, rfl, hl, hc, hx⟩ := h
  refine ⟨p, cap, rfl, hl, hc, fun hne => ?_⟩
  obtain ⟨b, off, rfl, h1, h2, h3⟩ := hx hne
  exact ⟨b, off, rfl, h1, h2, fun j hj => ⟨(hw.cell b _ (by omega)).trans (h3 j hj).1, (hw.frozen b _).trans (h3 j hj).2⟩⟩

theorem Only.cellA {lo hi : Nat} {w w' : World} (S : Only lo hi w w') (o : Obj) (k : Nat) {b : Nat} (hb : b < w.heap.size) : (w'.alloc o).cell? ⟨b, k, none⟩ = w'.cell? ⟨b, k, none⟩ :=
  ((Below.refl _ w').onA o).cell (p := ⟨b, k, none⟩) (by show b < w'.heap.size; rw [S.size]; exact hb)

end Go.Proofs.Ytnadallefpahjaa
