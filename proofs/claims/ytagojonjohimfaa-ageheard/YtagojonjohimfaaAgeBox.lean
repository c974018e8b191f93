
/-
  Ticks one behind the other: the states; the two lists of a view whose variable lies in a block of its own, whatever lists they are.
-/
import Derived.Test.YtagojonjohimfaaAgeMath
import Derived.Test.YtagojonjohimfaaAgeRow
namespace Go.Proofs.Ytagojonjohimfaa
open Go.ChangeShapes Go.WideShapes Go.ChangeAt Go.RowKit

def tkN : Nat → VSt → VSt
  | 0, s => s
  | k + 1, s => tkS (tkN k s)
theorem tkN_ok {i : Int} {s : VSt} (h : okS i s) : ∀ k, okS i (tkN k s)
  | 0 => h
  | k + 1 => tk_ok (tkN_ok h k)
theorem tkN_size {i : Int} {s : VSt} (h : okS i s) : ∀ k, (tkN k s).1.length + (tkN k s).2.length = s.1.length + s.2.length
  | 0 => rfl
  | k + 1 => (tk_size (tkN_ok h k)).trans (tkN_size h k)

/-- The two lists of a view, neither in block b. -/
structure VaBut (b : Nat) (w : World) (p q : Value) (ps : List Pe) (is : List Int) : Prop where
  out : ∃ lo hi, VwAt lo hi w p q ps is ∧ hi ≤ w.heap.size ∧ (hi ≤ b ∨ b < lo)
section va
variable {b : Nat} {w w' : World} {p q : Value} {ps : List Pe} {is : List Int}
theorem VaBut.below (h : VaBut b w p q ps is) (hb : Below w.heap.size w w') : VaBut b w' p q ps is := by
  obtain ⟨lo, hi, V, h1, h2⟩ := h.out
  exact ⟨lo, hi, V.below hb h1, Nat.le_trans h1 hb.size, h2⟩
theorem VaBut.set (h : VaBut b w p q ps is) (hS : Only b (b + 1) w w') : VaBut b w' p q ps is := by
  obtain ⟨lo, hi, V, h1, h2⟩ := h.out
  exact ⟨lo, hi, ⟨V.ps.only hS (by omega), V.is.only hS (by omega)⟩, by rw [hS.size]; exact h1, h2⟩
theorem VaBut.shape (h : VaBut b w p q ps is) : ∃ a c a' c', p = .slice a ps.length c ∧ q = .slice a' is.length c' := by
  obtain ⟨lo, hi, V, -, -⟩ := h.out
  obtain ⟨a, c, a', c', e1, e2, -, -⟩ := V.shape
  exact ⟨a, c, a', c', e1, e2⟩
theorem VwNew.va {base : Nat} (h : VwNew base w p q ps is) (hb : b < base) : VaBut b w p q ps is := ⟨base, w.heap.size, h.at, Nat.le_refl _, .inr hb⟩
end va

end Go.Proofs.Ytagojonjohimfaa
