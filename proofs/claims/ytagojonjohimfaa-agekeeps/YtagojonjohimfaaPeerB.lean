
/-
  Contracts of package peers' functions that make lists (a copy; with one heard; with a new one; those that are left and those that are lost), at every list of peers: what they return, in new memory, and that no old memory has turned.
-/
import Derived.Test.YtagojonjohimfaaPeerA
import Derived.Test.YtagojonjohimfaaRowPart
import Derived.Test.YtagojonjohimfaaLaw0
import Derived.WalkSpells
import Derived.OneCell
namespace Go.Proofs.Ytagojonjohimfaa
open Go.ChangeShapes Go.WideShapes Go.ChangeAt Go.RowKit

/-- The missed count at place m is written over. -/
theorem pes_set {w : World} {b off : Nat} {zs : List Pe} (h : ∀ j, j < zs.length * 2 → w.cell? ⟨b, off + j, none⟩ = (zs.flatMap PeV)[j]? ∧ w.frozen? ⟨b, off + j, none⟩ = false) (m : Nat) (hm : m < zs.length) (x : Int) :
    ∀ j, j < (zs.set m ⟨zs[m].n, x⟩).length * 2 → (w.setCell ⟨b, off + m * 2 + 1, none⟩ (.int .i64 x)).cell? ⟨b, off + j, none⟩ = ((zs.set m ⟨zs[m].n, x⟩).flatMap PeV)[j]? ∧ (w.setCell ⟨b, off + m * 2 + 1, none⟩ (.int .i64 x)).frozen? ⟨b, off + j, none⟩ = false := by
  intro j hj
  rw [List.length_set] at hj
  refine ⟨?_, (World.frozen?_setCell _ _ _ _).trans (h j hj).2⟩
  obtain ⟨q, r, rfl, hr⟩ : ∃ q r, j = q * 2 + r ∧ r < 2 := ⟨j / 2, j % 2, by omega, by omega⟩
  have hq : q < zs.length := by omega
  rw [flat_at PeV_len (zs.set m ⟨zs[m].n, x⟩) q r (by rw [List.length_set]; exact hq) hr]
  by_cases e : m = q ∧ r = 1
  · obtain ⟨rfl, rfl⟩ := e
    rw [List.getElem_set_self, ← Nat.add_assoc]
    exact World.cell?_setCell_same _ _ _ (pesAt h m hm).2
  · rw [World.cell?_setCell_other _ _ _ _ (by intro e2; have := congrArg Addr.off e2; simp at this; omega), (h _ hj).1, flat_at PeV_len zs q r hq hr]
    by_cases e1 : m = q
    · subst e1
      obtain rfl : r = 0 := by omega
      rw [List.getElem_set_self]
      rfl
    · rw [List.getElem_set_ne e1]

end Go.Proofs.Ytagojonjohimfaa
