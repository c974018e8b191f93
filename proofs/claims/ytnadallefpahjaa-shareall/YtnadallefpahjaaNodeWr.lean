
/-
  The document's own answers on writing: an item of a key is written or dropped.
-/
import Derived.Test.YtnadallefpahjaaNodeDo
import Derived.Test.YtnadallefpahjaaStorePut
namespace Go.Proofs.Ytnadallefpahjaa
open Go.ChangeShapes Go.WideShapes Go.ChangeAt Go.RowKit

/-- A value that reads as a node, its lists' cells in blocks from lo on and below hi. -/
structure NdV (lo hi : Nat) (w : World) (v : Value) (x : Nd) : Prop where
  out : ∃ p q r s, v = .agg #[.bool x.up, .int .i64 x.i, p, q, r, s] ∧ NdAt lo hi w p q r s x.ps x.is x.ts x.ls
def zeroN : Nd := ⟨false, 0, [], [], [], []⟩
theorem NdV.zero {lo hi : Nat} {w : World} : NdV lo hi w (.agg #[.bool false, .int .i64 0, .slice none 0 0, .slice none 0 0, .slice none 0 0, .slice none 0 0]) zeroN := ⟨_, _, _, _, rfl, NdAt.nil0⟩

theorem nd_st {n : Nd} (hu : n.up = true) (h : ndB n = true) : stB n.ts = true := by
  rw [ndB, if_pos hu] at h
  simp only [Bool.and_eq_true] at h
  exact h.2.2.1

section
variable {lo hi : Nat} {w : World} {p q r s : Value} {ps : List Pe} {is : List Int} {ts : List It} {ls : List Te}

end

end Go.Proofs.Ytnadallefpahjaa
