
/-
  Views as plain lists: which may be; who is next, who was before, who owns a key; and what is so of them.
-/
import Derived.Test.YtgakfbdaiogflaaPassMath
import Derived.Test.YtgakfbdaiogflaaPlaceMath
import Derived.Lib.SlicesCompact
namespace Go.Proofs.Ytgakfbdaiogflaa

def nmL (ps : List Pe) : List Int := ps.map Pe.n
/-- The node itself, then its peers. -/
def idL (i : Int) (ps : List Pe) : List Int := i :: nmL ps
def vwB (i : Int) (ps : List Pe) (is : List Int) : Bool := decide (psB i ps = true ∧ paB is = true ∧ ps.length + is.length ≤ 16 ∧ ∀ y ∈ is, ¬ y ∈ idL i ps)
theorem vwB_iff {i : Int} {ps : List Pe} {is : List Int} : vwB i ps is = true ↔ psB i ps = true ∧ paB is = true ∧ ps.length + is.length ≤ 16 ∧ ∀ y ∈ is, ¬ y ∈ idL i ps := by simp [vwB]
theorem nmL_take (ps : List Pe) (k : Nat) (h : k < ps.length) : nmL (ps.take (k + 1)) = nmL (ps.take k) ++ [(ps.getD k ⟨0, 0⟩).n] := by
  rw [take_step h, getD_in _ _ h, nmL, List.map_append]
  rfl
theorem idL_take (i : Int) (ps : List Pe) (k : Nat) (h : k < ps.length) : idL i (ps.take (k + 1)) = idL i (ps.take k) ++ [(ps.getD k ⟨0, 0⟩).n] := by
  rw [idL, nmL_take ps k h]
  rfl

section may
variable {i : Int} {ps : List Pe} {is : List Int} (h : vwB i ps is = true)
include h
theorem vw_len : ps.length ≤ 16 := (psB_iff.1 (vwB_iff.1 h).1).2.2.2
end may

end Go.Proofs.Ytgakfbdaiogflaa
