
/-
  Copying a node: the statements' own helper.
-/
import Derived.Test.YtghamcomjfholaaRowBox
import Derived.Deep.DeepCutAuto
import Derived.Deep.CutRange
import Derived.Deep.CutBlock
namespace Go.Proofs.Ytghamcomjfholaa
open Go.ChangeShapes Go.WideShapes Go.ChangeAt Go.RowKit

theorem NdAt.only {lo hi lo' hi' : Nat} {w w' : World} {p q r s : Value} {ps : List Pe} {is : List Int} {ts : List It} {ls : List Te} (h : NdAt lo hi w p q r s ps is ts ls) (hw : Only lo' hi' w w') (hd : hi ≤ lo' ∨ hi' ≤ lo) : NdAt lo hi w' p q r s ps is ts ls :=
  ⟨⟨h.vw.ps.only hw hd, h.vw.is.only hw hd⟩, h.ts.only hw hd, h.ls.only hw hd⟩

end Go.Proofs.Ytghamcomjfholaa
