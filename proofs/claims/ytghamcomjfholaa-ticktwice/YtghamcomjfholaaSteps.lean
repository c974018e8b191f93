
/-
  A call of a Go function as one step of a region that draws its order.
-/
import Derived.Test.YtghamcomjfholaaRows
import Derived.Test.YtghamcomjfholaaOnly
import Derived.Orders
namespace Go.Proofs.Ytghamcomjfholaa
open Go.ChangeShapes Go.WideShapes Go.ChangeAt Go.RowKit

/-- A call of a Go function, as one step of a region that draws its order. -/
theorem step_call {ops : Array Oper} {o : Oper} {a : Act} {w : World} {K : Act → World → Prop} {Q : Exit → Act → World → Prop} {E : Prop} (hg : o.guard = none) {F : FuncId} {args : Array Value} {R : Ending → World → Prop}
    (hrun : (execOp a.eval o).run Try.prog w = .ok (.enter F args) w) (hc : Calls Try.prog F args w R) (hK : ∀ e w', R e w' → ∃ v, e = .returned v ∧ K (a.put o.dst v) w') :
    if Region.wanted o (yielded ops a.tmps) = true then Oper.wp Try.prog o a w K Q else E := by
  have hw : Region.wanted o (yielded ops a.tmps) = true := by simp [Region.wanted, hg]
  rw [if_pos hw]
  unfold Oper.wp
  rw [hrun]
  refine hc.mono fun e w' h => ?_
  obtain ⟨v, rfl, h2⟩ := hK e w' h
  exact h2

end Go.Proofs.Ytghamcomjfholaa
