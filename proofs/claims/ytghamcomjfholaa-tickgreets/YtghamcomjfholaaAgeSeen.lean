
/-
  Who was seen, by one mark a place, in 256 cells.
-/
import Derived.Test.YtghamcomjfholaaOld
import Derived.Test.YtghamcomjfholaaAgeMath
import Derived.Test.YtghamcomjfholaaOnly
import Derived.Great.Walk
namespace Go.Proofs.Ytghamcomjfholaa
open Go.RowKit

/-- One cell a place: is it one of these? -/
def seenC (xs : List Int) : Array Value := ((List.range 256).map fun c : Nat => Value.bool (decide ((c : Int) ∈ xs))).toArray
theorem seen_size (xs : List Int) : (seenC xs).size = 256 := by simp [seenC]
theorem seen_at (xs : List Int) (c : Nat) (hc : c < 256) : (seenC xs)[c]? = some (.bool (decide ((c : Int) ∈ xs))) := by simp [seenC, hc]
theorem seen_none : seenC [] = Array.replicate 256 (Value.bool false) := by
  apply Array.ext
  · simp [seenC]
  · intro i h1 h2
    simp [seenC]
theorem seen_put (xs : List Int) (c : Nat) : seenC (xs ++ [(c : Int)]) = (seenC xs).setIfInBounds c (.bool true) := by
  apply Array.ext
  · simp [seenC]
  · intro i h1 h2
    have hi : i < 256 := by simpa [seenC] using h1
    rw [Array.getElem_setIfInBounds]
    by_cases e : c = i
    · subst e
      simp [seenC]
    · rw [if_neg e]
      have e' : ¬ (i : Int) = (c : Int) := by omega
      simp [seenC, e']
    · simpa [seenC] using hi
/-- 256 marks are laid, none of them set. -/
theorem run256 (ρ : Operand → Value) (w : World) (d : Option Tmp) (t : TypeId) (p : String) (af : Array Edge) : (execOp ρ ⟨d, .alloc 45, t, p, af, none⟩).run Try.prog w = .ok (.value (.pointer (some ⟨w.heap.size, 0, none⟩))) (w.alloc (.cells (Array.replicate 256 (.bool false)) 45)) := by kernel_rfl
theorem alloc256 {ops : Array Oper} {rest : List Oper} {o : Oper} {a : Act} {w : World} {Q : Exit → Act → World → Prop} (hg : o.guard = none) (ho : o.op = .alloc 45)
    (h : ∀ w', Box w' w.heap.size (seenC []) → Below w.heap.size w w' → wpList Try.prog ops Q rest (a.put o.dst (.pointer (some ⟨w.heap.size, 0, none⟩))) w') : wpList Try.prog ops Q (o :: rest) a w := by
  obtain ⟨d, op, t, p, af, g⟩ := o
  dsimp only at hg ho
  subst hg ho
  refine Great.wpList_runTo rfl _ rfl _ _ (run256 _ _ _ _ _ _) ?_
  exact h _ (by rw [seen_none]; exact Box.new _ _ _) ((Below.refl _ w).onA _)
/-- A place of the list, as the number of its cell. -/
theorem seen_nat {x : Int} (h : plB x = true) : ∃ z : Nat, x = (z : Int) ∧ z < 256 ∧ (z : Int) < 256 := by
  have := plB_yes h
  exact ⟨x.toNat, by omega, by omega, by omega⟩
/-- The next of a list without doubles is not among those ahead of it. -/
theorem nodup_next {xs : List Int} (h : xs.Nodup) {k : Nat} (hk : k < xs.length) : ¬ xs.getD k 0 ∈ xs.take k := by
  rw [getD_in _ _ hk]
  intro hin
  have h1 := take_step hk
  have h2 : (xs.take (k + 1)).Nodup := h.sublist (List.take_sublist _ _)
  rw [h1, List.nodup_append] at h2
  exact h2.2.2 _ hin _ (by simp) rfl

end Go.Proofs.Ytghamcomjfholaa
