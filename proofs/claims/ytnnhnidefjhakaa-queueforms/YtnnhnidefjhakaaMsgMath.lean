
/-
  Messages as plain data: what may be, and what of it a greeting, an item, an asking and a telling ask.
-/
import Derived.Test.YtnnhnidefjhakaaItem
import Derived.Test.YtnnhnidefjhakaaPlaceMath
namespace Go.Proofs.Ytnnhnidefjhakaa
open Go.RowKit

def zeB (t : It) : Bool := decide (t = ⟨0, 0, 0, 0, false⟩)
/-- May these be named? -/
def nmdB (is : List Int) : Bool := decide (is.length ≤ 16) && plsB is
def grtB (is : List Int) (k : Int) (t : It) (h : Bool) : Bool := nmdB is && (decide (k = 0) && (zeB t && !h))
def brgB (m : Nat) (k : Int) (t : It) (h : Bool) : Bool := decide (m = 0) && (decide (k = 0) && (itB t && !h))
def askB (m : Nat) (k : Int) (t : It) (h : Bool) : Bool := decide (m = 0) && (plB k && (zeB t && !h))
def telB (m : Nat) (k : Int) (t : It) (h : Bool) : Bool := decide (m = 0) && (plB k && (if h = true then itB t && decide (t.k = k) else zeB t))
def knB (n : Int) (is : List Int) (k : Int) (t : It) (h : Bool) : Bool :=
  if n = 0 then grtB is k t h else if n = 1 then brgB is.length k t h else if n = 2 then askB is.length k t h else if n = 3 then telB is.length k t h else false
def endB (a b : Int) : Bool := plB a && (plB b && decide (a ≠ b))
def mgB (n a b : Int) (is : List Int) (k : Int) (t : It) (h : Bool) : Bool := endB a b && knB n is k t h

theorem ze_yes {t : It} (h : zeB t = true) : t = ⟨0, 0, 0, 0, false⟩ := by simpa [zeB] using h
theorem end_turn (a b : Int) : endB b a = endB a b := by
  unfold endB
  rw [Bool.and_left_comm, decide_eq_decide.2 (ne_comm (a := b) (b := a))]
theorem ne_first {t : It} (h : ¬ t = ⟨0, 0, 0, 0, false⟩) : ¬ t.k = 0 ∨ (t.k = 0 ∧ ¬ t.c = 0) ∨ (t.k = 0 ∧ t.c = 0 ∧ ¬ t.u = 0) ∨ (t.k = 0 ∧ t.c = 0 ∧ t.u = 0 ∧ ¬ t.x = 0) ∨ (t.k = 0 ∧ t.c = 0 ∧ t.u = 0 ∧ t.x = 0 ∧ t.g = true) := by
  obtain ⟨k, c, u, x, g⟩ := t
  by_cases h1 : k = 0 <;> by_cases h2 : c = 0 <;> by_cases h3 : u = 0 <;> by_cases h4 : x = 0 <;> cases g <;> simp_all

end Go.Proofs.Ytnnhnidefjhakaa
