
/-
  Parts of the ring as plain lists: which items are within, in their row.
-/
import Derived.Test.YtekefbhpkpoghaaStoreMath
import Derived.Test.YtekefbhpkpoghaaRing
namespace Go.Proofs.Ytekefbhpkpoghaa

def spP (a b : Int) (i : It) : Bool := inB a i.k b
def spOk (xs : List It) (a b : Int) : Bool := stB xs && (plB a && plB b)
def spL (xs : List It) (a b : Int) : List It := if spOk xs a b = true then xs.filter (spP a b) else []
def spE (xs : List It) (a b : Int) : Int := if spOk xs a b = true then 0 else 600
theorem sp_yes {xs : List It} {a b : Int} (hs : stB xs = true) (ha : plB a = true) (hb : plB b = true) : spL xs a b = xs.filter (spP a b) ∧ spE xs a b = 0 := by simp [spL, spE, spOk, hs, ha, hb]
theorem sp_no {xs : List It} {a b : Int} (h : stB xs = false ∨ plB a = false ∨ plB b = false) : spL xs a b = [] ∧ spE xs a b = 600 := by
  have : spOk xs a b = false := by rcases h with h | h | h <;> simp [spOk, h]
  simp [spL, spE, this]
theorem itB_place {x : It} (h : itB x = true) : plB x.k = true := by
  simp [itB, byB] at h
  exact plB_mk (by omega) (by omega)
theorem filter_next {xs : List It} {p : It → Bool} {m : Nat} (hm : m < xs.length) : (xs.take (m + 1)).filter p = (xs.take m).filter p ++ (if p xs[m] = true then [xs[m]] else []) := by
  rw [take_next hm, List.filter_append]
  congr 1
  by_cases h : p xs[m] = true
  · rw [if_pos h, List.filter_cons_of_pos h, List.filter_nil]
  · rw [if_neg h, List.filter_cons_of_neg h, List.filter_nil]
theorem filter_take_len {xs : List It} {p : It → Bool} (m : Nat) : ((xs.take m).filter p).length ≤ m := Nat.le_trans (List.length_filter_le _ _) (by simp; omega)

end Go.Proofs.Ytekefbhpkpoghaa
