
/-
  Plain mathematics of layer 2: places by their distance from a base, each once; the nearest one from a key on.
-/
import Derived.Test.YtghamcomjfholaaRingRef
import Derived.Lib.SlicesCompact
namespace Go.Proofs.Ytghamcomjfholaa

/-! ### Striking out what stands twice -/
/-! ### The owner -/
/-- Of g 0 to g k the one that is nearest from the key on (of equals the first). -/
def nearAt (key : Int) (g : Nat → Int) : Nat → Int
  | 0 => g 0
  | k + 1 => if far key (g (k + 1)) < far key (nearAt key g k) then g (k + 1) else nearAt key g k
def ownerOf (xs : List Int) (key : Int) : Int := nearAt key (fun j => xs.getD j 0) (xs.length - 1)

theorem nearAt_mem (key : Int) (g : Nat → Int) : ∀ k, ∃ j, j ≤ k ∧ nearAt key g k = g j
  | 0 => ⟨0, Nat.le_refl _, rfl⟩
  | k + 1 => by
    unfold nearAt
    split
    · exact ⟨k + 1, Nat.le_refl _, rfl⟩
    · obtain ⟨j, hj, e⟩ := nearAt_mem key g k
      exact ⟨j, by omega, e⟩
theorem ownerOf_mem {xs : List Int} (key : Int) (h : xs ≠ []) : ownerOf xs key ∈ xs := by
  have hl : 0 < xs.length := List.length_pos_iff.2 h
  obtain ⟨j, hj, e⟩ := nearAt_mem key (fun j => xs.getD j 0) (xs.length - 1)
  unfold ownerOf
  rw [e]
  have hjl : j < xs.length := by omega
  simp [List.getD, List.getElem?_eq_getElem hjl]
/-! ### What is answered -/
/-- May the base and the list be sorted? -/
def rowB (b : Int) (xs : List Int) : Bool := decide (xs.length ≤ 64) && plB b && plsB xs
theorem rowB_yes {b : Int} {xs : List Int} (h : rowB b xs = true) : xs.length ≤ 64 ∧ plB b = true ∧ plsB xs = true := by
  simp [rowB] at h; exact ⟨h.1.1, h.1.2, h.2⟩
def ownV (xs : List Int) (b : Int) : Int := if rowB b xs = true ∧ xs ≠ [] then ownerOf xs b else 0
def ownE (xs : List Int) (b : Int) : Int := if rowB b xs = true ∧ xs ≠ [] then 0 else 200
theorem rowB_mk {b : Int} {xs : List Int} (hl : xs.length ≤ 64) (hb : plB b = true) (hx : plsB xs = true) : rowB b xs = true := by simp [rowB, hl, hb, hx]

theorem ownV_yes {xs : List Int} {b : Int} (h : rowB b xs = true) (h0 : xs ≠ []) : ownV xs b = ownerOf xs b ∧ ownE xs b = 0 := by
  unfold ownV ownE; rw [if_pos ⟨h, h0⟩, if_pos ⟨h, h0⟩]; exact ⟨rfl, rfl⟩
/-! ### The sorted list, place by place -/
/-! ### In another row -/
end Go.Proofs.Ytghamcomjfholaa
