
/-
  Plain lists: parts of them, and what is left of them by a test.
-/
import Derived.Test.YtnadallefpahjaaBase
namespace Go.Proofs.Ytnadallefpahjaa

theorem getD_in {α : Type} (xs : List α) (d : α) {j : Nat} (hj : j < xs.length) : xs.getD j d = xs[j] := by simp [List.getD, List.getElem?_eq_getElem hj]
theorem take_step {α : Type} {xs : List α} {k : Nat} (hk : k < xs.length) : xs.take (k + 1) = xs.take k ++ [xs[k]] := List.take_succ_eq_append_getElem hk
theorem filter_cut {α : Type} {xs : List α} {p : α → Bool} {m : Nat} (h1 : ∀ x ∈ xs.take m, p x = true) (h2 : ∀ x ∈ xs.drop m, p x = false) : xs.filter p = xs.take m := by
  conv => lhs; rw [← List.take_append_drop m xs]
  rw [List.filter_append, List.filter_eq_self.2 h1, List.filter_eq_nil_iff.2 (fun x hx => by simp [h2 x hx]), List.append_nil]
theorem filter_tail {α : Type} {xs : List α} {p : α → Bool} {m : Nat} (h1 : ∀ x ∈ xs.take m, p x = false) (h2 : ∀ x ∈ xs.drop m, p x = true) : xs.filter p = xs.drop m := by
  conv => lhs; rw [← List.take_append_drop m xs]
  rw [List.filter_append, List.filter_eq_self.2 h2, List.filter_eq_nil_iff.2 (fun x hx => by simp [h1 x hx]), List.nil_append]
theorem mem_take_at {α : Type} {xs : List α} {m : Nat} {x : α} (h : x ∈ xs.take m) : ∃ j, ∃ hj : j < xs.length, j < m ∧ xs[j] = x := by
  obtain ⟨j, hj, rfl⟩ := List.mem_iff_getElem.1 h
  have : j < m ∧ j < xs.length := by rw [List.length_take] at hj; omega
  exact ⟨j, this.2, this.1, by rw [List.getElem_take]⟩
theorem mem_drop_at {α : Type} {xs : List α} {m : Nat} {x : α} (h : x ∈ xs.drop m) : ∃ j, ∃ hj : j < xs.length, m ≤ j ∧ xs[j] = x := by
  obtain ⟨j, hj, rfl⟩ := List.mem_iff_getElem.1 h
  have : m + j < xs.length := by rw [List.length_drop] at hj; omega
  exact ⟨m + j, this, Nat.le_add_right _ _, by rw [List.getElem_drop]⟩
end Go.Proofs.Ytnadallefpahjaa
