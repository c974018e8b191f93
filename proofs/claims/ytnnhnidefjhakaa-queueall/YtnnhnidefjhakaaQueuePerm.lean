
/-
  Plain: what is left of a list when some of it is marked.
-/
import Derived.Test.YtnnhnidefjhakaaQueueMath
namespace Go.Proofs.Ytnnhnidefjhakaa
open Go.RowKit

/-- Those of xs that are not marked. -/
def unM : List Mg → List Bool → List Mg
  | x :: xs, u :: us => if u = true then unM xs us else x :: unM xs us
  | _, _ => []
theorem unM_none : ∀ (xs : List Mg) (n : Nat), xs.length ≤ n → unM xs (List.replicate n false) = xs
  | [], n, _ => by cases n <;> rfl
  | x :: xs, 0, h => by simp at h
  | x :: xs, n + 1, h => by
    rw [List.replicate_succ, unM, if_neg (by decide), unM_none xs n (by simpa using h)]
theorem unM_mem : ∀ (xs : List Mg) (us : List Bool) (m : Mg), m ∈ unM xs us → ∃ j, ∃ (h1 : j < xs.length) (h2 : j < us.length), us[j] = false ∧ xs[j] = m
  | [], us, m, h => by cases us <;> cases h
  | x :: xs, [], m, h => by cases h
  | x :: xs, u :: us, m, h => by
    rw [unM] at h
    cases u with
    | true =>
      rw [if_pos rfl] at h
      obtain ⟨j, h1, h2, h3, h4⟩ := unM_mem xs us m h
      exact ⟨j + 1, by simpa using h1, by simpa using h2, h3, h4⟩
    | false =>
      rw [if_neg (by decide)] at h
      rcases List.mem_cons.1 h with rfl | h
      · exact ⟨0, by simp, by simp, rfl, rfl⟩
      · obtain ⟨j, h1, h2, h3, h4⟩ := unM_mem xs us m h
        exact ⟨j + 1, by simpa using h1, by simpa using h2, h3, h4⟩
theorem unM_take : ∀ (xs : List Mg) (us : List Bool) (j : Nat) (h1 : j < xs.length) (h2 : j < us.length), us[j] = false → (unM xs us).Perm (xs[j] :: unM xs (us.set j true))
  | x :: xs, u :: us, 0, _, _, h => by
    simp only [List.getElem_cons_zero] at h
    subst h
    simp only [List.set_cons_zero, List.getElem_cons_zero, unM, if_true]
    exact List.Perm.refl _
  | x :: xs, u :: us, j + 1, h1, h2, h => by
    have ih := unM_take xs us j (by simpa using h1) (by simpa using h2) (by simpa using h)
    simp only [List.set_cons_succ, List.getElem_cons_succ, unM]
    cases u with
    | true => simpa using ih
    | false =>
      simp only [Bool.false_eq_true, if_false]
      exact (ih.cons x).trans (List.Perm.swap _ _ _)
theorem unM_step {xs : List Mg} {us : List Bool} {m : Mg} {ms : List Mg} (hp : (unM xs us).Perm (m :: ms)) {j : Nat} (h1 : j < xs.length) (h2 : j < us.length) (hu : us[j] = false) (hx : xs[j] = m) : (unM xs (us.set j true)).Perm ms := by
  have := (unM_take xs us j h1 h2 hu).symm.trans hp
  rw [hx] at this
  exact List.Perm.cons_inv this
/-- One taken out and put behind. -/
theorem perm_pick {S Q ms : List Mg} (hp : (S ++ Q).Perm ms) {j : Nat} (hj : j < Q.length) : ((S ++ [Q[j]]) ++ (Q.take j ++ Q.drop (j + 1))).Perm ms := by
  have e : Q = Q.take j ++ Q[j] :: Q.drop (j + 1) := by
    rw [← List.drop_eq_getElem_cons hj, List.take_append_drop]
  refine List.Perm.trans ?_ hp
  rw [List.append_assoc]
  refine List.Perm.append_left S ?_
  conv => rhs; rw [e]
  exact (List.perm_middle (a := Q[j]) (l₁ := Q.take j) (l₂ := Q.drop (j + 1))).symm

end Go.Proofs.Ytnnhnidefjhakaa
