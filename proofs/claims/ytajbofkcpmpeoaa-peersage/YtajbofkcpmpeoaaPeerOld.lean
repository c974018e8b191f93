
/-
  Peers as plain lists: what ageing tells of each.
-/
import Derived.Test.YtajbofkcpmpeoaaPeerMath
namespace Go.Proofs.Ytajbofkcpmpeoaa

theorem agA_app (xs ys : List Pe) : agA (xs ++ ys) = agA xs ++ agA ys := by simp [agA]
theorem agD_app (xs ys : List Pe) : agD (xs ++ ys) = agD xs ++ agD ys := by simp [agD]
theorem agA_at {xs : List Pe} {k : Nat} (hk : k < xs.length) (hp : ¬ agP xs[k] = true) : (agA (xs.take k)).length < (agA xs).length ∧ (agA xs).getD (agA (xs.take k)).length ⟨0, 0⟩ = ⟨xs[k].n, xs[k].m + 1⟩ := by
  have e : agA xs = agA (xs.take k) ++ ⟨xs[k].n, xs[k].m + 1⟩ :: agA (xs.drop (k + 1)) := by
    conv => lhs; rw [← List.take_append_drop k xs, List.drop_eq_getElem_cons hk, agA_app]
    congr 1
    unfold agA
    rw [List.filter_cons_of_pos (by simpa using hp)]
    rfl
  rw [e]
  constructor
  · rw [List.length_append, List.length_cons]; omega
  · simp [List.getD]
theorem agD_at {xs : List Pe} {k : Nat} (hk : k < xs.length) (hp : agP xs[k] = true) : (agD (xs.take k)).length < (agD xs).length ∧ (agD xs).getD (agD (xs.take k)).length 0 = xs[k].n := by
  have e : agD xs = agD (xs.take k) ++ xs[k].n :: agD (xs.drop (k + 1)) := by
    conv => lhs; rw [← List.take_append_drop k xs, List.drop_eq_getElem_cons hk, agD_app]
    congr 1
    unfold agD
    rw [List.filter_cons_of_pos hp]
    rfl
  rw [e]
  constructor
  · rw [List.length_append, List.length_cons]; omega
  · simp [List.getD]
theorem agA_ne {xs : List Pe} {i : Nat} (hi : i < (agA xs).length) : ¬ ((agA xs).getD i ⟨0, 0⟩).m = 3 := by
  rw [getD_in _ _ hi]
  have := List.getElem_mem hi
  unfold agA at this
  obtain ⟨q, hq, e⟩ := List.mem_map.1 this
  have h2 := (List.mem_filter.1 hq).2
  have h3 : ¬ q.m + 1 = 3 := by simpa [agP] using h2
  have e2 : (agA xs)[i].m = q.m + 1 := (congrArg Pe.m e).symm
  omega

end Go.Proofs.Ytajbofkcpmpeoaa
