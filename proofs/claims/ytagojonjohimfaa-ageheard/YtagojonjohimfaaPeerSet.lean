
/-
  Peers as plain lists: what hearing one leaves of the others; what ageing tells of each.
-/
import Derived.Test.YtagojonjohimfaaPeerMath
namespace Go.Proofs.Ytagojonjohimfaa

def ndB (d : Int) (p : Pe) : Bool := !decide (p.n = d)
theorem split_rise {b d : Int} : ∀ {xs : List Pe}, Rise b xs → xs.filter (ltB b d) ++ xs.filter (fun p => !ltB b d p) = xs
  | [], _ => rfl
  | x :: xs, h => by
    rw [Rise, List.pairwise_cons] at h
    by_cases hx : ltB b d x = true
    · rw [List.filter_cons_of_pos hx, List.filter_cons_of_neg (by simp [hx]), List.cons_append, split_rise h.2]
    · have hx2 : far b d ≤ far b x.n := by simp [ltB] at hx; omega
      rw [List.filter_cons_of_neg hx, List.filter_cons_of_pos (by simpa using hx), List.filter_eq_nil_iff.2 (fun y hy => by have := h.1 y hy; simp only [ltB, decide_eq_true_iff]; omega), List.filter_eq_self.2 (fun y hy => by have := h.1 y hy; simp only [ltB, Bool.not_eq_true', decide_eq_false_iff_not]; omega)]
      rfl
theorem gt_of_ge {b d : Int} {xs : List Pe} (hp : ∀ p ∈ xs, plB p.n = true) (hd : plB d = true) : (xs.filter (fun p => !ltB b d p)).filter (ndB d) = xs.filter (gtB7 b d) := by
  rw [List.filter_filter]
  refine List.filter_congr fun p hx => ?_
  rw [Bool.eq_iff_iff]
  simp only [ndB, ltB, gtB7, Bool.and_eq_true, Bool.not_eq_true', decide_eq_false_iff_not, decide_eq_true_iff]
  constructor
  · rintro ⟨h1, h2⟩
    have : far b p.n ≠ far b d := fun e => h1 (far_inj (hp p hx) hd e)
    omega
  · intro h
    exact ⟨fun e => by rw [e] at h; omega, by omega⟩
theorem lt_nd {b d : Int} (xs : List Pe) : (xs.filter (ltB b d)).filter (ndB d) = xs.filter (ltB b d) :=
  List.filter_eq_self.2 fun p hp => by
    have : far b p.n < far b d := by simpa [ltB] using (List.mem_filter.1 hp).2
    simp only [ndB, Bool.not_eq_true', decide_eq_false_iff_not]
    intro e; rw [e] at this; omega
theorem gt_nd {b d : Int} (xs : List Pe) : (xs.filter (gtB7 b d)).filter (ndB d) = xs.filter (gtB7 b d) :=
  List.filter_eq_self.2 fun p hp => by
    have : far b d < far b p.n := by simpa [gtB7] using (List.mem_filter.1 hp).2
    simp only [ndB, Bool.not_eq_true', decide_eq_false_iff_not]
    intro e; rw [e] at this; omega
/-- Hearing one leaves all others as they are. -/
theorem other_same {b d : Int} {xs : List Pe} (hr : Rise b xs) (hp : ∀ p ∈ xs, plB p.n = true) (hd : plB d = true) : (hdI b xs d).filter (ndB d) = xs.filter (ndB d) := by
  have h1 : xs.filter (ndB d) = xs.filter (ltB b d) ++ xs.filter (gtB7 b d) := by
    conv => lhs; rw [← split_rise (d := d) hr]
    rw [List.filter_append, lt_nd, gt_of_ge hp hd]
  rw [h1]
  unfold hdI
  rw [List.filter_append, List.filter_cons_of_neg (by simp [ndB]), lt_nd, gt_nd]
theorem other_len {b d : Int} {xs : List Pe} (hr : Rise b xs) (hp : ∀ p ∈ xs, plB p.n = true) (hd : plB d = true) : (hdI b xs d).length = (xs.filter (ndB d)).length + 1 := by
  rw [← other_same hr hp hd]
  unfold hdI
  rw [List.filter_append, List.filter_cons_of_neg (by simp [ndB]), lt_nd, gt_nd, List.length_append, List.length_append, List.length_cons]
  omega
theorem hdI_at {b d : Int} (xs : List Pe) : ∃ h : posP b xs d < (hdI b xs d).length, (hdI b xs d)[posP b xs d] = ⟨d, 0⟩ := by
  have hl : posP b xs d < (hdI b xs d).length := by unfold hdI posP; rw [List.length_append, List.length_cons]; omega
  have g : ∀ (l r : List Pe) (x : Pe) (h : l.length < (l ++ x :: r).length), (l ++ x :: r)[l.length] = x := by
    intro l r x h
    simp
  exact ⟨hl, g _ _ _ hl⟩
theorem hdI_off {b d : Int} (xs : List Pe) (j : Nat) (hj : j < (hdI b xs d).length) (hne : j ≠ posP b xs d) : ¬ (hdI b xs d)[j].n = d := by
  intro e
  unfold hdI at hj e
  unfold posP at hne
  rcases Nat.lt_or_ge j (xs.filter (ltB b d)).length with h | h
  · rw [List.getElem_append_left h] at e
    have : far b (xs.filter (ltB b d))[j].n < far b d := by simpa [ltB] using (List.mem_filter.1 (List.getElem_mem h)).2
    rw [e] at this
    omega
  · rw [List.getElem_append_right h] at e
    obtain ⟨i, hi⟩ : ∃ i, j - (xs.filter (ltB b d)).length = i + 1 := ⟨j - (xs.filter (ltB b d)).length - 1, by omega⟩
    simp only [hi, List.getElem_cons_succ] at e
    have hl : i < (xs.filter (gtB7 b d)).length := by rw [List.length_append, List.length_cons] at hj; omega
    have : far b d < far b (xs.filter (gtB7 b d))[i].n := by simpa [gtB7] using (List.mem_filter.1 (List.getElem_mem hl)).2
    rw [e] at this
    omega

end Go.Proofs.Ytagojonjohimfaa
