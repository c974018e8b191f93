
/-
  Peers as plain lists: by rising distance from a base; who is heard; who is left and who is lost when they age.
-/
import Derived.Test.YtnadallefpahjaaPlaceMath
import Derived.Test.YtnadallefpahjaaListMath
import Derived.Test.YtnadallefpahjaaPeerRow
namespace Go.Proofs.Ytnadallefpahjaa

abbrev Rise (b : Int) (xs : List Pe) : Prop := xs.Pairwise (fun p q => far b p.n < far b q.n)
def miB (m : Int) : Bool := decide (0 ≤ m ∧ m < 3)
def peB (b : Int) (p : Pe) : Bool := decide (plB p.n = true ∧ ¬ p.n = b ∧ miB p.m = true)
def psB (b : Int) (xs : List Pe) : Bool := decide (plB b = true ∧ (∀ p ∈ xs, peB b p = true) ∧ Rise b xs ∧ xs.length ≤ 16)
theorem psB_iff {b : Int} {xs : List Pe} : psB b xs = true ↔ plB b = true ∧ (∀ p ∈ xs, peB b p = true) ∧ Rise b xs ∧ xs.length ≤ 16 := by simp [psB]
theorem peB_iff {b : Int} {p : Pe} : peB b p = true ↔ plB p.n = true ∧ ¬ p.n = b ∧ miB p.m = true := by simp [peB]
theorem miB_yes {m : Int} (h : miB m = true) : 0 ≤ m ∧ m < 3 := by simpa [miB] using h

/-! ### Who is heard -/
def ltB (b d : Int) (p : Pe) : Bool := decide (far b p.n < far b d)
def gtB7 (b d : Int) (p : Pe) : Bool := decide (far b d < far b p.n)
def hdI (b : Int) (xs : List Pe) (d : Int) : List Pe := xs.filter (ltB b d) ++ ⟨d, 0⟩ :: xs.filter (gtB7 b d)
/-- Where a place stands, or is to stand. -/
structure PosP (b : Int) (xs : List Pe) (d : Int) (m : Nat) : Prop where
  le : m ≤ xs.length
  lt : ∀ t, t < m → far b (xs.getD t ⟨0, 0⟩).n < far b d
  ge : ∀ t, m ≤ t → t < xs.length → far b d ≤ far b (xs.getD t ⟨0, 0⟩).n
/-- Is it there? -/
def thereB (xs : List Pe) (d : Int) : Bool := decide (∃ p ∈ xs, p.n = d)
def posP (b : Int) (xs : List Pe) (d : Int) : Nat := (xs.filter (ltB b d)).length
theorem PosP.eq {b : Int} {xs : List Pe} {d : Int} {m : Nat} (h : PosP b xs d m) : m = posP b xs d := by
  unfold posP
  rw [filter_cut (m := m) (p := ltB b d)]
  · rw [List.length_take]; have := h.le; omega
  · intro x hx
    obtain ⟨j, hj, hjm, rfl⟩ := mem_take_at hx
    have := h.lt j hjm
    rw [getD_in _ _ hj] at this
    simpa [ltB] using this
  · intro x hx
    obtain ⟨j, hj, hjm, rfl⟩ := mem_drop_at hx
    have := h.ge j hjm hj
    rw [getD_in _ _ hj] at this
    simpa [ltB] using this
theorem PosP.there {b : Int} {xs : List Pe} {d : Int} {m : Nat} (h : PosP b xs d m) (hr : Rise b xs) (hp : ∀ p ∈ xs, plB p.n = true) (hd : plB d = true) : (decide (m < xs.length) && decide (far b (xs.getD m ⟨0, 0⟩).n = far b d)) = thereB xs d := by
  unfold thereB
  rw [Bool.eq_iff_iff, Bool.and_eq_true_iff, decide_eq_true_iff, decide_eq_true_iff, decide_eq_true_iff]
  constructor
  · rintro ⟨hm, he⟩
    rw [getD_in _ _ hm] at he
    exact ⟨xs[m], List.getElem_mem hm, far_inj (hp _ (List.getElem_mem hm)) hd he⟩
  · rintro ⟨p, hx, rfl⟩
    obtain ⟨j, hj, rfl⟩ := List.mem_iff_getElem.1 hx
    have h1 : m ≤ j := by
      rcases Nat.lt_or_ge j m with h0 | h0
      · have := h.lt j h0
        rw [getD_in _ _ hj] at this
        omega
      · exact h0
    have hm : m < xs.length := by omega
    refine ⟨hm, ?_⟩
    have := h.ge m (Nat.le_refl _) hm
    rw [getD_in _ _ hm] at this ⊢
    rcases Nat.lt_or_ge m j with h2 | h2
    · have := List.pairwise_iff_getElem.1 hr m j hm hj h2
      omega
    · obtain rfl : m = j := by omega
      rfl
theorem PosP.new {b : Int} {xs : List Pe} {d : Int} {m : Nat} (h : PosP b xs d m) (hp : ∀ p ∈ xs, plB p.n = true) (hd : plB d = true) (ht : thereB xs d = false) : hdI b xs d = xs.take m ++ (⟨d, 0⟩ :: xs.drop m) := by
  have hne : ∀ p ∈ xs, ¬ p.n = d := by simpa [thereB] using ht
  unfold hdI
  rw [filter_cut (m := m) (p := ltB b d), filter_tail (m := m) (p := gtB7 b d)]
  · intro x hx
    obtain ⟨j, hj, hjm, rfl⟩ := mem_take_at hx
    have := h.lt j hjm
    rw [getD_in _ _ hj] at this
    simp only [gtB7, decide_eq_false_iff_not]; omega
  · intro x hx
    obtain ⟨j, hj, hjm, rfl⟩ := mem_drop_at hx
    have := h.ge j hjm hj
    rw [getD_in _ _ hj] at this
    have h2 : far b d ≠ far b xs[j].n := fun e => hne _ (List.getElem_mem hj) (far_inj (hp _ (List.getElem_mem hj)) hd e.symm)
    simp only [gtB7, decide_eq_true_iff]; omega
  · intro x hx
    obtain ⟨j, hj, hjm, rfl⟩ := mem_take_at hx
    have := h.lt j hjm
    rw [getD_in _ _ hj] at this
    simpa [ltB] using this
  · intro x hx
    obtain ⟨j, hj, hjm, rfl⟩ := mem_drop_at hx
    have := h.ge j hjm hj
    rw [getD_in _ _ hj] at this
    simp only [ltB, decide_eq_false_iff_not]; omega
theorem PosP.set {b : Int} {xs : List Pe} {d : Int} {m : Nat} (h : PosP b xs d m) (hr : Rise b xs) (hp : ∀ p ∈ xs, plB p.n = true) (hd : plB d = true) (ht : thereB xs d = true) :
    ∃ hm : m < xs.length, xs[m].n = d ∧ hdI b xs d = xs.set m ⟨d, 0⟩ := by
  have h0 := h.there hr hp hd
  rw [ht, Bool.and_eq_true_iff, decide_eq_true_iff, decide_eq_true_iff] at h0
  obtain ⟨hm, he⟩ := h0
  rw [getD_in _ _ hm] at he
  refine ⟨hm, far_inj (hp _ (List.getElem_mem hm)) hd he, ?_⟩
  unfold hdI
  rw [filter_cut (m := m) (p := ltB b d), filter_tail (m := m + 1) (p := gtB7 b d), List.set_eq_take_append_cons_drop, if_pos hm]
  · intro x hx
    obtain ⟨j, hj, hjm, rfl⟩ := mem_take_at hx
    simp only [gtB7, decide_eq_false_iff_not]
    rcases Nat.lt_or_ge j m with h2 | h2
    · have := h.lt j h2
      rw [getD_in _ _ hj] at this
      omega
    · obtain rfl : j = m := by omega
      omega
  · intro x hx
    obtain ⟨j, hj, hjm, rfl⟩ := mem_drop_at hx
    have := List.pairwise_iff_getElem.1 hr m j hm hj (by omega)
    simp only [gtB7, decide_eq_true_iff]; omega
  · intro x hx
    obtain ⟨j, hj, hjm, rfl⟩ := mem_take_at hx
    have := h.lt j hjm
    rw [getD_in _ _ hj] at this
    simpa [ltB] using this
  · intro x hx
    obtain ⟨j, hj, hjm, rfl⟩ := mem_drop_at hx
    have := h.ge j hjm hj
    rw [getD_in _ _ hj] at this
    simp only [ltB, decide_eq_false_iff_not]; omega

/-! ### The document's own way to who is heard -/
def HRel (b : Int) (xs : List Pe) (d : Int) (k : Nat) (out : List Pe) (inb : Bool) : Prop :=
  (inb = false ∧ out = xs.take k ∧ ∀ p ∈ xs.take k, far b p.n < far b d) ∨ (inb = true ∧ out = hdI b (xs.take k) d ∧ ∃ p ∈ xs.take k, far b d ≤ far b p.n)
theorem HRel.zero (b : Int) (xs : List Pe) (d : Int) : HRel b xs d 0 [] false := .inl ⟨rfl, by simp, by simp⟩
theorem hdI_app {b : Int} {xs : List Pe} {d : Int} {z : Pe} (hz : far b d < far b z.n) : hdI b (xs ++ [z]) d = hdI b xs d ++ [z] := by
  have h1 : ltB b d z = false := by simp only [ltB, decide_eq_false_iff_not]; omega
  have h2 : gtB7 b d z = true := by simpa [gtB7] using hz
  unfold hdI
  rw [List.filter_append, List.filter_append, List.filter_cons_of_neg (by simp [h1]), List.filter_cons_of_pos h2]
  simp
theorem hdI_all {b : Int} {xs : List Pe} {d : Int} (h : ∀ p ∈ xs, far b p.n < far b d) : hdI b xs d = xs ++ [⟨d, 0⟩] := by
  unfold hdI
  rw [List.filter_eq_self.2 (fun p hp => by simpa [ltB] using h p hp), List.filter_eq_nil_iff.2 (fun p hp => by have := h p hp; simp only [gtB7, decide_eq_true_iff]; omega)]
theorem HRel.lt {b : Int} {xs : List Pe} {d : Int} {k : Nat} {out : List Pe} (h : HRel b xs d k out false) (hk : k < xs.length) (hz : far b xs[k].n < far b d) : HRel b xs d (k + 1) (out ++ [xs[k]]) false := by
  rcases h with ⟨_, rfl, h⟩ | ⟨h, _⟩
  · refine .inl ⟨rfl, (take_step hk).symm, fun p hp => ?_⟩
    rw [take_step hk] at hp
    rcases List.mem_append.1 hp with hp | hp
    · exact h p hp
    · rw [List.mem_singleton.1 hp]; exact hz
  · cases h
theorem HRel.gt {b : Int} {xs : List Pe} {d : Int} {k : Nat} {out : List Pe} (h : HRel b xs d k out false) (hk : k < xs.length) (hz : far b d < far b xs[k].n) : HRel b xs d (k + 1) (out ++ [⟨d, 0⟩] ++ [xs[k]]) true := by
  rcases h with ⟨_, rfl, h⟩ | ⟨h, _⟩
  · refine .inr ⟨rfl, ?_, xs[k], by rw [take_step hk]; exact List.mem_append_right _ (List.mem_singleton.2 rfl), by omega⟩
    rw [take_step hk, hdI_app hz, hdI_all h]
  · cases h
theorem HRel.eq {b : Int} {xs : List Pe} {d : Int} {k : Nat} {out : List Pe} (h : HRel b xs d k out false) (hk : k < xs.length) (hz : xs[k].n = d) : HRel b xs d (k + 1) (out ++ [⟨d, 0⟩]) true := by
  rcases h with ⟨_, rfl, h⟩ | ⟨h, _⟩
  · refine .inr ⟨rfl, ?_, xs[k], by rw [take_step hk]; exact List.mem_append_right _ (List.mem_singleton.2 rfl), by rw [hz]; exact Int.le_refl _⟩
    have h1 : ltB b d xs[k] = false := by simp [ltB, hz]
    have h2 : gtB7 b d xs[k] = false := by simp [gtB7, hz]
    rw [take_step hk, ← hdI_all h]
    unfold hdI
    rw [List.filter_append, List.filter_append, List.filter_cons_of_neg (by simp [h1]), List.filter_cons_of_neg (by simp [h2])]
    simp
  · cases h
theorem HRel.in {b : Int} {xs : List Pe} {d : Int} {k : Nat} {out : List Pe} (h : HRel b xs d k out true) (hr : Rise b xs) (hk : k < xs.length) : HRel b xs d (k + 1) (out ++ [xs[k]]) true ∧ far b d < far b xs[k].n := by
  rcases h with ⟨h, _⟩ | ⟨_, rfl, p, hp, hd⟩
  · cases h
  · have hz : far b d < far b xs[k].n := by
      obtain ⟨j, hj, hjk, rfl⟩ := mem_take_at hp
      have := List.pairwise_iff_getElem.1 hr j k hj hk hjk
      omega
    exact ⟨.inr ⟨rfl, by rw [take_step hk, hdI_app hz], p, by rw [take_step hk]; exact List.mem_append_left _ hp, hd⟩, hz⟩
theorem HRel.len {b : Int} {xs : List Pe} {d : Int} {k : Nat} {out : List Pe} {inb : Bool} (h : HRel b xs d k out inb) : out.length ≤ 2 * k + 1 := by
  rcases h with ⟨_, rfl, _⟩ | ⟨_, rfl, _⟩
  · rw [List.length_take]; omega
  · unfold hdI
    rw [List.length_append, List.length_cons]
    have h1 := List.length_filter_le (ltB b d) (xs.take k)
    have h2 := List.length_filter_le (gtB7 b d) (xs.take k)
    rw [List.length_take] at h1 h2
    omega
theorem HRel.end {b : Int} {xs : List Pe} {d : Int} {out : List Pe} {inb : Bool} (h : HRel b xs d xs.length out inb) : hdI b xs d = if inb = true then out else out ++ [⟨d, 0⟩] := by
  rcases h with ⟨rfl, rfl, h⟩ | ⟨rfl, rfl, _⟩
  · rw [List.take_length] at h ⊢
    rw [if_neg (by simp), hdI_all h]
  · rw [List.take_length, if_pos rfl]

/-! ### Who is left, who is lost -/
/-- May they be, by their places, the distances told by whatever function that is one at places. -/
theorem psB_at (b : Int) (xs : List Pe) (f : Int → Int) (hf : plB b = true → ∀ x, plB x = true → f x = far b x) :
    psB b xs = true ↔ (∀ j, j < xs.length → peB b (xs.getD j ⟨0, 0⟩) = true ∧ (0 < j → f (xs.getD (j - 1) ⟨0, 0⟩).n < f (xs.getD j ⟨0, 0⟩).n)) ∧ plB b = true ∧ xs.length ≤ 16 := by
  rw [psB_iff]
  constructor
  · rintro ⟨h0, h1, h2, h3⟩
    refine ⟨fun j hj => ⟨?_, fun hz => ?_⟩, h0, h3⟩
    · rw [getD_in _ _ hj]
      exact h1 _ (List.getElem_mem hj)
    · have hj1 : j - 1 < xs.length := by omega
      rw [getD_in _ _ hj, getD_in _ _ hj1, hf h0 _ (peB_iff.1 (h1 _ (List.getElem_mem hj))).1, hf h0 _ (peB_iff.1 (h1 _ (List.getElem_mem hj1))).1]
      exact List.pairwise_iff_getElem.1 h2 _ _ _ _ (by omega)
  · rintro ⟨h1, h0, h3⟩
    have hv : ∀ p ∈ xs, peB b p = true := fun x hx => by
      obtain ⟨j, hj, rfl⟩ := List.mem_iff_getElem.1 hx
      have := (h1 j hj).1
      rwa [getD_in _ _ hj] at this
    refine ⟨h0, hv, ?_, h3⟩
    refine List.pairwise_iff_getElem.2 ?_
    have hF : ∀ j (hj : j < xs.length), f xs[j].n = far b xs[j].n := fun j hj => hf h0 _ (peB_iff.1 (hv _ (List.getElem_mem hj))).1
    have step : ∀ d i (hi : i + 1 + d < xs.length), far b (xs[i]'(by omega)).n < far b (xs[i + 1 + d]).n := by
      intro d
      induction d with
      | zero =>
        intro i hi
        have := (h1 (i + 1) hi).2 (by omega)
        rwa [getD_in _ _ hi, getD_in _ _ (show i + 1 - 1 < xs.length by omega), hF _ hi, hF (i + 1 - 1) (by omega)] at this
      | succ d ih =>
        intro i hi
        have a := ih i (by omega)
        have := (h1 (i + 1 + (d + 1)) hi).2 (by omega)
        rw [getD_in _ _ hi, getD_in _ _ (show i + 1 + (d + 1) - 1 < xs.length by omega), hF _ hi, hF (i + 1 + (d + 1) - 1) (by omega)] at this
        have e : xs[i + 1 + (d + 1) - 1]'(by omega) = xs[i + 1 + d]'(by omega) := rfl
        rw [e] at this
        omega
    intro i j hi hj hij
    have := step (j - i - 1) i (by omega)
    have e : i + 1 + (j - i - 1) = j := by omega
    simpa only [e] using this

end Go.Proofs.Ytnadallefpahjaa

namespace Go.Proofs.Ytnadallefpahjaa

abbrev Up (xs : List Int) : Prop := xs.Pairwise (fun x y => x < y)
theorem up_at (xs : List Int) : Up xs ↔ ∀ j, j + 1 < xs.length → xs.getD j 0 < xs.getD (j + 1) 0 := by
  constructor
  · intro h j hj
    rw [getD_in _ _ (by omega), getD_in _ _ hj]
    exact List.pairwise_iff_getElem.1 h j (j + 1) (by omega) hj (by omega)
  · intro h
    refine List.pairwise_iff_getElem.2 fun i j hi hj hij => ?_
    have key : ∀ d, i + 1 + d < xs.length → xs.getD i 0 < xs.getD (i + 1 + d) 0 := by
      intro d
      induction d with
      | zero => intro hd; exact h i hd
      | succ d ih =>
        intro hd
        have h1 := ih (by omega)
        have h2 : xs.getD (i + 1 + d) 0 < xs.getD (i + 1 + (d + 1)) 0 := h (i + 1 + d) (by omega)
        omega
    have := key (j - i - 1) (by omega)
    rw [show i + 1 + (j - i - 1) = j by omega, getD_in _ _ hi, getD_in _ _ hj] at this
    exact this
theorem up_le {xs : List Int} (h : Up xs) (i j : Nat) (hij : i ≤ j) (hj : j < xs.length) : xs.getD i 0 ≤ xs.getD j 0 := by
  have hi : i < xs.length := by omega
  rw [getD_in _ _ hi, getD_in _ _ hj]
  rcases Nat.lt_or_ge i j with h1 | h1
  · exact Int.le_of_lt (List.pairwise_iff_getElem.1 h i j hi hj h1)
  · obtain rfl : i = j := by omega
    exact Int.le_refl _

/-- They may be. -/
def paB (xs : List Int) : Bool := decide (xs.length ≤ 16 ∧ plsB xs = true ∧ Up xs)
theorem paB_iff {xs : List Int} : paB xs = true ↔ xs.length ≤ 16 ∧ plsB xs = true ∧ Up xs := by simp [paB]

/-! ### With one more, without one -/
def loB (d x : Int) : Bool := decide (x < d)
def hiB (d x : Int) : Bool := decide (d < x)
def wiI (xs : List Int) (d : Int) : List Int := xs.filter (loB d) ++ d :: xs.filter (hiB d)
/-- Where a place stands, or is to stand. -/
structure PosI (xs : List Int) (d : Int) (m : Nat) : Prop where
  le : m ≤ xs.length
  lt : ∀ t, t < m → xs.getD t 0 < d
  ge : ∀ t, m ≤ t → t < xs.length → d ≤ xs.getD t 0
def posI (xs : List Int) (d : Int) : Nat := (xs.filter (loB d)).length
theorem PosI.cut {xs : List Int} {d : Int} {m : Nat} (h : PosI xs d m) : xs.filter (loB d) = xs.take m := by
  refine filter_cut (fun x hx => ?_) (fun x hx => ?_)
  · obtain ⟨j, hj, hjm, rfl⟩ := mem_take_at hx
    have := h.lt j hjm
    rw [getD_in _ _ hj] at this
    simpa [loB] using this
  · obtain ⟨j, hj, hjm, rfl⟩ := mem_drop_at hx
    have := h.ge j hjm hj
    rw [getD_in _ _ hj] at this
    simpa [loB] using this
theorem PosI.eq {xs : List Int} {d : Int} {m : Nat} (h : PosI xs d m) : m = posI xs d := by
  unfold posI
  rw [h.cut, List.length_take]
  have := h.le
  omega
theorem PosI.there {xs : List Int} {d : Int} {m : Nat} (h : PosI xs d m) (hr : Up xs) : (decide (m < xs.length) && decide (xs.getD m 0 = d)) = decide (d ∈ xs) := by
  rw [Bool.eq_iff_iff, Bool.and_eq_true_iff, decide_eq_true_iff, decide_eq_true_iff, decide_eq_true_iff]
  constructor
  · rintro ⟨hm, he⟩
    rw [getD_in _ _ hm] at he
    exact he ▸ List.getElem_mem hm
  · intro hx
    obtain ⟨j, hj, rfl⟩ := List.mem_iff_getElem.1 hx
    have h1 : m ≤ j := by
      rcases Nat.lt_or_ge j m with h0 | h0
      · have := h.lt j h0
        rw [getD_in _ _ hj] at this
        omega
      · exact h0
    have hm : m < xs.length := by omega
    refine ⟨hm, ?_⟩
    have h2 := h.ge m (Nat.le_refl _) hm
    have h3 := up_le hr m j h1 hj
    rw [getD_in _ _ hj] at h3
    omega
theorem PosI.new {xs : List Int} {d : Int} {m : Nat} (h : PosI xs d m) (ht : ¬ d ∈ xs) : wiI xs d = xs.take m ++ d :: xs.drop m := by
  unfold wiI
  rw [h.cut, filter_tail (m := m) (p := hiB d)]
  · intro x hx
    obtain ⟨j, hj, hjm, rfl⟩ := mem_take_at hx
    have := h.lt j hjm
    rw [getD_in _ _ hj] at this
    simp only [hiB, decide_eq_false_iff_not]; omega
  · intro x hx
    obtain ⟨j, hj, hjm, rfl⟩ := mem_drop_at hx
    have := h.ge j hjm hj
    rw [getD_in _ _ hj] at this
    have h2 : d ≠ xs[j] := fun e => ht (e ▸ List.getElem_mem hj)
    simp only [hiB, decide_eq_true_iff]; omega

/-! ### The document's own way: all places in their row, those that are in -/
end Go.Proofs.Ytnadallefpahjaa
