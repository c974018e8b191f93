
/-
  Peers as plain lists: by rising distance from a base; who is heard; who is left and who is lost when they age.
-/
import Derived.Test.YtghamcomjfholaaRingRef
import Derived.Test.YtghamcomjfholaaOld
import Derived.Test.YtghamcomjfholaaPeerRow
namespace Go.Proofs.Ytghamcomjfholaa

abbrev Rise (b : Int) (xs : List Pe) : Prop := xs.Pairwise (fun p q => far b p.n < far b q.n)
def miB (m : Int) : Bool := decide (0 ≤ m ∧ m < 3)
def peB (b : Int) (p : Pe) : Bool := decide (plB p.n = true ∧ ¬ p.n = b ∧ miB p.m = true)
def psB (b : Int) (xs : List Pe) : Bool := decide (plB b = true ∧ (∀ p ∈ xs, peB b p = true) ∧ Rise b xs ∧ xs.length ≤ 16)
theorem psB_iff {b : Int} {xs : List Pe} : psB b xs = true ↔ plB b = true ∧ (∀ p ∈ xs, peB b p = true) ∧ Rise b xs ∧ xs.length ≤ 16 := by simp [psB]
theorem peB_iff {b : Int} {p : Pe} : peB b p = true ↔ plB p.n = true ∧ ¬ p.n = b ∧ miB p.m = true := by simp [peB]
theorem miB_yes {m : Int} (h : miB m = true) : 0 ≤ m ∧ m < 3 := by simpa [miB] using h

/-! ### Who is heard -/
def ltB (b d : Int) (p : Pe) : Bool := decide (far b p.n < far b d)
def gtB7 (b d : Int) (p : Pe) : Bool := decide (far b d < far b p.n)
def hdI (b : Int) (xs : List Pe) (d : Int) : List Pe := xs.filter (ltB b d) ++ ⟨d, 0⟩ :: xs.filter (gtB7 b d)
/-- Where a place stands, or is to stand. -/
structure PosP (b : Int) (xs : List Pe) (d : Int) (m : Nat) : Prop where
  le : m ≤ xs.length
  lt : ∀ t, t < m → far b (xs.getD t ⟨0, 0⟩).n < far b d
  ge : ∀ t, m ≤ t → t < xs.length → far b d ≤ far b (xs.getD t ⟨0, 0⟩).n
/-- Is it there? -/
def thereB (xs : List Pe) (d : Int) : Bool := decide (∃ p ∈ xs, p.n = d)
def posP (b : Int) (xs : List Pe) (d : Int) : Nat := (xs.filter (ltB b d)).length
theorem PosP.eq {b : Int} {xs : List Pe} {d : Int} {m : Nat} (h : PosP b xs d m) : m = posP b xs d := by
  unfold posP
  rw [filter_cut (m := m) (p := ltB b d)]
  · rw [List.length_take]; have := h.le; omega
  · intro x hx
    obtain ⟨j, hj, hjm, rfl⟩ := mem_take_at hx
    have := h.lt j hjm
    rw [getD_in _ _ hj] at this
    simpa [ltB] using this
  · intro x hx
    obtain ⟨j, hj, hjm, rfl⟩ := mem_drop_at hx
    have := h.ge j hjm hj
    rw [getD_in _ _ hj] at this
    simpa [ltB] using this
theorem PosP.there {b : Int} {xs : List Pe} {d : Int} {m : Nat} (h : PosP b xs d m) (hr : Rise b xs) (hp : ∀ p ∈ xs, plB p.n = true) (hd : plB d = true) : (decide (m < xs.length) && decide (far b (xs.getD m ⟨0, 0⟩).n = far b d)) = thereB xs d := by
  unfold thereB
  rw [Bool.eq_iff_iff, Bool.and_eq_true_iff, decide_eq_true_iff, decide_eq_true_iff, decide_eq_true_iff]
  constructor
  · rintro ⟨hm, he⟩
    rw [getD_in _ _ hm] at he
    exact ⟨xs[m], List.getElem_mem hm, far_inj (hp _ (List.getElem_mem hm)) hd he⟩
  · rintro ⟨p, hx, rfl⟩
    obtain ⟨j, hj, rfl⟩ := List.mem_iff_getElem.1 hx
    have h1 : m ≤ j := by
      rcases Nat.lt_or_ge j m with h0 | h0
      · have := h.lt j h0
        rw [getD_in _ _ hj] at this
        omega
      · exact h0
    have hm : m < xs.length := by omega
    refine ⟨hm, ?_⟩
    have := h.ge m (Nat.le_refl _) hm
    rw [getD_in _ _ hm] at this ⊢
    rcases Nat.lt_or_ge m j with h2 | h2
    · have := List.pairwise_iff_getElem.1 hr m j hm hj h2
      omega
    · obtain rfl : m = j := by omega
      rfl
theorem PosP.new {b : Int} {xs : List Pe} {d : Int} {m : Nat} (h : PosP b xs d m) (hp : ∀ p ∈ xs, plB p.n = true) (hd : plB d = true) (ht : thereB xs d = false) : hdI b xs d = xs.take m ++ (⟨d, 0⟩ :: xs.drop m) := by
  have hne : ∀ p ∈ xs, ¬ p.n = d := by simpa [thereB] using ht
  unfold hdI
  rw [filter_cut (m := m) (p := ltB b d), filter_tail (m := m) (p := gtB7 b d)]
  · intro x hx
    obtain ⟨j, hj, hjm, rfl⟩ := mem_take_at hx
    have := h.lt j hjm
    rw [getD_in _ _ hj] at this
    simp only [gtB7, decide_eq_false_iff_not]; omega
  · intro x hx
    obtain ⟨j, hj, hjm, rfl⟩ := mem_drop_at hx
    have := h.ge j hjm hj
    rw [getD_in _ _ hj] at this
    have h2 : far b d ≠ far b xs[j].n := fun e => hne _ (List.getElem_mem hj) (far_inj (hp _ (List.getElem_mem hj)) hd e.symm)
    simp only [gtB7, decide_eq_true_iff]; omega
  · intro x hx
    obtain ⟨j, hj, hjm, rfl⟩ := mem_take_at hx
    have := h.lt j hjm
    rw [getD_in _ _ hj] at this
    simpa [ltB] using this
  · intro x hx
    obtain ⟨j, hj, hjm, rfl⟩ := mem_drop_at hx
    have := h.ge j hjm hj
    rw [getD_in _ _ hj] at this
    simp only [ltB, decide_eq_false_iff_not]; omega
theorem PosP.set {b : Int} {xs : List Pe} {d : Int} {m : Nat} (h : PosP b xs d m) (hr : Rise b xs) (hp : ∀ p ∈ xs, plB p.n = true) (hd : plB d = true) (ht : thereB xs d = true) :
    ∃ hm : m < xs.length, xs[m].n = d ∧ hdI b xs d = xs.set m ⟨d, 0⟩ := by
  have h0 := h.there hr hp hd
  rw [ht, Bool.and_eq_true_iff, decide_eq_true_iff, decide_eq_true_iff] at h0
  obtain ⟨hm, he⟩ := h0
  rw [getD_in _ _ hm] at he
  refine ⟨hm, far_inj (hp _ (List.getElem_mem hm)) hd he, ?_⟩
  unfold hdI
  rw [filter_cut (m := m) (p := ltB b d), filter_tail (m := m + 1) (p := gtB7 b d), List.set_eq_take_append_cons_drop, if_pos hm]
  · intro x hx
    obtain ⟨j, hj, hjm, rfl⟩ := mem_take_at hx
    simp only [gtB7, decide_eq_false_iff_not]
    rcases Nat.lt_or_ge j m with h2 | h2
    · have := h.lt j h2
      rw [getD_in _ _ hj] at this
      omega
    · obtain rfl : j = m := by omega
      omega
  · intro x hx
    obtain ⟨j, hj, hjm, rfl⟩ := mem_drop_at hx
    have := List.pairwise_iff_getElem.1 hr m j hm hj (by omega)
    simp only [gtB7, decide_eq_true_iff]; omega
  · intro x hx
    obtain ⟨j, hj, hjm, rfl⟩ := mem_take_at hx
    have := h.lt j hjm
    rw [getD_in _ _ hj] at this
    simpa [ltB] using this
  · intro x hx
    obtain ⟨j, hj, hjm, rfl⟩ := mem_drop_at hx
    have := h.ge j hjm hj
    rw [getD_in _ _ hj] at this
    simp only [ltB, decide_eq_false_iff_not]; omega

/-! ### The document's own way to who is heard -/
def HRel (b : Int) (xs : List Pe) (d : Int) (k : Nat) (out : List Pe) (inb : Bool) : Prop :=
  (inb = false ∧ out = xs.take k ∧ ∀ p ∈ xs.take k, far b p.n < far b d) ∨ (inb = true ∧ out = hdI b (xs.take k) d ∧ ∃ p ∈ xs.take k, far b d ≤ far b p.n)
theorem HRel.zero (b : Int) (xs : List Pe) (d : Int) : HRel b xs d 0 [] false := .inl ⟨rfl, by simp, by simp⟩
theorem hdI_app {b : Int} {xs : List Pe} {d : Int} {z : Pe} (hz : far b d < far b z.n) : hdI b (xs ++ [z]) d = hdI b xs d ++ [z] := by
  have h1 : ltB b d z = false := by simp only [ltB, decide_eq_false_iff_not]; omega
  have h2 : gtB7 b d z = true := by simpa [gtB7] using hz
  unfold hdI
  rw [List.filter_append, List.filter_append, List.filter_cons_of_neg (by simp [h1]), List.filter_cons_of_pos h2]
  simp
theorem hdI_all {b : Int} {xs : List Pe} {d : Int} (h : ∀ p ∈ xs, far b p.n < far b d) : hdI b xs d = xs ++ [⟨d, 0⟩] := by
  unfold hdI
  rw [List.filter_eq_self.2 (fun p hp => by simpa [ltB] using h p hp), List.filter_eq_nil_iff.2 (fun p hp => by have := h p hp; simp only [gtB7, decide_eq_true_iff]; omega)]
theorem HRel.lt {b : Int} {xs : List Pe} {d : Int} {k : Nat} {out : List Pe} (h : HRel b xs d k out false) (hk : k < xs.length) (hz : far b xs[k].n < far b d) : HRel b xs d (k + 1) (out ++ [xs[k]]) false := by
  rcases h with ⟨_, rfl, h⟩ | ⟨h, _⟩
  · refine .inl ⟨rfl, (take_step hk).symm, fun p hp => ?_⟩
    rw [take_step hk] at hp
    rcases List.mem_append.1 hp with hp | hp
    · exact h p hp
    · rw [List.mem_singleton.1 hp]; exact hz
  · cases h
theorem HRel.eq {b : Int} {xs : List Pe} {d : Int} {k : Nat} {out : List Pe} (h : HRel b xs d k out false) (hk : k < xs.length) (hz : xs[k].n = d) : HRel b xs d (k + 1) (out ++ [⟨d, 0⟩]) true := by
  rcases h with ⟨_, rfl, h⟩ | ⟨h, _⟩
  · refine .inr ⟨rfl, ?_, xs[k], by rw [take_step hk]; exact List.mem_append_right _ (List.mem_singleton.2 rfl), by rw [hz]; exact Int.le_refl _⟩
    have h1 : ltB b d xs[k] = false := by simp [ltB, hz]
    have h2 : gtB7 b d xs[k] = false := by simp [gtB7, hz]
    rw [take_step hk, ← hdI_all h]
    unfold hdI
    rw [List.filter_append, List.filter_append, List.filter_cons_of_neg (by simp [h1]), List.filter_cons_of_neg (by simp [h2])]
    simp
  · cases h
theorem HRel.in {b : Int} {xs : List Pe} {d : Int} {k : Nat} {out : List Pe} (h : HRel b xs d k out true) (hr : Rise b xs) (hk : k < xs.length) : HRel b xs d (k + 1) (out ++ [xs[k]]) true ∧ far b d < far b xs[k].n := by
  rcases h with ⟨h, _⟩ | ⟨_, rfl, p, hp, hd⟩
  · cases h
  · have hz : far b d < far b xs[k].n := by
      obtain ⟨j, hj, hjk, rfl⟩ := mem_take_at hp
      have := List.pairwise_iff_getElem.1 hr j k hj hk hjk
      omega
    exact ⟨.inr ⟨rfl, by rw [take_step hk, hdI_app hz], p, by rw [take_step hk]; exact List.mem_append_left _ hp, hd⟩, hz⟩
theorem HRel.len {b : Int} {xs : List Pe} {d : Int} {k : Nat} {out : List Pe} {inb : Bool} (h : HRel b xs d k out inb) : out.length ≤ 2 * k + 1 := by
  rcases h with ⟨_, rfl, _⟩ | ⟨_, rfl, _⟩
  · rw [List.length_take]; omega
  · unfold hdI
    rw [List.length_append, List.length_cons]
    have h1 := List.length_filter_le (ltB b d) (xs.take k)
    have h2 := List.length_filter_le (gtB7 b d) (xs.take k)
    rw [List.length_take] at h1 h2
    omega
theorem HRel.end {b : Int} {xs : List Pe} {d : Int} {out : List Pe} {inb : Bool} (h : HRel b xs d xs.length out inb) : hdI b xs d = if inb = true then out else out ++ [⟨d, 0⟩] := by
  rcases h with ⟨rfl, rfl, h⟩ | ⟨rfl, rfl, _⟩
  · rw [List.take_length] at h ⊢
    rw [if_neg (by simp), hdI_all h]
  · rw [List.take_length, if_pos rfl]

/-! ### Who is left, who is lost -/
def agP (p : Pe) : Bool := decide (p.m + 1 = 3)
def agA (xs : List Pe) : List Pe := (xs.filter (fun p => !agP p)).map (fun p => ⟨p.n, p.m + 1⟩)
def agD (xs : List Pe) : List Int := (xs.filter agP).map (·.n)
def agL (b : Int) (xs : List Pe) : List Pe := if psB b xs = true then agA xs else []
def agG (b : Int) (xs : List Pe) : List Int := if psB b xs = true then agD xs else []
def agE (b : Int) (xs : List Pe) : Int := if psB b xs = true then 0 else 700
theorem ag_yes {b : Int} {xs : List Pe} (h : psB b xs = true) : agL b xs = agA xs ∧ agG b xs = agD xs ∧ agE b xs = 0 := by simp [agL, agG, agE, h]
theorem ag_no {b : Int} {xs : List Pe} (h : psB b xs = false) : agL b xs = [] ∧ agG b xs = [] ∧ agE b xs = 700 := by simp [agL, agG, agE, h]
theorem agA_step {xs : List Pe} {k : Nat} (hk : k < xs.length) : agA (xs.take (k + 1)) = agA (xs.take k) ++ (if agP xs[k] = true then [] else [⟨xs[k].n, xs[k].m + 1⟩]) := by
  unfold agA
  rw [take_step hk, List.filter_append, List.map_append]
  by_cases h : agP xs[k] = true
  · rw [if_pos h, List.filter_cons_of_neg (by simp [h])]; rfl
  · rw [if_neg h, List.filter_cons_of_pos (by simpa using h)]; rfl
theorem agD_step {xs : List Pe} {k : Nat} (hk : k < xs.length) : agD (xs.take (k + 1)) = agD (xs.take k) ++ (if agP xs[k] = true then [xs[k].n] else []) := by
  unfold agD
  rw [take_step hk, List.filter_append, List.map_append]
  by_cases h : agP xs[k] = true
  · rw [if_pos h, List.filter_cons_of_pos h]; rfl
  · rw [if_neg h, List.filter_cons_of_neg h]; rfl
theorem agA_len (xs : List Pe) (k : Nat) : (agA (xs.take k)).length ≤ k := by
  unfold agA
  rw [List.length_map]
  exact Nat.le_trans (List.length_filter_le _ _) (by rw [List.length_take]; omega)
theorem agD_len (xs : List Pe) (k : Nat) : (agD (xs.take k)).length ≤ k := by
  unfold agD
  rw [List.length_map]
  exact Nat.le_trans (List.length_filter_le _ _) (by rw [List.length_take]; omega)
theorem agA_psB {b : Int} {xs : List Pe} (h : psB b xs = true) : psB b (agA xs) = true := by
  obtain ⟨hb, hv, hr, hl⟩ := psB_iff.1 h
  refine psB_iff.2 ⟨hb, fun p hp => ?_, ?_, ?_⟩
  · obtain ⟨q, hq, rfl⟩ := List.mem_map.1 hp
    obtain ⟨h1, h2⟩ := List.mem_filter.1 hq
    obtain ⟨e1, e2, e3⟩ := peB_iff.1 (hv q h1)
    have e4 := miB_yes e3
    have e5 : ¬ q.m + 1 = 3 := by simpa [agP] using h2
    exact peB_iff.2 ⟨e1, e2, by simp only [miB, decide_eq_true_iff]; omega⟩
  · unfold agA
    rw [Rise, List.pairwise_map]
    exact hr.filter _
  · have := agA_len xs xs.length
    rw [List.take_length] at this
    omega

/-- May they be, by their places, the distances told by whatever function that is one at places. -/
theorem psB_at (b : Int) (xs : List Pe) (f : Int → Int) (hf : plB b = true → ∀ x, plB x = true → f x = far b x) :
    psB b xs = true ↔ (∀ j, j < xs.length → peB b (xs.getD j ⟨0, 0⟩) = true ∧ (0 < j → f (xs.getD (j - 1) ⟨0, 0⟩).n < f (xs.getD j ⟨0, 0⟩).n)) ∧ plB b = true ∧ xs.length ≤ 16 := by
  rw [psB_iff]
  constructor
  · rintro ⟨h0, h1, h2, h3⟩
    refine ⟨fun j hj => ⟨?_, fun hz => ?_⟩, h0, h3⟩
    · rw [getD_in _ _ hj]
      exact h1 _ (List.getElem_mem hj)
    · have hj1 : j - 1 < xs.length := by omega
      rw [getD_in _ _ hj, getD_in _ _ hj1, hf h0 _ (peB_iff.1 (h1 _ (List.getElem_mem hj))).1, hf h0 _ (peB_iff.1 (h1 _ (List.getElem_mem hj1))).1]
      exact List.pairwise_iff_getElem.1 h2 _ _ _ _ (by omega)
  · rintro ⟨h1, h0, h3⟩
    have hv : ∀ p ∈ xs, peB b p = true := fun x hx => by
      obtain ⟨j, hj, rfl⟩ := List.mem_iff_getElem.1 hx
      have := (h1 j hj).1
      rwa [getD_in _ _ hj] at this
    refine ⟨h0, hv, ?_, h3⟩
    refine List.pairwise_iff_getElem.2 ?_
    have hF : ∀ j (hj : j < xs.length), f xs[j].n = far b xs[j].n := fun j hj => hf h0 _ (peB_iff.1 (hv _ (List.getElem_mem hj))).1
    have step : ∀ d i (hi : i + 1 + d < xs.length), far b (xs[i]'(by omega)).n < far b (xs[i + 1 + d]).n := by
      intro d
      induction d with
      | zero =>
        intro i hi
        have := (h1 (i + 1) hi).2 (by omega)
        rwa [getD_in _ _ hi, getD_in _ _ (show i + 1 - 1 < xs.length by omega), hF _ hi, hF (i + 1 - 1) (by omega)] at this
      | succ d ih =>
        intro i hi
        have a := ih i (by omega)
        have := (h1 (i + 1 + (d + 1)) hi).2 (by omega)
        rw [getD_in _ _ hi, getD_in _ _ (show i + 1 + (d + 1) - 1 < xs.length by omega), hF _ hi, hF (i + 1 + (d + 1) - 1) (by omega)] at this
        have e : xs[i + 1 + (d + 1) - 1]'(by omega) = xs[i + 1 + d]'(by omega) := rfl
        rw [e] at this
        omega
    intro i j hi hj hij
    have := step (j - i - 1) i (by omega)
    have e : i + 1 + (j - i - 1) = j := by omega
    simpa only [e] using this

end Go.Proofs.Ytghamcomjfholaa
