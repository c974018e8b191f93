
/-
  Places that were lost, as plain lists: rising, each once; with one more, and without one.
-/
import Derived.Test.YtghamcomjfholaaRingRef
import Derived.Test.YtghamcomjfholaaOld
namespace Go.Proofs.Ytghamcomjfholaa

abbrev Up (xs : List Int) : Prop := xs.Pairwise (fun x y => x < y)
theorem up_unique {xs ys : List Int} (h1 : Up xs) (h2 : Up ys) (h : ∀ x, x ∈ xs ↔ x ∈ ys) : xs = ys := rise_unique (f := fun x => x) xs ys h1 h2 h
theorem up_at (xs : List Int) : Up xs ↔ ∀ j, j + 1 < xs.length → xs.getD j 0 < xs.getD (j + 1) 0 := by
  constructor
  · intro h j hj
    rw [getD_in _ _ (by omega), getD_in _ _ hj]
    exact List.pairwise_iff_getElem.1 h j (j + 1) (by omega) hj (by omega)
  · intro h
    refine List.pairwise_iff_getElem.2 fun i j hi hj hij => ?_
    have key : ∀ d, i + 1 + d < xs.length → xs.getD i 0 < xs.getD (i + 1 + d) 0 := by
      intro d
      induction d with
      | zero => intro hd; exact h i hd
      | succ d ih =>
        intro hd
        have h1 := ih (by omega)
        have h2 : xs.getD (i + 1 + d) 0 < xs.getD (i + 1 + (d + 1)) 0 := h (i + 1 + d) (by omega)
        omega
    have := key (j - i - 1) (by omega)
    rw [show i + 1 + (j - i - 1) = j by omega, getD_in _ _ hi, getD_in _ _ hj] at this
    exact this
theorem up_le {xs : List Int} (h : Up xs) (i j : Nat) (hij : i ≤ j) (hj : j < xs.length) : xs.getD i 0 ≤ xs.getD j 0 := by
  have hi : i < xs.length := by omega
  rw [getD_in _ _ hi, getD_in _ _ hj]
  rcases Nat.lt_or_ge i j with h1 | h1
  · exact Int.le_of_lt (List.pairwise_iff_getElem.1 h i j hi hj h1)
  · obtain rfl : i = j := by omega
    exact Int.le_refl _

/-- They may be. -/
def paB (xs : List Int) : Bool := decide (xs.length ≤ 16 ∧ plsB xs = true ∧ Up xs)
theorem paB_iff {xs : List Int} : paB xs = true ↔ xs.length ≤ 16 ∧ plsB xs = true ∧ Up xs := by simp [paB]

/-! ### With one more, without one -/
def loB (d x : Int) : Bool := decide (x < d)
def hiB (d x : Int) : Bool := decide (d < x)
def neB (d x : Int) : Bool := !decide (x = d)
def wiI (xs : List Int) (d : Int) : List Int := xs.filter (loB d) ++ d :: xs.filter (hiB d)
def wiOk (xs : List Int) (d : Int) : Bool := paB xs && plB d
def wiL (xs : List Int) (d : Int) : List Int := if wiOk xs d = true then (if (wiI xs d).length ≤ 16 then wiI xs d else []) else []
def wiE (xs : List Int) (d : Int) : Int := if wiOk xs d = true then (if (wiI xs d).length ≤ 16 then 0 else 801) else 800
theorem wi_yes {xs : List Int} {d : Int} (h1 : paB xs = true) (h2 : plB d = true) : wiOk xs d = true := by simp [wiOk, h1, h2]
theorem wi_ok {xs : List Int} {d : Int} (h1 : paB xs = true) (h2 : plB d = true) (h4 : (wiI xs d).length ≤ 16) : wiL xs d = wiI xs d ∧ wiE xs d = 0 := by
  simp [wiL, wiE, wi_yes h1 h2, h4]
theorem wi_full {xs : List Int} {d : Int} (h1 : paB xs = true) (h2 : plB d = true) (h4 : ¬ (wiI xs d).length ≤ 16) : wiL xs d = [] ∧ wiE xs d = 801 := by
  simp only [wiL, wiE, wi_yes h1 h2, if_true, if_neg h4, and_self]
theorem wi_form {xs : List Int} {d : Int} (h : paB xs = false ∨ plB d = false) : wiL xs d = [] ∧ wiE xs d = 800 := by
  have : wiOk xs d = false := by rcases h with h | h <;> simp [wiOk, h]
  simp [wiL, wiE, this]
theorem mem_lo {d x : Int} {xs : List Int} : x ∈ xs.filter (loB d) ↔ x ∈ xs ∧ x < d := by rw [List.mem_filter, loB, decide_eq_true_iff]
theorem mem_hi {d x : Int} {xs : List Int} : x ∈ xs.filter (hiB d) ↔ x ∈ xs ∧ d < x := by rw [List.mem_filter, hiB, decide_eq_true_iff]
theorem mem_ne {d x : Int} {xs : List Int} : x ∈ xs.filter (neB d) ↔ x ∈ xs ∧ ¬ x = d := by rw [List.mem_filter]; simp [neB]
theorem wi_mem {xs : List Int} {d x : Int} : x ∈ wiI xs d ↔ x = d ∨ x ∈ xs := by
  unfold wiI
  rw [List.mem_append, List.mem_cons, mem_lo, mem_hi]
  constructor
  · rintro (h | h | h)
    · exact .inr h.1
    · exact .inl h
    · exact .inr h.1
  · rintro (h | h)
    · exact .inr (.inl h)
    · rcases Int.lt_trichotomy x d with h1 | h1 | h1
      · exact .inl ⟨h, h1⟩
      · exact .inr (.inl h1)
      · exact .inr (.inr ⟨h, h1⟩)
theorem wi_up {xs : List Int} {d : Int} (h : Up xs) : Up (wiI xs d) := by
  unfold wiI
  rw [Up, List.pairwise_append, List.pairwise_cons]
  refine ⟨h.filter _, ⟨fun p hp => (mem_hi.1 hp).2, h.filter _⟩, fun p hp q hq => ?_⟩
  have h1 := (mem_lo.1 hp).2
  rcases List.mem_cons.1 hq with rfl | hq
  · exact h1
  · have h2 := (mem_hi.1 hq).2
    omega
theorem wi_same {xs : List Int} {d : Int} (h : Up xs) (hd : d ∈ xs) : wiI xs d = xs :=
  up_unique (wi_up h) h fun x => by
    rw [wi_mem]
    exact ⟨fun h => h.elim (fun e => e ▸ hd) id, .inr⟩
theorem wi_part {xs : List Int} {d : Int} (h : Up xs) : xs.filter (loB d) ++ xs.filter (hiB d) = xs.filter (neB d) := by
  refine up_unique ?_ (h.filter _) fun x => ?_
  · rw [Up, List.pairwise_append]
    refine ⟨h.filter _, h.filter _, fun p hp q hq => ?_⟩
    have h1 := (mem_lo.1 hp).2
    have h2 := (mem_hi.1 hq).2
    omega
  · rw [List.mem_append, mem_lo, mem_hi, mem_ne]
    constructor
    · rintro (h | h)
      · exact ⟨h.1, by omega⟩
      · exact ⟨h.1, by omega⟩
    · rintro ⟨h1, h2⟩
      rcases Int.lt_trichotomy x d with h3 | h3 | h3
      · exact .inl ⟨h1, h3⟩
      · exact absurd h3 h2
      · exact .inr ⟨h1, h3⟩
theorem wi_len {xs : List Int} {d : Int} (h : Up xs) : (wiI xs d).length = (xs.filter (neB d)).length + 1 := by
  rw [← wi_part h]
  unfold wiI
  rw [List.length_append, List.length_append, List.length_cons]
  omega
theorem ne_none {xs : List Int} {d : Int} (h : ¬ d ∈ xs) : xs.filter (neB d) = xs :=
  List.filter_eq_self.2 fun x hx => by
    have : ¬ x = d := fun e => h (e ▸ hx)
    simp [neB, this]
theorem wi_long {xs : List Int} {d : Int} (h : Up xs) (hd : ¬ d ∈ xs) : (wiI xs d).length = xs.length + 1 := by rw [wi_len h, ne_none hd]
theorem wi_pls {xs : List Int} {d : Int} (h : plsB xs = true) (hd : plB d = true) : plsB (wiI xs d) = true := plsB_mk fun x hx => by
  rcases wi_mem.1 hx with rfl | hx
  · exact hd
  · exact plsB_mem h x hx
theorem wi_pa {xs : List Int} {d : Int} (h : paB xs = true) (hd : plB d = true) (hl : (wiI xs d).length ≤ 16) : paB (wiI xs d) = true := by
  obtain ⟨_, h2, h3⟩ := paB_iff.1 h
  exact paB_iff.2 ⟨hl, wi_pls h2 hd, wi_up h3⟩
/-- Where a place stands, or is to stand. -/
structure PosI (xs : List Int) (d : Int) (m : Nat) : Prop where
  le : m ≤ xs.length
  lt : ∀ t, t < m → xs.getD t 0 < d
  ge : ∀ t, m ≤ t → t < xs.length → d ≤ xs.getD t 0
def posI (xs : List Int) (d : Int) : Nat := (xs.filter (loB d)).length
theorem PosI.cut {xs : List Int} {d : Int} {m : Nat} (h : PosI xs d m) : xs.filter (loB d) = xs.take m := by
  refine filter_cut (fun x hx => ?_) (fun x hx => ?_)
  · obtain ⟨j, hj, hjm, rfl⟩ := mem_take_at hx
    have := h.lt j hjm
    rw [getD_in _ _ hj] at this
    simpa [loB] using this
  · obtain ⟨j, hj, hjm, rfl⟩ := mem_drop_at hx
    have := h.ge j hjm hj
    rw [getD_in _ _ hj] at this
    simpa [loB] using this
theorem PosI.eq {xs : List Int} {d : Int} {m : Nat} (h : PosI xs d m) : m = posI xs d := by
  unfold posI
  rw [h.cut, List.length_take]
  have := h.le
  omega
theorem PosI.there {xs : List Int} {d : Int} {m : Nat} (h : PosI xs d m) (hr : Up xs) : (decide (m < xs.length) && decide (xs.getD m 0 = d)) = decide (d ∈ xs) := by
  rw [Bool.eq_iff_iff, Bool.and_eq_true_iff, decide_eq_true_iff, decide_eq_true_iff, decide_eq_true_iff]
  constructor
  · rintro ⟨hm, he⟩
    rw [getD_in _ _ hm] at he
    exact he ▸ List.getElem_mem hm
  · intro hx
    obtain ⟨j, hj, rfl⟩ := List.mem_iff_getElem.1 hx
    have h1 : m ≤ j := by
      rcases Nat.lt_or_ge j m with h0 | h0
      · have := h.lt j h0
        rw [getD_in _ _ hj] at this
        omega
      · exact h0
    have hm : m < xs.length := by omega
    refine ⟨hm, ?_⟩
    have h2 := h.ge m (Nat.le_refl _) hm
    have h3 := up_le hr m j h1 hj
    rw [getD_in _ _ hj] at h3
    omega
theorem PosI.new {xs : List Int} {d : Int} {m : Nat} (h : PosI xs d m) (ht : ¬ d ∈ xs) : wiI xs d = xs.take m ++ d :: xs.drop m := by
  unfold wiI
  rw [h.cut, filter_tail (m := m) (p := hiB d)]
  · intro x hx
    obtain ⟨j, hj, hjm, rfl⟩ := mem_take_at hx
    have := h.lt j hjm
    rw [getD_in _ _ hj] at this
    simp only [hiB, decide_eq_false_iff_not]; omega
  · intro x hx
    obtain ⟨j, hj, hjm, rfl⟩ := mem_drop_at hx
    have := h.ge j hjm hj
    rw [getD_in _ _ hj] at this
    have h2 : d ≠ xs[j] := fun e => ht (e ▸ List.getElem_mem hj)
    simp only [hiB, decide_eq_true_iff]; omega

/-! ### The document's own way: all places in their row, those that are in -/
end Go.Proofs.Ytghamcomjfholaa
