
/-
  Contracts of package store's May and Get, at every list of items: what they return, and that no old memory has turned.
-/
import Derived.Test.YtekefbhpkpoghaaStoreA
namespace Go.Proofs.Ytekefbhpkpoghaa
open Go.ChangeShapes Go.WideShapes Go.ChangeAt Go.RowKit

theorem sAll_any {lo hi : Nat} {w : World} {v : Value} {xs : List It} (hx : RowT lo hi w v xs) (hh : hi ≤ w.heap.size) :
    Calls Try.prog 23 #[v] w fun e w' => e = .returned (.bool (decide (Val xs))) ∧ Below w.heap.size w w' := by
  obtain ⟨p, c, rfl, hn, hp⟩ := hx.its hh
  refine sAll_core p xs.length c (fun j => xs.getD j ⟨0, 0, 0, 0, false⟩) w hn (fun h0 => ?_) _ ?_
  · obtain ⟨b, off, e, _, h2, h3⟩ := hp h0
    exact ⟨b, off, e, h2, h3⟩
  · rw [decide_eq_true_iff]
    constructor
    · intro h j hj
      rw [getD_at _ _ hj]
      exact h _ (List.getElem_mem hj)
    · intro h x hx
      obtain ⟨j, hj, rfl⟩ := List.mem_iff_getElem.1 hx
      have := h j hj
      rwa [getD_at _ _ hj] at this

theorem srt_iff (xs : List It) : Srt xs ↔ ∀ j, j + 1 < xs.length → (xs.getD j ⟨0, 0, 0, 0, false⟩).k < (xs.getD (j + 1) ⟨0, 0, 0, 0, false⟩).k := by
  constructor
  · intro h j hj
    rw [getD_at _ _ hj, getD_at _ _ (show j < xs.length by omega)]
    exact List.pairwise_iff_getElem.1 h _ _ _ _ (by omega)
  · intro h
    refine List.pairwise_iff_getElem.2 ?_
    have step : ∀ d i (hi : i + 1 + d < xs.length), (xs[i]'(by omega)).k < (xs[i + 1 + d]).k := by
      intro d
      induction d with
      | zero =>
        intro i hi
        have := h i hi
        rwa [getD_at _ _ hi, getD_at _ _ (show i < xs.length by omega)] at this
      | succ d ih =>
        intro i hi
        have a := ih i (by omega)
        have := h (i + 1 + d) hi
        rw [getD_at _ _ (show i + 1 + d + 1 < xs.length from hi), getD_at _ _ (show i + 1 + d < xs.length by omega)] at this
        exact Int.lt_trans a this
    intro i j hi hj hij
    have := step (j - i - 1) i (by omega)
    have e : i + 1 + (j - i - 1) = j := by omega
    simpa only [e] using this

theorem sRis_any {lo hi : Nat} {w : World} {v : Value} {xs : List It} (hx : RowT lo hi w v xs) (hh : hi ≤ w.heap.size) :
    Calls Try.prog 24 #[v] w fun e w' => e = .returned (.bool (decide (Srt xs))) ∧ Below w.heap.size w w' := by
  obtain ⟨p, c, rfl, hn, hp⟩ := hx.its hh
  refine sRis_core p xs.length c (fun j => xs.getD j ⟨0, 0, 0, 0, false⟩) w hn (fun h0 => ?_) _ ?_
  · obtain ⟨b, off, e, _, h2, h3⟩ := hp h0
    exact ⟨b, off, e, h2, h3⟩
  · rw [decide_eq_true_iff]
    exact srt_iff xs

theorem sMay_any {lo hi : Nat} {w : World} {v : Value} {xs : List It} (hx : RowT lo hi w v xs) (hh : hi ≤ w.heap.size) :
    Calls Try.prog 17 #[v] w fun e w' => e = .returned (.bool (stB xs)) ∧ Below w.heap.size w w' := by
  have HA := sAll_any hx hh
  have HR : Hid (∀ w', Below w.heap.size w w' → Calls Try.prog 24 #[v] w' fun e w'' => e = .returned (.bool (decide (Srt xs))) ∧ Below w'.heap.size w' w'') := fun w' hb => sRis_any (hx.below hb hh) (Nat.le_trans hh hb.size)
  obtain ⟨p, c, rfl, hn, hp⟩ := hx.its hh
  clear hp
  by_cases hl : xs.length ≤ 16
  · have hl' : (xs.length : Int) ≤ 16 := by omega
    by_cases hv : Val xs
    · have e : stB xs = decide (Srt xs) := by unfold stB; rw [decide_eq_decide]; exact ⟨fun h => h.2.1, fun h => ⟨hv, h, hl⟩⟩
      rw [decide_eq_true hv] at HA
      rw [e]
      clear e hv
      generalize decide (Srt xs) = r at *
      generalize xs.length = n at *
      clear hx
      go_enter Try.func17, Try.ntmps17
      go_wp2_with (first
        | (go_at_call 23; refine HA.mono ?_; rintro e w1 ⟨rfl, hb1⟩)
        | (go_at_call 24; refine (HR.out _ hb1).mono ?_; rintro e w2 ⟨rfl, hb2⟩))
      go_ret
      exact ⟨rfl, hb1.on hb2⟩
    · have e : stB xs = false := by simp [stB, hv]
      rw [decide_eq_false hv] at HA
      rw [e]
      clear e hv HR hx
      generalize xs.length = n at *
      go_enter Try.func17, Try.ntmps17
      go_wp2_with (first
        | (go_at_call 23; refine HA.mono ?_; rintro e w1 ⟨rfl, hb1⟩))
      go_ret
      exact ⟨rfl, hb1⟩
  · have e : stB xs = false := by simp [stB, hl]
    have hl' : ¬ (xs.length : Int) ≤ 16 := by omega
    have hd : decide ((xs.length : Int) ≤ 16) = false := by simpa using hl'
    rw [e]
    clear e HA HR hx
    generalize xs.length = n at *
    go_enter Try.func17, Try.ntmps17
    go_wp2
    go_ret
    exact ⟨rfl, Below.refl _ _⟩

theorem sMay_is {lo hi : Nat} {w : World} {v : Value} {xs : List It} (hx : RowT lo hi w v xs) (hh : hi ≤ w.heap.size) {r : Bool} (h : stB xs = r) :
    Calls Try.prog 17 #[v] w fun e w' => e = .returned (.bool r) ∧ Below w.heap.size w w' := h ▸ sMay_any hx hh

/-- How many keys are less. -/
def posN (xs : List It) (key : Int) : Nat := xs.countP fun a => decide (a.k < key)
theorem posN_at : ∀ {xs : List It} {key : Int} {m : Nat}, m ≤ xs.length → (∀ t, t < m → (xs.getD t ⟨0, 0, 0, 0, false⟩).k < key) → (∀ t, m ≤ t → t < xs.length → key ≤ (xs.getD t ⟨0, 0, 0, 0, false⟩).k) → posN xs key = m
  | [], key, m, hm, _, _ => by simp at hm; simp [posN, hm]
  | a :: r, key, 0, _, _, h2 => by
    unfold posN
    rw [List.countP_eq_zero]
    intro x hx
    obtain ⟨t, ht, rfl⟩ := List.mem_iff_getElem.1 hx
    have := h2 t (Nat.zero_le _) ht
    rw [getD_at _ _ ht] at this
    simp
    exact this
  | a :: r, key, m + 1, hm, h1, h2 => by
    have ha : a.k < key := h1 0 (Nat.succ_pos _)
    have ih := posN_at (xs := r) (key := key) (m := m) (by simpa using hm) (fun t ht => by simpa using h1 (t + 1) (by omega)) (fun t h3 h4 => by simpa using h2 (t + 1) (by omega) (by simpa using h4))
    unfold posN at *
    rw [List.countP_cons_of_pos (by simpa using ha), ih]
/-- Where a key stands in a store: it is looked up there. -/
theorem look_pos {xs : List It} {key : Int} {m : Nat} (h1 : ∀ t, t < m → (xs.getD t ⟨0, 0, 0, 0, false⟩).k < key) (h2 : ∀ t, m ≤ t → t < xs.length → key ≤ (xs.getD t ⟨0, 0, 0, 0, false⟩).k) (hs : Srt xs) :
    look xs key = if decide (m < xs.length) && decide ((xs.getD m ⟨0, 0, 0, 0, false⟩).k = key) then some (xs.getD m ⟨0, 0, 0, 0, false⟩) else none := by
  by_cases hc : m < xs.length ∧ (xs.getD m ⟨0, 0, 0, 0, false⟩).k = key
  · rw [if_pos (by simpa using hc), ← hc.2]
    refine look_of_mem hs ?_
    rw [getD_at _ _ hc.1]
    exact List.getElem_mem _
  · rw [if_neg (by simpa using hc)]
    refine look_none fun a ha e => ?_
    obtain ⟨j, hj, rfl⟩ := List.mem_iff_getElem.1 ha
    rw [← getD_at _ ⟨0, 0, 0, 0, false⟩ hj] at e
    rcases Nat.lt_trichotomy j m with h | h | h
    · have := h1 j h; omega
    · subst h; exact hc ⟨hj, e⟩
    · have h3 := h2 m (Nat.le_refl _) (by omega)
      have h4 := List.pairwise_iff_getElem.1 hs m j (by omega) hj h
      rw [← getD_at _ ⟨0, 0, 0, 0, false⟩ hj, ← getD_at _ ⟨0, 0, 0, 0, false⟩ (show m < xs.length by omega)] at h4
      omega

/-- What is known of the place of a key in a store. -/
structure PosOf (xs : List It) (key : Int) (m : Nat) : Prop where
  le : m ≤ xs.length
  lt : ∀ t, t < m → (xs.getD t ⟨0, 0, 0, 0, false⟩).k < key
  ge : ∀ t, m ≤ t → t < xs.length → key ≤ (xs.getD t ⟨0, 0, 0, 0, false⟩).k
  none : look xs key = none → ∀ t, m ≤ t → t < xs.length → key < (xs.getD t ⟨0, 0, 0, 0, false⟩).k
  some : ∀ a, look xs key = some a → m < xs.length ∧ xs.getD m ⟨0, 0, 0, 0, false⟩ = a ∧ a.k = key

theorem posOf_any {xs : List It} (key : Int) (hs : Srt xs) : PosOf xs key (posN xs key) := by
  have H : ∃ m, m ≤ xs.length ∧ (∀ t, t < m → (xs.getD t ⟨0, 0, 0, 0, false⟩).k < key) ∧ (∀ t, m ≤ t → t < xs.length → key ≤ (xs.getD t ⟨0, 0, 0, 0, false⟩).k) := by
    induction xs with
    | nil => exact ⟨0, Nat.le_refl _, fun t ht => absurd ht (Nat.not_lt_zero _), fun t _ h => absurd h (Nat.not_lt_zero _)⟩
    | cons a r ih =>
      have hs' := List.pairwise_cons.1 hs
      by_cases ha : a.k < key
      · obtain ⟨m, h1, h2, h3⟩ := ih hs'.2
        refine ⟨m + 1, by simpa using h1, fun t ht => ?_, fun t h4 h5 => ?_⟩
        · cases t with
          | zero => exact ha
          | succ t => simpa using h2 t (by omega)
        · cases t with
          | zero => omega
          | succ t => simpa using h3 t (by omega) (by simpa using h5)
      · refine ⟨0, Nat.zero_le _, fun t ht => absurd ht (Nat.not_lt_zero _), fun t _ h5 => ?_⟩
        have := srt_le hs 0 t (Nat.zero_le _) h5
        have e : ((a :: r).getD 0 ⟨0, 0, 0, 0, false⟩).k = a.k := rfl
        omega
  obtain ⟨m, h1, h2, h3⟩ := H
  have hm := posN_at h1 h2 h3
  have hk := look_pos h2 h3 hs
  rw [hm]
  refine ⟨h1, h2, h3, fun h t h4 h5 => ?_, fun a h => ?_⟩
  · rw [hk] at h
    have h6 := h3 t h4 h5
    rcases Int.lt_or_le key (xs.getD t ⟨0, 0, 0, 0, false⟩).k with h7 | h7
    · exact h7
    · exfalso
      have h8 := srt_le hs m t h4 h5
      have h9 := h3 m (Nat.le_refl _) (by omega)
      have hc : (decide (m < xs.length) && decide ((xs.getD m ⟨0, 0, 0, 0, false⟩).k = key)) = true := by
        simp only [Bool.and_eq_true, decide_eq_true_eq]
        exact ⟨by omega, by omega⟩
      rw [if_pos hc] at h
      cases h
  · rw [hk] at h
    split at h
    · rename_i hc
      simp only [Bool.and_eq_true, decide_eq_true_eq] at hc
      cases h
      exact ⟨hc.1, rfl, hc.2⟩
    · cases h

end Go.Proofs.Ytekefbhpkpoghaa
