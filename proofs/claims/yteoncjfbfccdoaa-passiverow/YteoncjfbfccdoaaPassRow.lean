
/-
  The lost ones by sixteen marks: what stands when one is put or taken; the marks in memory.
-/
import Derived.Test.YteoncjfbfccdoaaPassMath
import Derived.Test.YteoncjfbfccdoaaBox
namespace Go.Proofs.Yteoncjfbfccdoaa
open Go.RowKit

def setF (f : Nat → Bool) (k : Nat) (b : Bool) : Nat → Bool := fun i => if i = k then b else f i
def rowW (f : Nat → Bool) (n : Nat) : List Int := ((List.range n).filter f).map fun i : Nat => 10 * (i : Int)
theorem rowW_mem {f : Nat → Bool} {n : Nat} {x : Int} : x ∈ rowW f n ↔ ∃ i, i < n ∧ f i = true ∧ x = 10 * (i : Int) := by
  unfold rowW
  rw [List.mem_map]
  constructor
  · rintro ⟨i, hi, rfl⟩
    obtain ⟨h1, h2⟩ := List.mem_filter.1 hi
    exact ⟨i, List.mem_range.1 h1, h2, rfl⟩
  · rintro ⟨i, h1, h2, rfl⟩
    exact ⟨i, List.mem_filter.2 ⟨List.mem_range.2 h1, h2⟩, rfl⟩
theorem rowW_up (f : Nat → Bool) (n : Nat) : Up (rowW f n) := by
  unfold rowW
  rw [Up, List.pairwise_map]
  exact List.Pairwise.imp (fun h => by omega) (List.pairwise_lt_range.filter f)
theorem rowW_le (f : Nat → Bool) (n : Nat) : (rowW f n).length ≤ n := by
  unfold rowW
  rw [List.length_map]
  exact Nat.le_trans (List.length_filter_le _ _) (by simp)
theorem rowW_pa (f : Nat → Bool) : paB (rowW f 16) = true :=
  paB_iff.2 ⟨rowW_le f 16, plsB_mk fun x hx => by obtain ⟨i, h1, _, rfl⟩ := rowW_mem.1 hx; exact plB_mk (by omega) (by omega), rowW_up f 16⟩
theorem rowW_next (f : Nat → Bool) (n : Nat) : rowW f (n + 1) = rowW f n ++ (if f n = true then [10 * (n : Int)] else []) := by
  unfold rowW
  rw [List.range_succ, List.filter_append, List.map_append]
  by_cases h : f n = true <;> simp [h]
theorem rowW_none (n : Nat) : rowW (fun _ => false) n = [] := by simp [rowW]
theorem rowW_put {f : Nat → Bool} {k : Nat} (hk : k < 16) : wiL (rowW f 16) (10 * (k : Int)) = rowW (setF f k true) 16 ∧ wiE (rowW f 16) (10 * (k : Int)) = 0 := by
  have hp : plB (10 * (k : Int)) = true := plB_mk (by omega) (by omega)
  have e : wiI (rowW f 16) (10 * (k : Int)) = rowW (setF f k true) 16 := up_unique (wi_up (rowW_up f 16)) (rowW_up _ 16) fun x => by
    rw [wi_mem, rowW_mem, rowW_mem]
    constructor
    · rintro (rfl | ⟨i, h1, h2, rfl⟩)
      · exact ⟨k, hk, by simp [setF], rfl⟩
      · exact ⟨i, h1, by unfold setF; split <;> simp_all, rfl⟩
    · rintro ⟨i, h1, h2, rfl⟩
      by_cases hi : i = k
      · subst hi
        exact .inl rfl
      · exact .inr ⟨i, h1, by simpa [setF, hi] using h2, rfl⟩
  obtain ⟨h1, h2⟩ := wi_ok (rowW_pa f) hp (by rw [e]; exact rowW_le _ 16)
  exact ⟨h1.trans e, h2⟩
theorem rowW_take {f : Nat → Bool} {k : Nat} (hk : k < 16) : woL (rowW f 16) (10 * (k : Int)) = rowW (setF f k false) 16 ∧ woE (rowW f 16) (10 * (k : Int)) = 0 := by
  have hp : plB (10 * (k : Int)) = true := plB_mk (by omega) (by omega)
  obtain ⟨h1, h2⟩ := wo_ok (rowW_pa f) hp
  refine ⟨h1.trans ?_, h2⟩
  refine up_unique ((rowW_up f 16).filter _) (rowW_up _ 16) fun x => ?_
  rw [mem_ne, rowW_mem, rowW_mem]
  constructor
  · rintro ⟨⟨i, h1, h2, rfl⟩, h3⟩
    have hi : ¬ i = k := fun e => h3 (by rw [e])
    exact ⟨i, h1, by simpa [setF, hi] using h2, rfl⟩
  · rintro ⟨i, h1, h2, rfl⟩
    have hi : ¬ i = k := fun e => by simp [setF, e] at h2
    exact ⟨⟨i, h1, by simpa [setF, hi] using h2, rfl⟩, by omega⟩

/-- The marks, in sixteen cells. -/
def marks (f : Nat → Bool) : Array Value := ((List.range 16).map fun i => Value.bool (f i)).toArray
theorem marks_at (f : Nat → Bool) (k : Nat) (hk : k < 16) : (marks f)[k]? = some (.bool (f k)) := by simp [marks, hk]
theorem marks_size (f : Nat → Bool) : (marks f).size = 16 := by simp [marks]
theorem marks_set (f : Nat → Bool) (k : Nat) (b : Bool) : marks (setF f k b) = (marks f).setIfInBounds k (.bool b) := by
  apply Array.ext
  · simp [marks]
  · intro i h1 h2
    have hi : i < 16 := by simpa [marks] using h1
    rw [Array.getElem_setIfInBounds]
    by_cases e : k = i
    · subst e
      simp [marks, setF]
    · rw [if_neg e]
      simp [marks, setF, Ne.symm e]
    · simpa [marks] using hi

end Go.Proofs.Yteoncjfbfccdoaa
