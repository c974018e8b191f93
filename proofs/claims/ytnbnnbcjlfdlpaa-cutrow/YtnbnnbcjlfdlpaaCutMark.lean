
/-
  The cuts of eight places by sixty-four marks: what stands when one is put or taken; the marks in memory.
-/
import Derived.Test.YtnbnnbcjlfdlpaaCutD
namespace Go.Proofs.Ytnbnnbcjlfdlpaa
open Go.RowKit

def setF (f : Nat → Bool) (k : Nat) (b : Bool) : Nat → Bool := fun i => if i = k then b else f i
def ltC (c : Cu) : Bool := decide (c.a < c.b)
/-- The twenty-eight cuts of eight places. -/
def allC : List Cu := ((List.range 64).map fun k : Nat => (⟨(k : Int) / 8, (k : Int) % 8⟩ : Cu)).filter ltC
def kC (c : Cu) : Nat := (8 * c.a + c.b).toNat
def rowX (f : Nat → Bool) : List Cu := allC.filter fun c => f (kC c)
theorem allC_ok : csB allC = true := by decide +kernel
theorem allC_len : allC.length = 28 := by decide +kernel
theorem allC_mem {c : Cu} : c ∈ allC ↔ 0 ≤ c.a ∧ c.a < c.b ∧ c.b < 8 := by
  unfold allC
  rw [List.mem_filter, List.mem_map, ltC, decide_eq_true_iff]
  constructor
  · rintro ⟨⟨k, hk, rfl⟩, h⟩
    have := List.mem_range.1 hk
    dsimp only at h ⊢
    omega
  · rintro ⟨h1, h2, h3⟩
    refine ⟨⟨(8 * c.a + c.b).toNat, List.mem_range.2 (by omega), ?_⟩, h2⟩
    obtain ⟨a, b⟩ := c
    dsimp only at *
    rw [Int.toNat_of_nonneg (by omega)]
    congr 1 <;> omega
theorem kC_inj {c d : Cu} (h1 : c ∈ allC) (h2 : d ∈ allC) (h : kC c = kC d) : c = d := by
  have a1 := allC_mem.1 h1
  have a2 := allC_mem.1 h2
  obtain ⟨a, b⟩ := c
  obtain ⟨a', b'⟩ := d
  simp only [kC] at *
  have : a = a' := by omega
  have : b = b' := by omega
  subst_vars
  rfl
theorem rowX_mem {f : Nat → Bool} {c : Cu} : c ∈ rowX f ↔ c ∈ allC ∧ f (kC c) = true := by unfold rowX; rw [List.mem_filter]
theorem rowX_ok (f : Nat → Bool) : csB (rowX f) = true := by
  obtain ⟨h1, h2, h3⟩ := csB_iff.1 allC_ok
  exact csB_iff.2 ⟨Nat.le_trans (List.length_filter_le _ _) h1, fun c hc => h2 c (rowX_mem.1 hc).1, h3.filter _⟩
theorem rowX_len (f : Nat → Bool) : (rowX f).length ≤ 28 := by
  rw [← allC_len]
  exact List.length_filter_le _ _
theorem rowX_none : rowX (fun _ => false) = [] := by simp [rowX]
theorem mk_all {a b : Nat} (h : a ≠ b) (ha : a < 8) (hb : b < 8) : mkC a b ∈ allC ∧ kC (mkC a b) = 8 * min a b + max a b := by
  refine ⟨allC_mem.2 ?_, ?_⟩
  · simp only [mkC]; omega
  · simp only [kC, mkC]; omega
theorem pl_of {a : Nat} (ha : a < 8) : plB (a : Int) = true := plB_mk (by omega) (by omega)
theorem rowX_cOk {f : Nat → Bool} {a b : Nat} (h : a ≠ b) (ha : a < 8) (hb : b < 8) : cOk (rowX f) a b = true := cOk_iff2.2 ⟨rowX_ok f, pl_of ha, pl_of hb, by omega⟩
theorem rowX_put {f : Nat → Bool} {a b : Nat} (h : a ≠ b) (ha : a < 8) (hb : b < 8) : wcL (rowX f) a b = rowX (setF f (8 * min a b + max a b) true) ∧ wcE (rowX f) a b = 0 := by
  have hok := rowX_cOk (f := f) h ha hb
  obtain ⟨hd, hk⟩ := mk_all h ha hb
  obtain ⟨h1, h2, h3⟩ := csB_iff.1 (rowX_ok f)
  have hcd := (csB_iff.1 allC_ok).2.1 _ hd
  have hl : (wcI (rowX f) (mkC a b)).length ≤ 32 := by
    rw [wc_len h3 h2 hcd]
    have := List.length_filter_le (neC (mkC a b)) (rowX f)
    have := rowX_len f
    omega
  have e : wcI (rowX f) (mkC a b) = rowX (setF f (8 * min a b + max a b) true) := upC_unique (wc_up h3) (csB_iff.1 (rowX_ok _)).2.2 fun x => by
    rw [wc_mem h2 hcd, rowX_mem, rowX_mem]
    constructor
    · rintro (rfl | ⟨h5, h6⟩)
      · exact ⟨hd, by simp [setF, hk]⟩
      · exact ⟨h5, by unfold setF; split <;> simp_all⟩
    · rintro ⟨h5, h6⟩
      by_cases hi : kC x = 8 * min a b + max a b
      · exact .inl (kC_inj h5 hd (hi.trans hk.symm))
      · exact .inr ⟨h5, by simpa [setF, hi] using h6⟩
  exact ⟨by rw [wcL, if_pos hok, if_pos hl, e], by rw [wcE, if_pos hok, if_pos hl]⟩
theorem rowX_take {f : Nat → Bool} {a b : Nat} (h : a ≠ b) (ha : a < 8) (hb : b < 8) : ocL (rowX f) b a = rowX (setF f (8 * min a b + max a b) false) ∧ icE (rowX f) b a = 0 := by
  have hok := rowX_cOk (f := f) h.symm hb ha
  obtain ⟨hd, hk⟩ := mk_all h ha hb
  obtain ⟨h1, h2, h3⟩ := csB_iff.1 (rowX_ok f)
  refine ⟨?_, by simp [icE, hok]⟩
  rw [ocL, if_pos hok, mk_comm]
  refine upC_unique (h3.filter _) (csB_iff.1 (rowX_ok _)).2.2 fun x => ?_
  rw [mem_neC, rowX_mem, rowX_mem]
  constructor
  · rintro ⟨⟨h5, h6⟩, h7⟩
    have hi : ¬ kC x = 8 * min a b + max a b := fun e => h7 (kC_inj h5 hd (e.trans hk.symm))
    exact ⟨h5, by simpa [setF, hi] using h6⟩
  · rintro ⟨h5, h6⟩
    have hi : ¬ kC x = 8 * min a b + max a b := fun e => by simp [setF, e] at h6
    exact ⟨⟨h5, by simpa [setF, hi] using h6⟩, fun e => hi (by rw [e, hk])⟩
theorem rowX_is {f : Nat → Bool} {a b : Nat} (h : a < b) (hb : b < 8) : icR (rowX f) b a = f (8 * a + b) ∧ icE (rowX f) b a = 0 := by
  have hok := rowX_cOk (f := f) (show b ≠ a by omega) hb (by omega)
  obtain ⟨hd, hk⟩ := mk_all (show a ≠ b by omega) (by omega) hb
  refine ⟨?_, by simp [icE, hok]⟩
  rw [icR, hok, Bool.true_and, mk_comm, Bool.eq_iff_iff, decide_eq_true_iff, rowX_mem, hk, show 8 * min a b + max a b = 8 * a + b by omega]
  exact ⟨fun h => h.2, fun h => ⟨hd, h⟩⟩

/-- The marks, in sixty-four cells. -/
def marks (f : Nat → Bool) : Array Value := ((List.range 64).map fun i => Value.bool (f i)).toArray
theorem marks_at (f : Nat → Bool) (k : Nat) (hk : k < 64) : (marks f)[k]? = some (.bool (f k)) := by simp [marks, hk]
theorem marks_size (f : Nat → Bool) : (marks f).size = 64 := by simp [marks]
theorem marks_set (f : Nat → Bool) (k : Nat) (b : Bool) : marks (setF f k b) = (marks f).setIfInBounds k (.bool b) := by
  apply Array.ext
  · simp [marks]
  · intro i h1 h2
    have hi : i < 64 := by simpa [marks] using h1
    rw [Array.getElem_setIfInBounds]
    by_cases e : k = i
    · subst e
      simp [marks, setF]
    · rw [if_neg e]
      simp [marks, setF, Ne.symm e]
    · simpa [marks] using hi
theorem and7 (n : Int) : bits .and .i64 n 7 = n % 8 := by
  have h1 : (BitVec.ofInt 64 7).toNat = 2 ^ 3 - 1 := by decide
  have key : (BitVec.ofInt 64 n &&& BitVec.ofInt 64 7).toNat = (n % ((2 ^ 64 : Nat) : Int)).toNat % 2 ^ 3 := by
    rw [BitVec.toNat_and, BitVec.toNat_ofInt, h1, Nat.and_two_pow_sub_one_eq_mod]
  show IntKind.i64.wrap ((BitVec.ofInt 64 n &&& BitVec.ofInt 64 7).toNat : Nat) = n % 8
  rw [key, IntKind.wrap_i64]
  omega

end Go.Proofs.Ytnbnnbcjlfdlpaa
