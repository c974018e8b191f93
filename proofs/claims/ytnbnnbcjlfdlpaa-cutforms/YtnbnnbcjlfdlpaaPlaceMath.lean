
/-
  Plain mathematics of places: by their distance from a base, each once; numbers as places.
-/
import Derived.Test.YtnbnnbcjlfdlpaaRing
namespace Go.Proofs.Ytnbnnbcjlfdlpaa

/-- All are places. -/
def plsB (xs : List Int) : Bool := xs.all plB
theorem plsB_mem {xs : List Int} (h : plsB xs = true) : ∀ x ∈ xs, plB x = true := by simpa [plsB] using h
theorem plsB_mk {xs : List Int} (h : ∀ x ∈ xs, plB x = true) : plsB xs = true := by simpa [plsB] using h

theorem any_not_plB (xs : List Int) : xs.any (fun x => !plB x) = !plsB xs := by
  unfold plsB
  induction xs with
  | nil => rfl
  | cons x xs ih => simp [List.any_cons, List.all_cons, ih]

theorem far_inj {b x y : Int} (hx : plB x = true) (hy : plB y = true) (h : far b x = far b y) : x = y := by
  have := plB_yes hx
  have := plB_yes hy
  unfold far at h
  omega
theorem far_self (b : Int) : far b b = 0 := by unfold far; omega
theorem far_zero {b x : Int} (hb : plB b = true) (hx : plB x = true) (h : far b x = 0) : x = b :=
  far_inj hx hb (h.trans (far_self b).symm)
theorem far_at (b d : Int) (h0 : 0 ≤ d) (h1 : d < 256) : far b ((b + d) % 256) = d := by unfold far; omega
theorem at_far {b x : Int} (hx : plB x = true) : (b + far b x) % 256 = x := by have := plB_yes hx; unfold far; omega

/-- The places of xs but b, each once, by their distance from b: the first k distances (from 1 on). -/
def rowTo (b : Int) (xs : List Int) (k : Nat) : List Int := ((List.range k).map fun d : Nat => (b + ((d : Int) + 1)) % 256).filter fun x => decide (x ∈ xs)
def rowOf (b : Int) (xs : List Int) : List Int := rowTo b xs 255

theorem rowTo_succ (b : Int) (xs : List Int) (k : Nat) : rowTo b xs (k + 1) = rowTo b xs k ++ (if (b + ((k : Int) + 1)) % 256 ∈ xs then [(b + ((k : Int) + 1)) % 256] else []) := by
  unfold rowTo
  rw [List.range_succ, List.map_append, List.filter_append]
  by_cases h : (b + ((k : Int) + 1)) % 256 ∈ xs <;> simp [h]
theorem rowTo_le (b : Int) (xs : List Int) (k : Nat) : (rowTo b xs k).length ≤ k := by
  unfold rowTo
  exact Nat.le_trans (List.length_filter_le _ _) (by simp)

theorem mem_rowOf {b : Int} {xs : List Int} (hb : plB b = true) (hx : plsB xs = true) (x : Int) : x ∈ rowOf b xs ↔ x ∈ xs ∧ x ≠ b := by
  unfold rowOf rowTo
  rw [List.mem_filter, List.mem_map, decide_eq_true_iff]
  constructor
  · rintro ⟨⟨d, hd, rfl⟩, h⟩
    refine ⟨h, fun e => ?_⟩
    have := plB_yes hb
    have := List.mem_range.1 hd
    omega
  · rintro ⟨h, hne⟩
    refine ⟨⟨(far b x - 1).toNat, ?_, ?_⟩, h⟩
    · have := far_bd b x
      rw [List.mem_range]; omega
    · have p := plsB_mem hx x h
      have h0 : far b x ≠ 0 := fun e => hne (far_zero hb p e)
      have := far_bd b x
      have e : (((far b x - 1).toNat : Nat) : Int) + 1 = far b x := by omega
      rw [e]
      exact at_far p

theorem rowTo_sorted (b : Int) (xs : List Int) (k : Nat) (hk : k ≤ 255) : (rowTo b xs k).Pairwise fun x y => far b x < far b y := by
  unfold rowTo
  apply List.Pairwise.filter
  rw [List.pairwise_map]
  refine List.Pairwise.imp_of_mem (R := (· < ·)) ?_ List.pairwise_lt_range
  intro i j hi hj h
  have := List.mem_range.1 hi
  have := List.mem_range.1 hj
  rw [far_at b _ (by omega) (by omega), far_at b _ (by omega) (by omega)]
  omega
theorem rowOf_sorted (b : Int) (xs : List Int) : (rowOf b xs).Pairwise fun x y => far b x < far b y := rowTo_sorted b xs 255 (Nat.le_refl _)

/-- Two lists that rise by a key and hold the same are one. -/
theorem rise_unique {f : Int → Int} : ∀ (xs ys : List Int), xs.Pairwise (fun x y => f x < f y) → ys.Pairwise (fun x y => f x < f y) → (∀ x, x ∈ xs ↔ x ∈ ys) → xs = ys
  | [], [], _, _, _ => rfl
  | [], y :: ys, _, _, h => absurd ((h y).2 (by simp)) (by simp)
  | x :: xs, [], _, _, h => absurd ((h x).1 (by simp)) (by simp)
  | x :: xs, y :: ys, hx, hy, h => by
    rw [List.pairwise_cons] at hx hy
    have hxy : x = y := by
      rcases List.mem_cons.1 ((h x).1 (by simp)) with e | e
      · exact e
      · rcases List.mem_cons.1 ((h y).2 (by simp)) with e' | e'
        · exact e'.symm
        · have := hy.1 x e
          have := hx.1 y e'
          omega
    subst hxy
    rw [rise_unique xs ys hx.2 hy.2 ?_]
    intro z
    have hz := h z
    simp only [List.mem_cons] at hz
    constructor
    · intro hm
      rcases hz.1 (.inr hm) with rfl | e
      · have := hx.1 z hm; omega
      · exact e
    · intro hm
      rcases hz.2 (.inr hm) with rfl | e
      · have := hy.1 z hm; omega
      · exact e

/-! ### What the statements make of numbers: the first k of them as places -/
def mask (xs : List Int) (k : Nat) : List Int := (xs.take k).map (· % 256)
theorem mask_succ (xs : List Int) (k : Nat) (h : k < xs.length) : mask xs (k + 1) = mask xs k ++ [xs.getD k 0 % 256] := by
  unfold mask
  rw [List.take_succ_eq_append_getElem h, List.map_append]
  simp [List.getD, List.getElem?_eq_getElem h]
theorem mask_len (xs : List Int) (k : Nat) (h : k ≤ xs.length) : (mask xs k).length = k := by simp [mask]; omega
theorem mask_pls (xs : List Int) (k : Nat) : plsB (mask xs k) = true := plsB_mk fun x hx => by
  obtain ⟨y, _, rfl⟩ := List.mem_map.1 hx
  exact place_mod y

end Go.Proofs.Ytnbnnbcjlfdlpaa
