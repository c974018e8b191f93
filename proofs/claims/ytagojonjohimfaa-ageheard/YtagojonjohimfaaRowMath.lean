
/-
  Plain mathematics of layer 2: places by their distance from a base, each once; the nearest one from a key on.
-/
import Derived.Test.YtagojonjohimfaaPlaceMath
import Derived.Lib.SlicesCompact
namespace Go.Proofs.Ytagojonjohimfaa

/-! ### Striking out what stands twice -/
open Go.Lib in
theorem compactUpTo_mem (d : Array Int) : ∀ m, ∀ x, x ∈ compactUpTo d m ↔ ∃ j, j < m ∧ d[j]! = x
  | 0, x => by simp [compactUpTo]
  | m + 1, x => by
    rw [compactUpTo_succ, List.mem_append, compactUpTo_mem d m x]
    constructor
    · rintro (⟨j, hj, e⟩ | h)
      · exact ⟨j, by omega, e⟩
      · by_cases hk : keeps d m = true
        · rw [if_pos hk] at h
          exact ⟨m, by omega, (List.mem_singleton.1 h).symm⟩
        · rw [if_neg hk] at h
          cases h
    · rintro ⟨j, hj, e⟩
      by_cases hjm : j < m
      · exact .inl ⟨j, hjm, e⟩
      · have : j = m := by omega
        subst this
        by_cases hk : keeps d j = true
        · right; rw [if_pos hk, e]; simp
        · have : ¬ (j = 0 ∨ d[j]! ≠ d[j - 1]!) := by simpa [keeps] using hk
          have h0 : j ≠ 0 := fun h => this (.inl h)
          have h1 : d[j]! = d[j - 1]! := Classical.byContradiction fun h => this (.inr h)
          left; exact ⟨j - 1, by omega, by rw [← h1]; exact e⟩

open Go.Lib in
theorem compactUpTo_rises (f : Int → Int) (d : Array Int) (hs : ∀ i j, i < j → j < d.size → f d[i]! ≤ f d[j]!) (hi : ∀ i j, i < d.size → j < d.size → f d[i]! = f d[j]! → d[i]! = d[j]!) : ∀ m, m ≤ d.size → (compactUpTo d m).Pairwise fun x y => f x < f y
  | 0, _ => by simp [compactUpTo]
  | m + 1, hm => by
    rw [compactUpTo_succ, List.pairwise_append]
    refine ⟨compactUpTo_rises f d hs hi m (by omega), ?_, ?_⟩
    · split <;> simp
    · intro x hx y hy
      by_cases hk : keeps d m = true
      · rw [if_pos hk] at hy
        have hy := List.mem_singleton.1 hy
        subst hy
        obtain ⟨j, hj, e⟩ := (compactUpTo_mem d m x).1 hx
        subst e
        have h1 : m = 0 ∨ d[m]! ≠ d[m - 1]! := by simpa [keeps] using hk
        have h2 : d[m]! ≠ d[m - 1]! := h1.resolve_left (by omega)
        have h3 : f d[m - 1]! ≤ f d[m]! := hs _ _ (by omega) (by omega)
        have h4 : f d[m - 1]! ≠ f d[m]! := fun e => h2 (hi _ _ (by omega) (by omega) e).symm
        have h5 : f d[j]! ≤ f d[m - 1]! := by
          by_cases e : j = m - 1
          · rw [e]; exact Int.le_refl _
          · exact hs _ _ (by omega) (by omega)
        omega
      · rw [if_neg hk] at hy
        cases hy

theorem getElem!_list (zs : List Int) (j : Nat) (h : j < zs.length) : zs.toArray[j]! = zs[j] := by
  rw [getElem!_pos _ j (by simpa using h)]; simp

theorem compact_row {b : Int} {xs ss : List Int} (hb : plB b = true) (hx : plsB xs = true) (hm : ∀ x, x ∈ ss ↔ x ∈ xs ∧ x ≠ b) (hs : ss.Pairwise fun x y => far b x ≤ far b y) : Lib.compact ss = rowOf b xs := by
  have hpl : ∀ j, j < ss.length → plB (ss.toArray[j]!) = true := fun j hj => by
    rw [getElem!_list ss j hj]
    exact plsB_mem hx _ ((hm _).1 (List.getElem_mem hj)).1
  refine rise_unique (f := far b) _ _ ?_ (rowOf_sorted b xs) ?_
  · refine compactUpTo_rises (far b) ss.toArray ?_ ?_ ss.length (by simp)
    · intro i j hij hj
      have hj : j < ss.length := by simpa using hj
      rw [getElem!_list ss i (by omega), getElem!_list ss j hj]
      exact List.pairwise_iff_getElem.1 hs i j (by omega) hj hij
    · intro i j hi hj e
      exact far_inj (hpl i (by simpa using hi)) (hpl j (by simpa using hj)) e
  · intro x
    unfold Lib.compact
    rw [compactUpTo_mem, mem_rowOf hb hx, ← hm, List.mem_iff_getElem]
    constructor
    · rintro ⟨j, hj, e⟩; exact ⟨j, hj, by rw [← e, getElem!_list ss j hj]⟩
    · rintro ⟨j, hj, e⟩; exact ⟨j, hj, by rw [← e, getElem!_list ss j hj]⟩

/-! ### The owner -/
/-- Of g 0 to g k the one that is nearest from the key on (of equals the first). -/
def nearAt (key : Int) (g : Nat → Int) : Nat → Int
  | 0 => g 0
  | k + 1 => if far key (g (k + 1)) < far key (nearAt key g k) then g (k + 1) else nearAt key g k
def ownerOf (xs : List Int) (key : Int) : Int := nearAt key (fun j => xs.getD j 0) (xs.length - 1)

theorem nearAt_mem (key : Int) (g : Nat → Int) : ∀ k, ∃ j, j ≤ k ∧ nearAt key g k = g j
  | 0 => ⟨0, Nat.le_refl _, rfl⟩
  | k + 1 => by
    unfold nearAt
    split
    · exact ⟨k + 1, Nat.le_refl _, rfl⟩
    · obtain ⟨j, hj, e⟩ := nearAt_mem key g k
      exact ⟨j, by omega, e⟩
theorem nearAt_le (key : Int) (g : Nat → Int) : ∀ k j, j ≤ k → far key (nearAt key g k) ≤ far key (g j)
  | 0, j, h => by
    obtain rfl : j = 0 := by omega
    exact Int.le_refl _
  | k + 1, j, h => by
    unfold nearAt
    by_cases e : j = k + 1
    · subst e
      split <;> omega
    · have := nearAt_le key g k j (by omega)
      split <;> omega

theorem ownerOf_mem {xs : List Int} (key : Int) (h : xs ≠ []) : ownerOf xs key ∈ xs := by
  have hl : 0 < xs.length := List.length_pos_iff.2 h
  obtain ⟨j, hj, e⟩ := nearAt_mem key (fun j => xs.getD j 0) (xs.length - 1)
  unfold ownerOf
  rw [e]
  have hjl : j < xs.length := by omega
  simp [List.getD, List.getElem?_eq_getElem hjl]
theorem ownerOf_le {xs : List Int} (key : Int) : ∀ x ∈ xs, far key (ownerOf xs key) ≤ far key x := by
  intro x h
  obtain ⟨j, hj, rfl⟩ := List.mem_iff_getElem.1 h
  have := nearAt_le key (fun j => xs.getD j 0) (xs.length - 1) j (by omega)
  have e : xs.getD j 0 = xs[j] := by simp [List.getD, List.getElem?_eq_getElem hj]
  rw [← e]
  exact this
/-- Whoever is among them and nearest is the owner. -/
theorem ownerOf_eq {xs : List Int} {key o : Int} (hx : plsB xs = true) (ho : o ∈ xs) (hle : ∀ x ∈ xs, far key o ≤ far key x) : ownerOf xs key = o := by
  have hne : xs ≠ [] := fun e => by rw [e] at ho; cases ho
  have h1 := ownerOf_mem key hne
  exact far_inj (plsB_mem hx _ h1) (plsB_mem hx _ ho) (Int.le_antisymm (ownerOf_le key o ho) (hle _ h1))

/-! ### What is answered -/
/-- May the base and the list be sorted? -/
def rowB (b : Int) (xs : List Int) : Bool := decide (xs.length ≤ 64) && plB b && plsB xs
theorem rowB_yes {b : Int} {xs : List Int} (h : rowB b xs = true) : xs.length ≤ 64 ∧ plB b = true ∧ plsB xs = true := by
  simp [rowB] at h; exact ⟨h.1.1, h.1.2, h.2⟩
theorem rowB_no {b : Int} {xs : List Int} (h : rowB b xs = false) : plB b = false ∨ plsB xs = false ∨ 64 < xs.length := by
  simp only [rowB, Bool.and_eq_false_iff, decide_eq_false_iff_not] at h
  rcases h with (h | h) | h
  · right; right; omega
  · left; exact h
  · right; left; exact h
def rowL (b : Int) (xs : List Int) : List Int := if rowB b xs = true then rowOf b xs else []
def rowE (b : Int) (xs : List Int) : Int := if rowB b xs = true then 0 else 200
def ownV (xs : List Int) (b : Int) : Int := if rowB b xs = true ∧ xs ≠ [] then ownerOf xs b else 0
def ownE (xs : List Int) (b : Int) : Int := if rowB b xs = true ∧ xs ≠ [] then 0 else 200
theorem rowB_mk {b : Int} {xs : List Int} (hl : xs.length ≤ 64) (hb : plB b = true) (hx : plsB xs = true) : rowB b xs = true := by simp [rowB, hl, hb, hx]

theorem pls_cons {x : Int} {xs : List Int} (h : plB x = true) (k : plsB xs = true) : plsB (x :: xs) = true := plsB_mk fun y hy => by
  rcases List.mem_cons.1 hy with rfl | hy
  · exact h
  · exact plsB_mem k y hy
theorem ownV_yes {xs : List Int} {b : Int} (h : rowB b xs = true) (h0 : xs ≠ []) : ownV xs b = ownerOf xs b ∧ ownE xs b = 0 := by
  unfold ownV ownE; rw [if_pos ⟨h, h0⟩, if_pos ⟨h, h0⟩]; exact ⟨rfl, rfl⟩
theorem rowL_yes {xs : List Int} {b : Int} (h : rowB b xs = true) : rowL b xs = rowOf b xs ∧ rowE b xs = 0 := by
  unfold rowL rowE; rw [if_pos h, if_pos h]; exact ⟨rfl, rfl⟩
theorem owner_self {xs : List Int} {b : Int} (hx : plsB xs = true) (hb : b ∈ xs) : ownerOf xs b = b :=
  ownerOf_eq hx hb fun x _ => by rw [far_self]; exact (far_bd b x).1

/-! ### The sorted list, place by place -/
theorem rowOf_pl {b : Int} {xs : List Int} (hb : plB b = true) (hx : plsB xs = true) (x : Int) (h : x ∈ rowOf b xs) : plB x = true := plsB_mem hx x ((mem_rowOf hb hx x).1 h).1
theorem getD_mem (xs : List Int) (j : Nat) (h : j < xs.length) : xs.getD j 0 ∈ xs := by
  simp [List.getD, List.getElem?_eq_getElem h]
/-- The distance of the one before. -/
def lastAt (b : Int) (a : List Int) (k : Nat) : Int := if k = 0 then 0 else far b (a.getD (k - 1) 0)
theorem lastAt_lt {b : Int} {xs : List Int} (hb : plB b = true) (hx : plsB xs = true) (k : Nat) (hk : k < (rowOf b xs).length) : lastAt b (rowOf b xs) k < far b ((rowOf b xs).getD k 0) := by
  unfold lastAt
  split
  · rename_i h; subst h
    have hm := getD_mem _ _ hk
    have hn := ((mem_rowOf hb hx _).1 hm).2
    have h0 : far b ((rowOf b xs).getD 0 0) ≠ 0 := fun e => hn (far_zero hb (rowOf_pl hb hx _ hm) e)
    have := far_bd b ((rowOf b xs).getD 0 0)
    omega
  · have := List.pairwise_iff_getElem.1 (rowOf_sorted b xs) (k - 1) k (by omega) hk (by omega)
    have e1 : (rowOf b xs).getD (k - 1) 0 = (rowOf b xs)[k - 1] := by simp [List.getD, List.getElem?_eq_getElem (show k - 1 < (rowOf b xs).length by omega)]
    have e2 : (rowOf b xs).getD k 0 = (rowOf b xs)[k] := by simp [List.getD, List.getElem?_eq_getElem hk]
    rw [e1, e2]
    exact this
theorem rowOf_nil (b : Int) : rowOf b [] = [] := by
  unfold rowOf rowTo
  simp
/-- The first one of the sorted list owns the base, where the base itself is not among them. -/
theorem rowOf_first {b : Int} {xs : List Int} (hb : plB b = true) (hx : plsB xs = true) (h0 : xs ≠ []) (hn : ¬ b ∈ xs) : 0 < (rowOf b xs).length ∧ ownerOf xs b = (rowOf b xs).getD 0 0 := by
  have hall : ∀ x ∈ xs, x ∈ rowOf b xs := fun x h => (mem_rowOf hb hx x).2 ⟨h, fun e => hn (e ▸ h)⟩
  have hpos : 0 < (rowOf b xs).length := by
    cases xs with
    | nil => exact absurd rfl h0
    | cons x xs => exact List.length_pos_of_mem (hall x (by simp))
  refine ⟨hpos, ?_⟩
  have e0 : (rowOf b xs).getD 0 0 = (rowOf b xs)[0] := by simp [List.getD, List.getElem?_eq_getElem hpos]
  refine ownerOf_eq hx ((mem_rowOf hb hx _).1 (getD_mem _ 0 hpos)).1 fun x h => ?_
  obtain ⟨j, hj, rfl⟩ := List.mem_iff_getElem.1 (hall x h)
  rw [e0]
  by_cases ej : j = 0
  · subst ej; exact Int.le_refl _
  · exact Int.le_of_lt (List.pairwise_iff_getElem.1 (rowOf_sorted b xs) 0 j hpos hj (by omega))

/-! ### In another row -/
def turnd (xs : List Int) (m s k : Nat) : List Int := (List.range k).map fun j => xs.getD ((j + s) % m) 0 % 256
theorem turnd_succ (xs : List Int) (m s k : Nat) : turnd xs m s (k + 1) = turnd xs m s k ++ [xs.getD ((k + s) % m) 0 % 256] := by
  unfold turnd; rw [List.range_succ, List.map_append]; rfl
theorem turnd_len (xs : List Int) (m s k : Nat) : (turnd xs m s k).length = k := by simp [turnd]
theorem turnd_mem (xs : List Int) (m s : Nat) (h : m ≤ xs.length) : ∀ x ∈ turnd xs m s m, x ∈ mask xs m := by
  intro x hx
  obtain ⟨j, hj, rfl⟩ := List.mem_map.1 hx
  have hm := List.mem_range.1 hj
  have hlt : (j + s) % m < m := Nat.mod_lt _ (by omega)
  unfold mask
  refine List.mem_map.2 ⟨xs.getD ((j + s) % m) 0, ?_, rfl⟩
  have hl : (j + s) % m < xs.length := by omega
  rw [List.mem_take_iff_getElem]
  exact ⟨(j + s) % m, by omega, by simp [List.getD, List.getElem?_eq_getElem hl]⟩
theorem turnd_same (xs : List Int) (m s : Nat) (h : m ≤ xs.length) : ∀ x, x ∈ turnd xs m s m ++ mask xs m ↔ x ∈ mask xs m := fun x => by
  rw [List.mem_append]
  exact ⟨fun h1 => h1.elim (turnd_mem xs m s h x) id, .inr⟩
theorem rowOf_same {b : Int} {xs ys : List Int} (h : ∀ x, x ∈ ys ↔ x ∈ xs) : rowOf b ys = rowOf b xs := by
  unfold rowOf rowTo
  congr 1
  funext x
  simp [h x]
theorem ownerOf_same {key : Int} {xs ys : List Int} (hx : plsB xs = true) (h : ∀ x, x ∈ ys ↔ x ∈ xs) (h0 : xs ≠ []) : ownerOf ys key = ownerOf xs key :=
  ownerOf_eq (plsB_mk fun x hy => plsB_mem hx x ((h x).1 hy)) ((h _).2 (ownerOf_mem key h0)) fun x hy => ownerOf_le key x ((h x).1 hy)

end Go.Proofs.Ytagojonjohimfaa
