
/-
  Rows of ints: parts of them; a block as a row; comparing two rows, and spoiling one.
-/
import Derived.Test.YtnadallefpahjaaLaw0
import Derived.Test.YtnadallefpahjaaOnly
namespace Go.Proofs.Ytnadallefpahjaa
open Go.ChangeShapes Go.WideShapes Go.ChangeAt Go.RowKit

/-- A block of ints, as a row of them. -/
theorem Box.rowI {w : World} {b n : Nat} {cs : Array Value} (xs : List Int) (h : Box w b cs) (hc : cs.toList = xs.map (Value.int .i64)) (hn : n = xs.length) (hm : n ≤ maxLen) : RowI b (b + 1) w (.slice (some ⟨b, 0, none⟩) n n) xs := by
  subst hn
  refine ⟨_, _, rfl, ⟨Nat.le_refl _, fun h => by cases h⟩, hm, fun _ => ⟨b, 0, rfl, Nat.le_refl _, Nat.lt_succ_self _, fun j hj => ⟨?_, ?_⟩⟩⟩
  · rw [Nat.zero_add, h.2.1 j, ← Array.getElem?_toList, hc, List.getElem?_map, List.getElem?_eq_getElem hj]
    simp [List.getD, List.getElem?_eq_getElem hj]
  · rw [Nat.zero_add]
    exact h.2.2 j
theorem sameI_at {lo hi lo' hi' : Nat} {w : World} {v u : Value} {xs ys : List Int} (hx : RowI lo hi w v xs) (hy : RowI lo' hi' w u ys) {b : Bool} (hB : decide (xs = ys) = b) :
    Calls Try.prog 49 #[v, u] w fun e w' => e = .returned (.bool b) ∧ Below w.heap.size w w' :=
  hB ▸ (sameInts_any hx hy).mono fun _ _ ⟨he, q, hq⟩ => ⟨he, hq ▸ (Below.refl _ w).onD q⟩
theorem RowI.take {lo hi : Nat} {w : World} {p : Option Addr} {L cap : Nat} {zs : List Int} (h : RowI lo hi w (.slice p L cap) zs) (m : Nat) (hm : m ≤ zs.length) : RowI lo hi w (.slice p m cap) (zs.take m) := by
  obtain ⟨p', cap', e, hl, hc, hx⟩ := h
  cases e
  have hlen : (zs.take m).length = m := by rw [List.length_take]; omega
  refine ⟨p, cap, by rw [hlen], ⟨by rw [hlen]; omega, hl.2⟩, hc, fun hne => ?_⟩
  obtain ⟨b, off, rfl, h1, h2, h3⟩ := hx (by intro e; rw [e] at hne; simp at hne)
  refine ⟨b, off, rfl, h1, h2, fun j hj => ?_⟩
  rw [hlen] at hj
  have := h3 j (by omega)
  simpa [List.getD, hj] using this
theorem RowI.drop {lo hi : Nat} {w : World} {b off L cap : Nat} {zs : List Int} (h : RowI lo hi w (.slice (some ⟨b, off, none⟩) L cap) zs) (m : Nat) (hm : m ≤ zs.length) : RowI lo hi w (.slice (some ⟨b, off + m, none⟩) (L - m) (cap - m)) (zs.drop m) := by
  obtain ⟨p', cap', e, hl, hc, hx⟩ := h
  cases e
  have hlen : (zs.drop m).length = zs.length - m := List.length_drop
  refine ⟨_, cap - m, by rw [hlen], ⟨by rw [hlen]; omega, fun h => by cases h⟩, by omega, fun hne => ?_⟩
  obtain ⟨b', off', e', h1, h2, h3⟩ := hx (by intro e; rw [e] at hne; simp at hne)
  cases e'
  refine ⟨b, off + m, rfl, h1, h2, fun j hj => ?_⟩
  rw [hlen] at hj
  have := h3 (m + j) (by omega)
  rw [← Nat.add_assoc] at this
  simpa [List.getD] using this
/-- A row of ints as a function of its places. -/
theorem RowI.ints {lo hi : Nat} {w : World} {v : Value} {xs : List Int} (hx : RowI lo hi w v xs) (hh : hi ≤ w.heap.size) :
    ∃ p c, v = .slice p xs.length c ∧ xs.length ≤ 9223372036854775807 ∧ (0 < xs.length → ∃ b off, p = some ⟨b, off, none⟩ ∧ lo ≤ b ∧ b < w.heap.size ∧ ∀ j, j < xs.length → w.cell? ⟨b, off + j, none⟩ = some (.int .i64 (xs.getD j 0))) := by
  obtain ⟨p, c, rfl, hl, hc, hpx⟩ := hx
  unfold maxLen at hc
  refine ⟨p, c, rfl, by omega, fun h0 => ?_⟩
  obtain ⟨b, off, e, h1, h2, h3⟩ := hpx (by intro e; simp [e] at h0)
  exact ⟨b, off, e, h1, by omega, fun j hj => (h3 j hj).1⟩

end Go.Proofs.Ytnadallefpahjaa
