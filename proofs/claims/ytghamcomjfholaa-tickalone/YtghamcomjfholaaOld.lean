
/-
  Lists of structs in memory: what a slice value reads as when each of its items fills n cells, between which blocks its cells lie, and what stays of it behind other writes.
-/
import Derived.Test.YtghamcomjfholaaOnly
namespace Go.Proofs.Ytghamcomjfholaa
open Go.RowKit

/-! ### Lists of lists of one length -/
theorem flat_len {α β : Type} {n : Nat} {enc : α → List β} (h : ∀ a, (enc a).length = n) : ∀ zs : List α, (zs.flatMap enc).length = zs.length * n
  | [] => by simp
  | z :: zs => by
    rw [List.flatMap_cons, List.length_append, h, flat_len h zs, List.length_cons, Nat.add_mul, Nat.one_mul, Nat.add_comm]
theorem flat_at {α β : Type} {n : Nat} {enc : α → List β} (h : ∀ a, (enc a).length = n) : ∀ (zs : List α) (k i : Nat) (hk : k < zs.length), i < n → (zs.flatMap enc)[k * n + i]? = (enc zs[k])[i]?
  | z :: zs, 0, i, _, hi => by
    rw [List.flatMap_cons, Nat.zero_mul, Nat.zero_add, List.getElem?_append_left (by rw [h]; exact hi)]
    rfl
  | z :: zs, k + 1, i, hk, hi => by
    rw [List.flatMap_cons, List.getElem?_append_right (by rw [h, Nat.add_mul, Nat.one_mul]; omega), h]
    have e : (k + 1) * n + i - n = k * n + i := by rw [Nat.add_mul, Nat.one_mul]; omega
    rw [e, flat_at h zs k i (by simpa using hk) hi]
    rfl

/-- The slice value v reads as zs, n cells each; its cells lie in one block from lo on and below hi, and none of them is frozen. -/
structure RowC {α : Type} (n : Nat) (enc : α → List Value) (lo hi : Nat) (w : World) (v : Value) (zs : List α) : Prop where
  out : ∃ p cap, v = .slice p zs.length cap ∧ (zs.length ≤ cap ∧ (p = none → cap = 0)) ∧ cap ≤ maxLen ∧
    (zs ≠ [] → ∃ b off, p = some ⟨b, off, none⟩ ∧ lo ≤ b ∧ b < hi ∧ ∀ j, j < zs.length * n → w.cell? ⟨b, off + j, none⟩ = (zs.flatMap enc)[j]? ∧ w.frozen? ⟨b, off + j, none⟩ = false)

section
variable {α : Type} {n : Nat} {enc : α → List Value} {lo hi : Nat} {w : World} {v : Value} {zs : List α}

theorem RowC.below {B : Nat} {w' : World} (h : RowC n enc lo hi w v zs) (hb : Below B w w') (hB : hi ≤ B) : RowC n enc lo hi w' v zs := by
  obtain ⟨p, cap, rfl, hl, hc, hx⟩ := h
  refine ⟨p, cap, rfl, hl, hc, fun hne => ?_⟩
  obtain ⟨b, off, rfl, h1, h2, h3⟩ := hx hne
  exact ⟨b, off, rfl, h1, h2, fun j hj => ⟨(hb.cell (p := ⟨b, off + j, none⟩) (by show b < B; omega)).trans (h3 j hj).1, (hb.frozen (p := ⟨b, off + j, none⟩) (by show b < B; omega)).trans (h3 j hj).2⟩⟩

theorem RowC.wide {lo' hi' : Nat} (h : RowC n enc lo hi w v zs) (h1 : lo' ≤ lo) (h2 : hi ≤ hi') : RowC n enc lo' hi' w v zs := by
  obtain ⟨p, cap, rfl, hl, hc, hx⟩ := h
  refine ⟨p, cap, rfl, hl, hc, fun hne => ?_⟩
  obtain ⟨b, off, rfl, k1, k2, k3⟩ := hx hne
  exact ⟨b, off, rfl, by omega, by omega, k3⟩

theorem RowC.nil {p : Option Addr} {cap : Nat} (hc : cap ≤ maxLen) (hp : p = none → cap = 0) : RowC n enc lo hi w (.slice p 0 cap) [] :=
  ⟨p, cap, rfl, ⟨Nat.zero_le _, hp⟩, hc, fun h => absurd rfl h⟩

theorem RowC.nil0 : RowC n enc lo hi w (.slice none 0 0) [] := RowC.nil (Nat.zero_le _) (fun _ => rfl)

theorem RowC.max (h : RowC n enc lo hi w v zs) : zs.length ≤ maxLen := by
  obtain ⟨p, cap, rfl, hl, hc, hx⟩ := h
  omega

/-- A row that the call owns. -/
theorem RowC.of_owns {base : Nat} {e : TypeId} {m : Nat} (hn0 : 0 < n) (henc : ∀ a, (enc a).length = n) (h : w.ownsRow base e n v m (zs.flatMap enc)) : RowC n enc base w.heap.size w v zs := by
  have h0 := h
  obtain ⟨hl, hc⟩ := h
  have hm : m = zs.length := by
    rw [flat_len henc] at hl
    exact (Nat.eq_of_mul_eq_mul_right hn0 hl).symm
  subst hm
  rcases hc with ⟨rfl, h1⟩ | ⟨g, cap, cur, rfl, hg, hh, hle, hcap, hsz, htk⟩
  · obtain rfl : zs = [] := List.length_eq_zero_iff.1 h1
    exact RowC.nil0
  · refine ⟨_, cap, rfl, ⟨hle, fun h => by cases h⟩, hcap, fun _ => ⟨g, 0, rfl, hg, (Array.getElem?_eq_some_iff.1 hh).1, fun j hj => ⟨?_, ?_⟩⟩⟩
    · rw [Nat.zero_add, h0.cellAt j hj]
    · rw [Nat.zero_add]
      exact h0.frozenAt j

theorem RowC.alloc (h : RowC n enc lo hi w v zs) (o : Obj) (henc : ∀ a, (enc a).length = n) : RowC n enc lo hi (w.alloc o) v zs := by
  obtain ⟨p, cap, rfl, hl, hc, hx⟩ := h
  refine ⟨p, cap, rfl, hl, hc, fun hne => ?_⟩
  obtain ⟨b, off, rfl, h1, h2, h3⟩ := hx hne
  refine ⟨b, off, rfl, h1, h2, fun j hj => ?_⟩
  have hs : j < (zs.flatMap enc).length := by rw [flat_len henc]; exact hj
  have hb : b < w.heap.size := World.block_lt_of_cell? _ _ ((h3 j hj).1.trans (List.getElem?_eq_getElem hs))
  have hB := (Below.refl w.heap.size w).alloc (Nat.le_refl _) o
  exact ⟨(hB.cell (p := ⟨b, off + j, none⟩) hb).trans (h3 j hj).1, (hB.frozen (p := ⟨b, off + j, none⟩) hb).trans (h3 j hj).2⟩

theorem RowC.drewN (h : RowC n enc lo hi w v zs) (q : Nat) : RowC n enc lo hi (w.drewN q) v zs := ⟨h.out⟩
end

/-! ### Items -/
def ItV (i : It) : List Value := [.int .i64 i.k, .int .i64 i.c, .int .i64 i.u, .int .i64 i.x, .bool i.g]
theorem ItV_len (i : It) : (ItV i).length = 5 := rfl
abbrev RowT := RowC 5 ItV

/-- An item stands in five cells from o on. -/
def ItAt (w : World) (b o : Nat) (i : It) : Prop :=
  w.cell? ⟨b, o, none⟩ = some (.int .i64 i.k) ∧ w.cell? ⟨b, o + 1, none⟩ = some (.int .i64 i.c) ∧ w.cell? ⟨b, o + 2, none⟩ = some (.int .i64 i.u) ∧ w.cell? ⟨b, o + 3, none⟩ = some (.int .i64 i.x) ∧ w.cell? ⟨b, o + 4, none⟩ = some (.bool i.g)
/-- What stands at place k. -/
theorem itsAt {w : World} {b off : Nat} {zs : List It} (h : ∀ j, j < zs.length * 5 → w.cell? ⟨b, off + j, none⟩ = (zs.flatMap ItV)[j]? ∧ w.frozen? ⟨b, off + j, none⟩ = false) (k : Nat) (hk : k < zs.length) : ItAt w b (off + k * 5) zs[k] := by
  have e : ∀ i, i < 5 → w.cell? ⟨b, off + k * 5 + i, none⟩ = (ItV zs[k])[i]? := fun i hi => by
    rw [Nat.add_assoc, (h (k * 5 + i) (by omega)).1, flat_at ItV_len zs k i hk hi]
  exact ⟨e 0 (by omega), e 1 (by omega), e 2 (by omega), e 3 (by omega), e 4 (by omega)⟩

/-- Where two items that are not the same differ first. -/
theorem It.ne {k c u x : Int} {g : Bool} {l d v y : Int} {h : Bool} (hn : (⟨k, c, u, x, g⟩ : It) ≠ ⟨l, d, v, y, h⟩) :
    ¬ k = l ∨ (l = k ∧ ¬ c = d) ∨ (l = k ∧ d = c ∧ ¬ u = v) ∨ (l = k ∧ d = c ∧ v = u ∧ ¬ x = y) ∨ (l = k ∧ d = c ∧ v = u ∧ y = x ∧ ¬ g = h) := by
  by_cases h1 : k = l
  · by_cases h2 : c = d
    · by_cases h3 : u = v
      · by_cases h4 : x = y
        · by_cases h5 : g = h
          · exact absurd (by rw [h1, h2, h3, h4, h5]) hn
          · exact .inr (.inr (.inr (.inr ⟨h1.symm, h2.symm, h3.symm, h4.symm, h5⟩)))
        · exact .inr (.inr (.inr (.inl ⟨h1.symm, h2.symm, h3.symm, h4⟩)))
      · exact .inr (.inr (.inl ⟨h1.symm, h2.symm, h3⟩))
    · exact .inr (.inl ⟨h1.symm, h2⟩)
  · exact .inl h1

/-- A list that was lent: two marks stand behind it, in the same memory. -/
structure LentT (lo hi : Nat) (w : World) (v : Value) (zs : List It) : Prop where
  out : ∃ g cap, v = .slice (some ⟨g, 0, none⟩) zs.length cap ∧ zs.length + 2 ≤ cap ∧ cap ≤ maxLen ∧ lo ≤ g ∧ g < hi ∧
    ∀ j, j < (zs.length + 2) * 5 → w.cell? ⟨g, j, none⟩ = ((zs ++ ([⟨0, 0, 0, 77777, false⟩, ⟨0, 0, 0, 77777, false⟩] : List It)).flatMap ItV)[j]? ∧ w.frozen? ⟨g, j, none⟩ = false

theorem LentT.below {lo hi B : Nat} {w w' : World} {v : Value} {zs : List It} (h : LentT lo hi w v zs) (hb : Below B w w') (hB : hi ≤ B) : LentT lo hi w' v zs := by
  obtain ⟨g, cap, rfl, hl, hc, h1, h2, h3⟩ := h
  exact ⟨g, cap, rfl, hl, hc, h1, h2, fun j hj => ⟨(hb.cell (p := ⟨g, j, none⟩) (by show g < B; omega)).trans (h3 j hj).1, (hb.frozen (p := ⟨g, j, none⟩) (by show g < B; omega)).trans (h3 j hj).2⟩⟩

theorem LentT.drewN {lo hi : Nat} {w : World} {v : Value} {zs : List It} (h : LentT lo hi w v zs) (q : Nat) : LentT lo hi (w.drewN q) v zs := ⟨h.out⟩

theorem LentT.row {lo hi : Nat} {w : World} {v : Value} {zs : List It} (h : LentT lo hi w v zs) : RowT lo hi w v zs := by
  obtain ⟨g, cap, rfl, hl, hc, h1, h2, h3⟩ := h
  refine ⟨_, cap, rfl, ⟨by omega, fun h => by cases h⟩, hc, fun _ => ⟨g, 0, rfl, h1, h2, fun j hj => ?_⟩⟩
  have := h3 j (by omega)
  rw [Nat.zero_add]
  rwa [List.flatMap_append, List.getElem?_append_left (by rw [flat_len ItV_len]; exact hj)] at this

theorem ItAt.below {w w' : World} {b o B : Nat} {i : It} (h : ItAt w b o i) (hb : Below B w w') (hB : b < B) : ItAt w' b o i :=
  ⟨(hb.cell (p := ⟨b, _, none⟩) hB).trans h.1, (hb.cell (p := ⟨b, _, none⟩) hB).trans h.2.1, (hb.cell (p := ⟨b, _, none⟩) hB).trans h.2.2.1, (hb.cell (p := ⟨b, _, none⟩) hB).trans h.2.2.2.1, (hb.cell (p := ⟨b, _, none⟩) hB).trans h.2.2.2.2⟩
/-- A row of items as a function of its places. -/
theorem RowC.its {lo hi : Nat} {w : World} {v : Value} {xs : List It} (hx : RowT lo hi w v xs) (hh : hi ≤ w.heap.size) :
    ∃ p c, v = .slice p xs.length c ∧ xs.length ≤ 9223372036854775807 ∧ (0 < xs.length → ∃ b off, p = some ⟨b, off, none⟩ ∧ lo ≤ b ∧ b < w.heap.size ∧ ∀ j, j < xs.length → ItAt w b (off + j * 5) (xs.getD j ⟨0, 0, 0, 0, false⟩)) := by
  obtain ⟨p, c, rfl, hl, hc, hpx⟩ := hx
  unfold maxLen at hc
  refine ⟨p, c, rfl, by omega, fun h0 => ?_⟩
  obtain ⟨b, off, e, h1, h2, h3⟩ := hpx (by intro e; simp [e] at h0)
  refine ⟨b, off, e, h1, by omega, fun j hj => ?_⟩
  have := itsAt h3 j hj
  simpa [List.getD, List.getElem?_eq_getElem hj] using this

end Go.Proofs.Ytghamcomjfholaa

namespace Go.Proofs.Ytghamcomjfholaa
open Go.ChangeShapes Go.WideShapes Go.ChangeAt Go.RowKit

theorem Box.belowAt {B : Nat} {w w' : World} {b : Nat} {xs : Array Value} (h : Box w b xs) (hb : Below B w w') (hB : b < B) : Box w' b xs :=
  ⟨Nat.lt_of_lt_of_le h.1 hb.size, fun o => (hb.cell (p := ⟨b, o, none⟩) hB).trans (h.2.1 o), fun o => (hb.frozen (p := ⟨b, o, none⟩) hB).trans (h.2.2 o)⟩

/-- A block that is not among those that have turned stays. -/
theorem Box.only {lo hi b : Nat} {w w' : World} {xs : Array Value} (h : Box w b xs) (hS : Only lo hi w w') (hb : b < lo ∨ hi ≤ b) : Box w' b xs :=
  ⟨by rw [hS.size]; exact h.1, fun o => (hS.cell b o hb).trans (h.2.1 o), fun o => (hS.frozen b o).trans (h.2.2 o)⟩

/-- A row of the call's own stays behind a call. -/
theorem ownsRow_below {w w' : World} {base : Nat} {e : TypeId} {size : Nat} {v : Value} {n : Nat} {xs : List Value} (h : w.ownsRow base e size v n xs) (hb : Below w.heap.size w w') : w'.ownsRow base e size v n xs :=
  h.kept (row := none) ⟨hb.os, hb.tape, hb.output, hb.size, fun k hk _ => hb.block k hk⟩ (by cases hv : v.ownBlock <;> simp)
end Go.Proofs.Ytghamcomjfholaa

namespace Go.Proofs.Ytghamcomjfholaa

theorem getD_in {α : Type} (xs : List α) (d : α) {j : Nat} (hj : j < xs.length) : xs.getD j d = xs[j] := by simp [List.getD, List.getElem?_eq_getElem hj]
theorem take_step {α : Type} {xs : List α} {k : Nat} (hk : k < xs.length) : xs.take (k + 1) = xs.take k ++ [xs[k]] := List.take_succ_eq_append_getElem hk
theorem filter_cut {α : Type} {xs : List α} {p : α → Bool} {m : Nat} (h1 : ∀ x ∈ xs.take m, p x = true) (h2 : ∀ x ∈ xs.drop m, p x = false) : xs.filter p = xs.take m := by
  conv => lhs; rw [← List.take_append_drop m xs]
  rw [List.filter_append, List.filter_eq_self.2 h1, List.filter_eq_nil_iff.2 (fun x hx => by simp [h2 x hx]), List.append_nil]
theorem filter_tail {α : Type} {xs : List α} {p : α → Bool} {m : Nat} (h1 : ∀ x ∈ xs.take m, p x = false) (h2 : ∀ x ∈ xs.drop m, p x = true) : xs.filter p = xs.drop m := by
  conv => lhs; rw [← List.take_append_drop m xs]
  rw [List.filter_append, List.filter_eq_self.2 h2, List.filter_eq_nil_iff.2 (fun x hx => by simp [h1 x hx]), List.nil_append]
theorem mem_take_at {α : Type} {xs : List α} {m : Nat} {x : α} (h : x ∈ xs.take m) : ∃ j, ∃ hj : j < xs.length, j < m ∧ xs[j] = x := by
  obtain ⟨j, hj, rfl⟩ := List.mem_iff_getElem.1 h
  have : j < m ∧ j < xs.length := by rw [List.length_take] at hj; omega
  exact ⟨j, this.2, this.1, by rw [List.getElem_take]⟩
theorem mem_drop_at {α : Type} {xs : List α} {m : Nat} {x : α} (h : x ∈ xs.drop m) : ∃ j, ∃ hj : j < xs.length, m ≤ j ∧ xs[j] = x := by
  obtain ⟨j, hj, rfl⟩ := List.mem_iff_getElem.1 h
  have : m + j < xs.length := by rw [List.length_drop] at hj; omega
  exact ⟨m + j, this, Nat.le_add_right _ _, by rw [List.getElem_drop]⟩
end Go.Proofs.Ytghamcomjfholaa

namespace Go.Proofs.Ytghamcomjfholaa
open Go.RowKit

theorem wp_region_below {P : Program} {id : Nat} {Q : Exit → Act → World → Prop} {a : Act} {w : World} {l : List Oper} (hm : P.follows .mixedOrders = true) (hB : Region.lexB .any l.toArray = true)
    (h : wpQuiet P l.toArray (fun w' => Below w.heap.size w w') (fun a' => ∀ w', Below w.heap.size w w' → Q .normal a' w') l a) : (Code.region id l.toArray true).wp P Q a w :=
  wp_region_quiet (C := fun w' => Below w.heap.size w w') hm hB ((Below.refl _ w).onD 1) (by simpa using h)

end Go.Proofs.Ytghamcomjfholaa

namespace Go.Proofs.Ytghamcomjfholaa
open Go.RowKit

/-! ### Parts of a row -/
theorem flat_take {α β : Type} {n : Nat} {enc : α → List β} (h : ∀ a, (enc a).length = n) (zs : List α) (m j : Nat) (hm : m ≤ zs.length) (hj : j < m * n) : ((zs.take m).flatMap enc)[j]? = (zs.flatMap enc)[j]? := by
  have hn : 0 < n := by rcases Nat.eq_zero_or_pos n with e | e; · subst e; omega
                        · exact e
  obtain ⟨q, r, rfl, hr⟩ : ∃ q r, j = q * n + r ∧ r < n := ⟨j / n, j % n, by rw [Nat.mul_comm]; exact (Nat.div_add_mod j n).symm, Nat.mod_lt _ hn⟩
  have hq : q < m := Nat.lt_of_mul_lt_mul_right (Nat.lt_of_le_of_lt (Nat.le_add_right _ _) hj)
  rw [flat_at h (zs.take m) q r (by rw [List.length_take]; omega) hr, flat_at h zs q r (by omega) hr, List.getElem_take]
theorem flat_drop {α β : Type} {n : Nat} {enc : α → List β} (h : ∀ a, (enc a).length = n) (zs : List α) (m j : Nat) (hj : j < (zs.length - m) * n) : ((zs.drop m).flatMap enc)[j]? = (zs.flatMap enc)[m * n + j]? := by
  have hn : 0 < n := by rcases Nat.eq_zero_or_pos n with e | e; · subst e; omega
                        · exact e
  obtain ⟨q, r, rfl, hr⟩ : ∃ q r, j = q * n + r ∧ r < n := ⟨j / n, j % n, by rw [Nat.mul_comm]; exact (Nat.div_add_mod j n).symm, Nat.mod_lt _ hn⟩
  have hq : q < zs.length - m := Nat.lt_of_mul_lt_mul_right (Nat.lt_of_le_of_lt (Nat.le_add_right _ _) hj)
  rw [flat_at h (zs.drop m) q r (by rw [List.length_drop]; exact hq) hr, ← Nat.add_assoc, ← Nat.add_mul, flat_at h zs (m + q) r (by omega) hr, List.getElem_drop]

section
variable {α : Type} {n : Nat} {enc : α → List Value} {lo hi : Nat} {w : World} {zs : List α}
theorem RowC.take {p : Option Addr} {L cap : Nat} (h : RowC n enc lo hi w (.slice p L cap) zs) (henc : ∀ a, (enc a).length = n) (m : Nat) (hm : m ≤ zs.length) : RowC n enc lo hi w (.slice p m cap) (zs.take m) := by
  obtain ⟨p', cap', e, hl, hc, hx⟩ := h
  cases e
  have hlen : (zs.take m).length = m := by rw [List.length_take]; omega
  refine ⟨p, cap, by rw [hlen], ⟨by rw [hlen]; omega, hl.2⟩, hc, fun hne => ?_⟩
  obtain ⟨b, off, rfl, h1, h2, h3⟩ := hx (by intro e; rw [e] at hne; simp at hne)
  refine ⟨b, off, rfl, h1, h2, fun j hj => ?_⟩
  rw [hlen] at hj
  rw [flat_take henc zs m j hm hj]
  exact h3 j (Nat.lt_of_lt_of_le hj (Nat.mul_le_mul_right n hm))
theorem RowC.drop {b off L cap : Nat} (h : RowC n enc lo hi w (.slice (some ⟨b, off, none⟩) L cap) zs) (henc : ∀ a, (enc a).length = n) (m : Nat) (hm : m ≤ zs.length) : RowC n enc lo hi w (.slice (some ⟨b, off + m * n, none⟩) (L - m) (cap - m)) (zs.drop m) := by
  obtain ⟨p', cap', e, hl, hc, hx⟩ := h
  cases e
  have hlen : (zs.drop m).length = zs.length - m := List.length_drop
  refine ⟨_, cap - m, by rw [hlen], ⟨by rw [hlen]; omega, fun h => by cases h⟩, by omega, fun hne => ?_⟩
  obtain ⟨b', off', e', h1, h2, h3⟩ := hx (by intro e; rw [e] at hne; simp at hne)
  cases e'
  refine ⟨b, off + m * n, rfl, h1, h2, fun j hj => ?_⟩
  rw [hlen] at hj
  rw [flat_drop henc zs m j hj]
  have hlt : m * n + j < zs.length * n := by
    have h4 : m * n + (zs.length - m) * n = zs.length * n := by rw [← Nat.add_mul, Nat.add_sub_cancel' hm]
    omega
  have := h3 (m * n + j) hlt
  rwa [← Nat.add_assoc] at this
end

end Go.Proofs.Ytghamcomjfholaa

namespace Go.Proofs.Ytghamcomjfholaa
open Go.RowKit

theorem bcell {W w1 : World} (hb : Below W.heap.size W w1) : (∀ b o, b < W.heap.size → w1.cell? ⟨b, o, none⟩ = W.cell? ⟨b, o, none⟩) ∧ (∀ b o, b < W.heap.size → w1.frozen? ⟨b, o, none⟩ = W.frozen? ⟨b, o, none⟩) :=
  ⟨fun b o h => hb.cell (p := ⟨b, o, none⟩) h, fun b o h => hb.frozen (p := ⟨b, o, none⟩) h⟩

end Go.Proofs.Ytghamcomjfholaa
