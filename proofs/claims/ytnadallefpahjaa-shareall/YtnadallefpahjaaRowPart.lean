
/-
  Parts of a row: its first ones, the others.
-/
import Derived.Test.YtnadallefpahjaaRowC
namespace Go.Proofs.Ytnadallefpahjaa
open Go.RowKit

/-! ### Parts of a row -/
theorem flat_take {α β : Type} {n : Nat} {enc : α → List β} (h : ∀ a, (enc a).length = n) (zs : List α) (m j : Nat) (hm : m ≤ zs.length) (hj : j < m * n) : ((zs.take m).flatMap enc)[j]? = (zs.flatMap enc)[j]? := by
  have hn : 0 < n := by rcases Nat.eq_zero_or_pos n with e | e; · subst e; omega
                        · exact e
  obtain ⟨q, r, rfl, hr⟩ : ∃ q r, j = q * n + r ∧ r < n := ⟨j / n, j % n, by rw [Nat.mul_comm]; exact (Nat.div_add_mod j n).symm, Nat.mod_lt _ hn⟩
  have hq : q < m := Nat.lt_of_mul_lt_mul_right (Nat.lt_of_le_of_lt (Nat.le_add_right _ _) hj)
  rw [flat_at h (zs.take m) q r (by rw [List.length_take]; omega) hr, flat_at h zs q r (by omega) hr, List.getElem_take]
theorem flat_drop {α β : Type} {n : Nat} {enc : α → List β} (h : ∀ a, (enc a).length = n) (zs : List α) (m j : Nat) (hj : j < (zs.length - m) * n) : ((zs.drop m).flatMap enc)[j]? = (zs.flatMap enc)[m * n + j]? := by
  have hn : 0 < n := by rcases Nat.eq_zero_or_pos n with e | e; · subst e; omega
                        · exact e
  obtain ⟨q, r, rfl, hr⟩ : ∃ q r, j = q * n + r ∧ r < n := ⟨j / n, j % n, by rw [Nat.mul_comm]; exact (Nat.div_add_mod j n).symm, Nat.mod_lt _ hn⟩
  have hq : q < zs.length - m := Nat.lt_of_mul_lt_mul_right (Nat.lt_of_le_of_lt (Nat.le_add_right _ _) hj)
  rw [flat_at h (zs.drop m) q r (by rw [List.length_drop]; exact hq) hr, ← Nat.add_assoc, ← Nat.add_mul, flat_at h zs (m + q) r (by omega) hr, List.getElem_drop]

section
variable {α : Type} {n : Nat} {enc : α → List Value} {lo hi : Nat} {w : World} {zs : List α}
theorem RowC.take {p : Option Addr} {L cap : Nat} (h : RowC n enc lo hi w (.slice p L cap) zs) (henc : ∀ a, (enc a).length = n) (m : Nat) (hm : m ≤ zs.length) : RowC n enc lo hi w (.slice p m cap) (zs.take m) := by
  obtain ⟨p', cap', e, hl, hc, hx⟩ := h
  cases e
  have hlen : (zs.take m).length = m := by rw [List.length_take]; omega
  refine ⟨p, cap, by rw [hlen], ⟨by rw [hlen]; omega, hl.2⟩, hc, fun hne => ?_⟩
  obtain ⟨b, off, rfl, h1, h2, h3⟩ := hx (by intro e; rw [e] at hne; simp at hne)
  refine ⟨b, off, rfl, h1, h2, fun j hj => ?_⟩
  rw [hlen] at hj
  rw [flat_take henc zs m j hm hj]
  exact h3 j (Nat.lt_of_lt_of_le hj (Nat.mul_le_mul_right n hm))
theorem RowC.drop {b off L cap : Nat} (h : RowC n enc lo hi w (.slice (some ⟨b, off, none⟩) L cap) zs) (henc : ∀ a, (enc a).length = n) (m : Nat) (hm : m ≤ zs.length) : RowC n enc lo hi w (.slice (some ⟨b, off + m * n, none⟩) (L - m) (cap - m)) (zs.drop m) := by
  obtain ⟨p', cap', e, hl, hc, hx⟩ := h
  cases e
  have hlen : (zs.drop m).length = zs.length - m := List.length_drop
  refine ⟨_, cap - m, by rw [hlen], ⟨by rw [hlen]; omega, fun h => by cases h⟩, by omega, fun hne => ?_⟩
  obtain ⟨b', off', e', h1, h2, h3⟩ := hx (by intro e; rw [e] at hne; simp at hne)
  cases e'
  refine ⟨b, off + m * n, rfl, h1, h2, fun j hj => ?_⟩
  rw [hlen] at hj
  rw [flat_drop henc zs m j hj]
  have hlt : m * n + j < zs.length * n := by
    have h4 : m * n + (zs.length - m) * n = zs.length * n := by rw [← Nat.add_mul, Nat.add_sub_cancel' hm]
    omega
  have := h3 (m * n + j) hlt
  rwa [← Nat.add_assoc] at this
end

end Go.Proofs.Ytnadallefpahjaa
