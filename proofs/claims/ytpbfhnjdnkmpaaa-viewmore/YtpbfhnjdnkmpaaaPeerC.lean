
/-
  Contracts of package peers' Heard and Age, at every list of peers: what they return, in new memory, and that no old memory has turned.
-/
import Derived.Test.YtpbfhnjdnkmpaaaPeerB
namespace Go.Proofs.Ytpbfhnjdnkmpaaa
open Go.ChangeShapes Go.WideShapes Go.ChangeAt Go.RowKit

theorem apart_none (v : Value) : Apart (.slice none 0 0) v := fun k h => by cases h
/-- Two rows of a call's own, in two blocks. -/
theorem two_rows {w : World} {base n k : Nat} {o l : Value} {xs : List Pe} {ys : List Int} (ho : w.ownsRow base 42 2 o n (xs.flatMap PeV)) (hl : w.ownsRow base 3 1 l k (ys.map (Value.int .i64))) (hap : Apart o l) (hb : base ≤ w.heap.size) :
    ∃ lo1 hi1 lo2 hi2, RowP lo1 hi1 w o xs ∧ RowI lo2 hi2 w l ys ∧ (hi1 ≤ lo2 ∨ hi2 ≤ lo1) ∧ base ≤ lo1 ∧ hi1 ≤ w.heap.size ∧ base ≤ lo2 ∧ hi2 ≤ w.heap.size := by
  have h1 := ho
  have h2 := hl
  obtain ⟨el, ec⟩ := ho
  obtain ⟨fl, fc⟩ := hl
  have hn : n = xs.length := by
    rw [flat_len PeV_len] at el
    omega
  have hk : k = ys.length := by simpa using fl.symm
  subst hn hk
  rcases ec with ⟨rfl, e1⟩ | ⟨g, cap, cur, rfl, hg, hh, hle, hcap, hsz, htk⟩
  · obtain rfl : xs = [] := List.length_eq_zero_iff.1 e1
    exact ⟨base, base, base, w.heap.size, RowC.nil0, RowI.of_owns h2, .inl (Nat.le_refl _), Nat.le_refl _, hb, Nat.le_refl _, Nat.le_refl _⟩
  · have hgw : g < w.heap.size := (Array.getElem?_eq_some_iff.1 hh).1
    have R1 : RowP g (g + 1) w (.slice (some ⟨g, 0, none⟩) xs.length cap) xs := by
      refine ⟨_, cap, rfl, ⟨hle, fun h => by cases h⟩, hcap, fun _ => ⟨g, 0, rfl, Nat.le_refl _, Nat.lt_succ_self _, fun j hj => ⟨?_, ?_⟩⟩⟩
      · rw [Nat.zero_add, h1.cellAt j hj]
      · rw [Nat.zero_add]
        exact h1.frozenAt j
    rcases fc with ⟨rfl, e1⟩ | ⟨g', cap', cur', rfl, hg', hh', hle', hcap', hsz', htk'⟩
    · obtain rfl : ys = [] := List.length_eq_zero_iff.1 e1
      exact ⟨g, g + 1, base, base, R1, RowI.nil0, .inr hg, hg, hgw, Nat.le_refl _, hb⟩
    · have hgw' : g' < w.heap.size := (Array.getElem?_eq_some_iff.1 hh').1
      have hne : g ≠ g' := fun e => hap g rfl (by rw [e]; rfl)
      have R2 : RowI g' (g' + 1) w (.slice (some ⟨g', 0, none⟩) ys.length cap') ys := by
        obtain ⟨p, c, e, a1, a2, a3⟩ := RowI.of_owns h2
        cases e
        refine ⟨_, _, rfl, a1, a2, fun hne => ?_⟩
        obtain ⟨b, off, e, _, _, a4⟩ := a3 hne
        cases e
        exact ⟨g', 0, rfl, Nat.le_refl _, Nat.lt_succ_self _, a4⟩
      exact ⟨g, g + 1, g', g' + 1, R1, R2, by omega, hg, hgw, hg', hgw'⟩

end Go.Proofs.Ytpbfhnjdnkmpaaa
