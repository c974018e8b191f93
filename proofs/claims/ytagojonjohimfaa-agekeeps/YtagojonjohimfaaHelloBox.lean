
/-
  The two lists of a view whose own variable lies in a block of its own: what stays of them when that variable is written. And a little plain mathematics of package hello's way.
-/
import Derived.Test.YtagojonjohimfaaHelloMath
import Derived.Test.YtagojonjohimfaaViewRow
namespace Go.Proofs.Ytagojonjohimfaa
open Go.ChangeShapes Go.WideShapes Go.ChangeAt Go.RowKit

/-- As VwNew, and neither list lies in block b. -/
structure VwBut (base b : Nat) (w : World) (p q : Value) (ps : List Pe) (is : List Int) : Prop where
  out : ∃ lo1 hi1 lo2 hi2, RowP lo1 hi1 w p ps ∧ RowI lo2 hi2 w q is ∧ base ≤ lo1 ∧ hi1 ≤ w.heap.size ∧ base ≤ lo2 ∧ hi2 ≤ w.heap.size ∧ (hi1 ≤ lo2 ∨ hi2 ≤ lo1) ∧ (hi1 ≤ b ∨ b < lo1) ∧ (hi2 ≤ b ∨ b < lo2)
section but
variable {base b : Nat} {w w' : World} {p q : Value} {ps : List Pe} {is : List Int}
theorem VwNew.but (h : VwNew base w p q ps is) (hb : w.heap.size ≤ b) : VwBut base b w p q ps is := by
  obtain ⟨lo1, hi1, lo2, hi2, P, Q, h1, h2, h3, h4, h5⟩ := h.out
  exact ⟨lo1, hi1, lo2, hi2, P, Q, h1, h2, h3, h4, h5, .inl (by omega), .inl (by omega)⟩
theorem VwBut.new (h : VwBut base b w p q ps is) : VwNew base w p q ps is := by
  obtain ⟨lo1, hi1, lo2, hi2, P, Q, h1, h2, h3, h4, h5, -, -⟩ := h.out
  exact ⟨lo1, hi1, lo2, hi2, P, Q, h1, h2, h3, h4, h5⟩
theorem VwBut.at (h : VwBut base b w p q ps is) : VwAt base w.heap.size w p q ps is := h.new.at
theorem VwBut.below (h : VwBut base b w p q ps is) (hb : Below w.heap.size w w') : VwBut base b w' p q ps is := by
  obtain ⟨lo1, hi1, lo2, hi2, P, Q, h1, h2, h3, h4, h5⟩ := h.out
  exact ⟨lo1, hi1, lo2, hi2, P.below hb h2, Q.below hb h4, h1, Nat.le_trans h2 hb.size, h3, Nat.le_trans h4 hb.size, h5⟩
theorem VwBut.alloc (h : VwBut base b w p q ps is) (o : Obj) : VwBut base b (w.alloc o) p q ps is := h.below ((Below.refl _ w).onA o)
/-- The variable's own block is written. -/
theorem VwBut.set (h : VwBut base b w p q ps is) (hS : Only b (b + 1) w w') : VwBut base b w' p q ps is := by
  obtain ⟨lo1, hi1, lo2, hi2, P, Q, h1, h2, h3, h4, h5, h6, h7⟩ := h.out
  refine ⟨lo1, hi1, lo2, hi2, P.only hS (by omega), Q.only hS (by omega), h1, by rw [hS.size]; exact h2, h3, by rw [hS.size]; exact h4, h5, h6, h7⟩
/-- A block below all is written. -/
theorem VwNew.only {lo hi : Nat} (h : VwNew base w p q ps is) (hS : Only lo hi w w') (hl : hi ≤ base) : VwNew base w' p q ps is := by
  obtain ⟨lo1, hi1, lo2, hi2, P, Q, h1, h2, h3, h4, h5⟩ := h.out
  refine ⟨lo1, hi1, lo2, hi2, P.only hS (.inr (by omega)), Q.only hS (.inr (by omega)), h1, by rw [hS.size]; exact h2, h3, by rw [hS.size]; exact h4, h5⟩
/-- A block above all is written. -/
theorem VwBut.over {lo hi : Nat} (h : VwBut base b w p q ps is) {w1 : World} (hb : Below w.heap.size w w1) (hS : Only lo hi w1 w') (hl : w.heap.size ≤ lo) : VwBut base b w' p q ps is := by
  obtain ⟨lo1, hi1, lo2, hi2, P, Q, h1, h2, h3, h4, h5⟩ := (h.below hb).out
  obtain ⟨mo1, ni1, mo2, ni2, P', Q', k1, k2, k3, k4, k5⟩ := h.out
  have := hS.size
  have := hb.size
  exact ⟨mo1, ni1, mo2, ni2, (P'.below hb k2).only hS (.inl (by omega)), (Q'.below hb k4).only hS (.inl (by omega)), k1, by omega, k3, by omega, k5⟩
theorem VwBut.shape (h : VwBut base b w p q ps is) :
    ∃ a c a' c', p = .slice a ps.length c ∧ q = .slice a' is.length c' ∧ ps.length ≤ 9223372036854775807 ∧ is.length ≤ 9223372036854775807 := h.at.shape
/-- New peers, above all that was there. -/
theorem VwBut.heard (h : VwBut base b w p q ps is) (hb : base ≤ w.heap.size) (hbw : b ≤ w.heap.size) {w2 : World} (hk : Below w.heap.size w w2) {lo : Nat} {p' : Value} {ys : List Pe} (P : RowP lo w2.heap.size w2 p' ys) (hlo : w.heap.size + 2 ≤ lo) (hS : Only w.heap.size (w.heap.size + 1 + 1) w2 w') : VwBut base b w' p' q ys is := by
  obtain ⟨lo1, hi1, lo2, hi2, -, Q, h1, h2, h3, h4, h5, h6, h7⟩ := h.out
  have := hS.size
  have := hk.size
  exact ⟨lo, w2.heap.size, lo2, hi2, P.only hS (.inr (by omega)), (Q.below hk h4).only hS (.inl (by omega)), by omega, by omega, h3, by omega, .inr (by omega), .inr (by omega), h7⟩
/-- Two new lists, one behind the other, above all that was there. -/
theorem VwBut.fresh (hb : base ≤ w.heap.size) (hbw : b ≤ w.heap.size) {w2 w3 : World} {lo : Nat} (P : RowP lo w2.heap.size w2 p ps) (hlo : w.heap.size + 2 ≤ lo) (hl2 : lo ≤ w2.heap.size) (h3 : Below w2.heap.size w2 w3) (Q : RowI w2.heap.size w3.heap.size w3 q is) (hS : Only w.heap.size (w.heap.size + 1 + 1) w3 w') : VwBut base b w' p q ps is := by
  have := hS.size
  have := h3.size
  exact ⟨lo, w2.heap.size, w2.heap.size, w3.heap.size, (P.below h3 (Nat.le_refl _)).only hS (.inr (by omega)), Q.only hS (.inr (by omega)), by omega, by omega, by omega, by omega, .inl (Nat.le_refl _), .inr (by omega), .inr (by omega)⟩
theorem VwBut.drewN (h : VwBut base b w p q ps is) (n : Nat) : VwBut base b (w.drewN n) p q ps is := h.below ((Below.refl _ w).onD n)
end but

/-- Both lists are slices, of whatever length. -/
theorem VwAt.slices {lo hi : Nat} {w : World} {p q : Value} {ps : List Pe} {is : List Int} (h : VwAt lo hi w p q ps is) : ∃ a n c a' n' c', p = .slice a n c ∧ q = .slice a' n' c' := by
  obtain ⟨a, c, a', c', e1, e2, -, -⟩ := h.shape
  exact ⟨a, _, c, a', _, c', e1, e2⟩

/-! ### Package hello's way: the peers behind one that is heard, if there is room -/
def hrL (i : Int) (s : VSt) (d : Int) : List Pe := if ¬ d ∈ nmL s.1 ∧ 16 ≤ szS s then s.1 else hdL i s.1 d
theorem hr_full {i d : Int} {s : VSt} (h : ¬ d ∈ nmL s.1) (hf : 16 ≤ s.1.length + s.2.length) : hrL i s d = s.1 := if_pos ⟨h, hf⟩
theorem hr_room {i d : Int} {s : VSt} (h : d ∈ nmL s.1 ∨ ¬ 16 ≤ s.1.length + s.2.length) : hrL i s d = hdL i s.1 d := if_neg fun e => by
  rcases h with h | h
  · exact e.1 h
  · exact h e.2
/-- Who greets is lost no more, then heard: as the document has it. -/
theorem hr_known {i d : Int} {s : VSt} (h : okS i s) (hd : plB d = true) : (hrL i (s.1, woL s.2 d) d, woL s.2 d) = knS i s d := by
  obtain ⟨h1, h2, h3, h4⟩ := vwB_iff.1 h
  have hup := (paB_iff.1 h2).2.2
  rw [(wo_ok h2 hd).1]
  by_cases hq : d ∈ s.2
  · have := neI_one hup hq
    rw [hr_room (.inr (by dsimp only; omega))]
    unfold knS
    rw [if_neg (fun e => e.1 (.inl hq)), (wo_ok h2 hd).1]
  · rw [ne_none hq]
    by_cases hf : ¬ d ∈ nmL s.1 ∧ 16 ≤ szS s
    · rw [hr_full (s := (s.1, s.2)) hf.1 hf.2, kn_full (fun e => by rcases e with e | e; exact hq e; exact hf.1 e) hf.2]
    · have hk : ¬ (¬ Kn s d ∧ 16 ≤ szS s) := fun e => hf ⟨fun x => e.1 (.inr x), e.2⟩
      unfold knS
      rw [if_neg hk, (wo_ok h2 hd).1, ne_none hq]
      show (if ¬ d ∈ nmL s.1 ∧ 16 ≤ szS s then s.1 else hdL i s.1 d, s.2) = _
      rw [if_neg hf]
/-- One who is told of, and not known. -/
theorem hr_step {i d : Int} {s : VSt} (h : okS i s) (hd : plB d = true) (hn : ¬ (d = i ∨ Kn s d)) : (hrL i s d, s.2) = hsS i s d := by
  rw [hs_take hn]
  have h1 := hr_known h hd
  have hq : ¬ d ∈ s.2 := fun e => hn (.inr (.inl e))
  rw [(wo_ok (vwB_iff.1 h).2.1 hd).1, ne_none hq] at h1
  exact h1

/-- What is known behind the first k of those who are told. -/
theorem he_states {i d : Int} {s : VSt} {ids : List Int} (h : heB i s d ids = true) : ∃ st : Nat → VSt, st 0 = knS i s d ∧ (∀ k, okS i (st k)) ∧ (∀ k, k < ids.length → st (k + 1) = hsS i (st k) (ids.getD k 0)) ∧ st ids.length = heS i s d ids := by
  obtain ⟨h1, h2, h3, h4, -⟩ := heB_iff.1 h
  refine ⟨fun k => foS i (knS i s d) (ids.take k), rfl, fun k => (fo_all (kn_ok h1 h2 h3) (plsB_mk fun x hx => plsB_mem h4 x (List.mem_of_mem_take hx))).1, fun k hk => fo_step _ _ _ _ hk, ?_⟩
  show foS i (knS i s d) (ids.take ids.length) = _
  rw [List.take_length]
  rfl

end Go.Proofs.Ytagojonjohimfaa
