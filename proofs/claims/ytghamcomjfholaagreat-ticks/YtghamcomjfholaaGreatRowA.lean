
/-
  Greetings as plain lists: whom a node knows behind one, and what is so of it.
-/
import Derived.Test.YtghamcomjfholaaGreatRowRef
import Derived.Test.YtghamcomjfholaaGreatPeerMath
import Derived.Test.YtghamcomjfholaaGreatItemRow
import Derived.Test.YtghamcomjfholaaGreatRingRef
import Derived.Test.YtghamcomjfholaaGreatMsgRow
import Derived.Test.YtghamcomjfholaaGreatIntRow
import Derived.Test.YtghamcomjfholaaGreatRowMath
namespace Go.Proofs.YtghamcomjfholaaGreat

/-! ### Peers that rise: no name twice, and no other list has the same ones -/
theorem nmL_mem {ps : List Pe} {x : Int} : x ∈ nmL ps ↔ ∃ p ∈ ps, p.n = x := by simp [nmL]
theorem rise_name {b : Int} {ps : List Pe} (h : Rise b ps) {p q : Pe} (hp : p ∈ ps) (hq : q ∈ ps) (e : p.n = q.n) : p = q := by
  obtain ⟨i, hi, rfl⟩ := List.mem_iff_getElem.1 hp
  obtain ⟨j, hj, rfl⟩ := List.mem_iff_getElem.1 hq
  rcases Nat.lt_trichotomy i j with hl | hl | hl
  · have := List.pairwise_iff_getElem.1 h i j hi hj hl
    rw [e] at this
    omega
  · subst hl
    rfl
  · have := List.pairwise_iff_getElem.1 h j i hj hi hl
    rw [e] at this
    omega
/-! ### Whom a node knows -/
abbrev VSt := List Pe × List Int
def okS (i : Int) (s : VSt) : Prop := vwB i s.1 s.2 = true
def Kn (s : VSt) (x : Int) : Prop := x ∈ s.2 ∨ x ∈ nmL s.1
instance (s : VSt) (x : Int) : Decidable (Kn s x) := by unfold Kn; infer_instance
def szS (s : VSt) : Nat := s.1.length + s.2.length
theorem ok_apart {i : Int} {s : VSt} (h : okS i s) {x : Int} (hx : x ∈ s.2) : ¬ x = i ∧ ¬ x ∈ nmL s.1 := by
  have := (vwB_iff.1 h).2.2.2 x hx
  simp only [idL, List.mem_cons, not_or] at this
  exact this
/-! ### Who is known, one by one -/
section kn
variable {i d : Int} {s : VSt} (h : okS i s) (hd : plB d = true) (hn : ¬ d = i)
include h hd hn
end kn

/-! ### One of those who are told -/
section hs
variable {i d : Int} {s : VSt} (h : okS i s) (hd : plB d = true)
include h hd
end hs

/-! ### All who are told -/
/-! ### A greeting -/
section he
variable {i d : Int} {s : VSt} {ids : List Int} (h : okS i s) (hd : plB d = true) (hn : ¬ d = i) (hp : plsB ids = true)
include h hd hn hp
end he

/-! ### What is answered -/
/-! ### Greeted by each of some -/
/-! ### A full house -/
end Go.Proofs.YtghamcomjfholaaGreat

namespace Go.Proofs.YtghamcomjfholaaGreat

/-! ### Those who are lost go among the passive ones, one by one -/
def tkF (is lost : List Int) : List Int := lost.foldl wiL is
theorem tkF_step (is lost : List Int) (k : Nat) (hk : k < lost.length) : tkF is (lost.take (k + 1)) = wiL (tkF is (lost.take k)) (lost.getD k 0) := by
  unfold tkF
  rw [take_step hk, List.foldl_append, getD_in _ _ hk]
  rfl
/-- All of them places, none of them there, none of them twice, and room for all. -/
theorem tkF_all : ∀ {lost is : List Int}, paB is = true → plsB lost = true → lost.Nodup → (∀ x ∈ lost, ¬ x ∈ is) → is.length + lost.length ≤ 16 →
    paB (tkF is lost) = true ∧ (∀ x, x ∈ tkF is lost ↔ x ∈ is ∨ x ∈ lost) ∧ (tkF is lost).length = is.length + lost.length
  | [], is, h, _, _, _, _ => ⟨h, fun x => by simp [tkF], rfl⟩
  | d :: lost, is, h, hp, hn, hx, hl => by
    rw [List.nodup_cons] at hn
    rw [List.length_cons] at hl
    have hd : plB d = true := plsB_mem hp d (by simp)
    have hin : ¬ d ∈ is := hx d (by simp)
    have hup := (paB_iff.1 h).2.2
    have hlong := wi_long hup hin
    obtain ⟨e1, -⟩ := wi_ok h hd (by omega)
    have hpa := wi_pa h hd (by omega)
    obtain ⟨f1, f2, f3⟩ := tkF_all (lost := lost) hpa (plsB_mk fun x hx => plsB_mem hp x (by simp [hx])) hn.2 (fun x hx' hw => by
      rcases wi_mem.1 hw with e | e
      · exact hn.1 (e ▸ hx')
      · exact hx x (by simp [hx']) e) (by omega)
    have e : tkF is (d :: lost) = tkF (wiI is d) lost := by
      show tkF (wiL is d) lost = _
      rw [e1]
    rw [e]
    refine ⟨f1, fun x => ?_, by rw [f3, hlong, List.length_cons]; omega⟩
    rw [f2 x, wi_mem, List.mem_cons]
    constructor
    · rintro ((h | h) | h)
      · exact .inr (.inl h)
      · exact .inl h
      · exact .inr (.inr h)
    · rintro (h | h | h)
      · exact .inl (.inr h)
      · exact .inl (.inl h)
      · exact .inr h

/-! ### Peers: each is left or lost -/
theorem agD_mem {ps : List Pe} {x : Int} : x ∈ agD ps ↔ ∃ p ∈ ps, agP p = true ∧ p.n = x := by
  simp only [agD, List.mem_map, List.mem_filter]
  constructor
  · rintro ⟨p, ⟨h1, h2⟩, e⟩
    exact ⟨p, h1, h2, e⟩
  · rintro ⟨p, h1, h2, e⟩
    exact ⟨p, ⟨h1, h2⟩, e⟩
theorem agA_nm {ps : List Pe} {x : Int} : x ∈ nmL (agA ps) ↔ ∃ p ∈ ps, agP p = false ∧ p.n = x := by
  rw [nmL_mem]
  simp only [agA, List.mem_map, List.mem_filter]
  constructor
  · rintro ⟨p, ⟨q, ⟨h1, h2⟩, rfl⟩, e⟩
    exact ⟨q, h1, by simpa using h2, e⟩
  · rintro ⟨p, h1, h2, e⟩
    exact ⟨⟨p.n, p.m + 1⟩, ⟨p, ⟨h1, by simpa using h2⟩, rfl⟩, e⟩
theorem ag_part {ps : List Pe} {x : Int} : x ∈ nmL ps ↔ x ∈ nmL (agA ps) ∨ x ∈ agD ps := by
  rw [agA_nm, agD_mem, nmL_mem]
  constructor
  · rintro ⟨p, h1, e⟩
    cases h : agP p with
    | true => exact .inr ⟨p, h1, h, e⟩
    | false => exact .inl ⟨p, h1, h, e⟩
  · rintro (⟨p, h1, -, e⟩ | ⟨p, h1, -, e⟩)
    · exact ⟨p, h1, e⟩
    · exact ⟨p, h1, e⟩
theorem ag_len : ∀ (ps : List Pe), (agA ps).length + (agD ps).length = ps.length
  | [] => rfl
  | p :: ps => by
    have ih := ag_len ps
    unfold agA agD at *
    rw [List.length_map, List.length_map] at *
    cases h : agP p with
    | true =>
      rw [List.filter_cons_of_neg (by simp [h]), List.filter_cons_of_pos h]
      simp only [List.length_cons]
      omega
    | false =>
      rw [List.filter_cons_of_pos (by simp [h]), List.filter_cons_of_neg (by simp [h])]
      simp only [List.length_cons]
      omega
theorem agD_nodup {b : Int} {ps : List Pe} (h : Rise b ps) : (agD ps).Nodup := by
  unfold agD List.Nodup
  rw [List.pairwise_map]
  exact (h.filter _).imp fun hlt e => by rw [e] at hlt; omega

/-! ### A tick -/
def tkS (s : VSt) : VSt := (agA s.1, tkF s.2 (agD s.1))
def tkG (s : VSt) : List Int := nmL (tkS s).1 ++ (tkS s).2
section tk
variable {i : Int} {s : VSt} (h : okS i s)
include h
theorem tk_F : paB (tkF s.2 (agD s.1)) = true ∧ (∀ x, x ∈ tkF s.2 (agD s.1) ↔ x ∈ s.2 ∨ x ∈ agD s.1) ∧ (tkF s.2 (agD s.1)).length = s.2.length + (agD s.1).length := by
  obtain ⟨h1, h2, h3, h4⟩ := vwB_iff.1 h
  have hl := ag_len s.1
  refine tkF_all h2 (plsB_mk fun x hx => ?_) (agD_nodup (vw_rise h)) (fun x hx hin => (ok_apart h hin).2 (ag_part.2 (.inr hx))) (by omega)
  obtain ⟨p, hp, -, rfl⟩ := agD_mem.1 hx
  exact (vw_pe h p hp).1
theorem tk_size : szS (tkS s) = szS s := by
  have h1 := (tk_F h).2.2
  have h2 := ag_len s.1
  show (agA s.1).length + (tkF s.2 (agD s.1)).length = s.1.length + s.2.length
  omega
theorem tk_ok : okS i (tkS s) := by
  obtain ⟨h1, h2, h3, h4⟩ := vwB_iff.1 h
  obtain ⟨f1, f2, -⟩ := tk_F h
  have hz := tk_size h
  refine vwB_iff.2 ⟨agA_psB h1, f1, by show szS (tkS s) ≤ 16; rw [hz]; exact h3, fun y hy => ?_⟩
  intro hin
  rcases idL_mem.1 hin with e | ⟨p, hp, e⟩
  · rcases (f2 y).1 hy with h5 | h5
    · exact (ok_apart h h5).1 e
    · obtain ⟨p, hp, -, e'⟩ := agD_mem.1 h5
      exact (peB_iff.1 ((psB_iff.1 h1).2.1 p hp)).2.1 (e'.trans e)
  · have hnm : y ∈ nmL (agA s.1) := nmL_mem.2 ⟨p, hp, e⟩
    rcases (f2 y).1 hy with h5 | h5
    · exact (ok_apart h h5).2 (ag_part.2 (.inl hnm))
    · obtain ⟨p1, hp1, a1, e1⟩ := agA_nm.1 hnm
      obtain ⟨p2, hp2, a2, e2⟩ := agD_mem.1 h5
      have := rise_name (vw_rise h) hp1 hp2 (e1.trans e2.symm)
      rw [this, a2] at a1
      cases a1
theorem tkG_len : (tkG s).length = s.1.length + s.2.length := by
  have := tk_size h
  unfold tkG
  rw [List.length_append, show (nmL (tkS s).1).length = (tkS s).1.length by simp [nmL]]
  exact this
end tk

/-! ### Nobody is heard: who is left has missed as many -/
/-! ### What is answered -/
def tkI (i : Int) (s : VSt) : Int := if vwB i s.1 s.2 = true then i else 0
def tkV (i : Int) (s : VSt) : VSt := if vwB i s.1 s.2 = true then tkS s else ([], [])
def tkL (i : Int) (s : VSt) : List Int := if vwB i s.1 s.2 = true then tkG s else []
def tkE (i : Int) (s : VSt) : Int := if vwB i s.1 s.2 = true then 0 else 1100
theorem tk_yes {i : Int} {s : VSt} (h : vwB i s.1 s.2 = true) : tkI i s = i ∧ tkV i s = tkS s ∧ tkL i s = tkG s ∧ tkE i s = 0 := by simp [tkI, tkV, tkL, tkE, h]
theorem tk_no {i : Int} {s : VSt} (h : vwB i s.1 s.2 = false) : tkI i s = 0 ∧ tkV i s = ([], []) ∧ tkL i s = [] ∧ tkE i s = 1100 := by simp [tkI, tkV, tkL, tkE, h]

/-! ### Who is heard in between (by hand): 50 is heard, 3 is not -/
end Go.Proofs.YtghamcomjfholaaGreat

namespace Go.Proofs.YtghamcomjfholaaGreat
open Go.ChangeShapes Go.WideShapes Go.ChangeAt Go.RowKit

/-- As VwNew, and neither list lies in block b. -/
structure VwBut (base b : Nat) (w : World) (p q : Value) (ps : List Pe) (is : List Int) : Prop where
  out : ∃ lo1 hi1 lo2 hi2, RowP lo1 hi1 w p ps ∧ RowI lo2 hi2 w q is ∧ base ≤ lo1 ∧ hi1 ≤ w.heap.size ∧ base ≤ lo2 ∧ hi2 ≤ w.heap.size ∧ (hi1 ≤ lo2 ∨ hi2 ≤ lo1) ∧ (hi1 ≤ b ∨ b < lo1) ∧ (hi2 ≤ b ∨ b < lo2)
section but
variable {base b : Nat} {w w' : World} {p q : Value} {ps : List Pe} {is : List Int}
theorem VwNew.but (h : VwNew base w p q ps is) (hb : w.heap.size ≤ b) : VwBut base b w p q ps is := by
  obtain ⟨lo1, hi1, lo2, hi2, P, Q, h1, h2, h3, h4, h5⟩ := h.out
  exact ⟨lo1, hi1, lo2, hi2, P, Q, h1, h2, h3, h4, h5, .inl (by omega), .inl (by omega)⟩
theorem VwBut.new (h : VwBut base b w p q ps is) : VwNew base w p q ps is := by
  obtain ⟨lo1, hi1, lo2, hi2, P, Q, h1, h2, h3, h4, h5, -, -⟩ := h.out
  exact ⟨lo1, hi1, lo2, hi2, P, Q, h1, h2, h3, h4, h5⟩
theorem VwBut.at (h : VwBut base b w p q ps is) : VwAt base w.heap.size w p q ps is := h.new.at
theorem VwBut.below (h : VwBut base b w p q ps is) (hb : Below w.heap.size w w') : VwBut base b w' p q ps is := by
  obtain ⟨lo1, hi1, lo2, hi2, P, Q, h1, h2, h3, h4, h5⟩ := h.out
  exact ⟨lo1, hi1, lo2, hi2, P.below hb h2, Q.below hb h4, h1, Nat.le_trans h2 hb.size, h3, Nat.le_trans h4 hb.size, h5⟩
theorem VwBut.alloc (h : VwBut base b w p q ps is) (o : Obj) : VwBut base b (w.alloc o) p q ps is := h.below ((Below.refl _ w).onA o)
/-- The variable's own block is written. -/
theorem VwBut.set (h : VwBut base b w p q ps is) (hS : Only b (b + 1) w w') : VwBut base b w' p q ps is := by
  obtain ⟨lo1, hi1, lo2, hi2, P, Q, h1, h2, h3, h4, h5, h6, h7⟩ := h.out
  refine ⟨lo1, hi1, lo2, hi2, P.only hS (by omega), Q.only hS (by omega), h1, by rw [hS.size]; exact h2, h3, by rw [hS.size]; exact h4, h5, h6, h7⟩
/-- A block below all is written. -/
theorem VwNew.only {lo hi : Nat} (h : VwNew base w p q ps is) (hS : Only lo hi w w') (hl : hi ≤ base) : VwNew base w' p q ps is := by
  obtain ⟨lo1, hi1, lo2, hi2, P, Q, h1, h2, h3, h4, h5⟩ := h.out
  refine ⟨lo1, hi1, lo2, hi2, P.only hS (.inr (by omega)), Q.only hS (.inr (by omega)), h1, by rw [hS.size]; exact h2, h3, by rw [hS.size]; exact h4, h5⟩
/-- A block above all is written. -/
theorem VwBut.over {lo hi : Nat} (h : VwBut base b w p q ps is) {w1 : World} (hb : Below w.heap.size w w1) (hS : Only lo hi w1 w') (hl : w.heap.size ≤ lo) : VwBut base b w' p q ps is := by
  obtain ⟨lo1, hi1, lo2, hi2, P, Q, h1, h2, h3, h4, h5⟩ := (h.below hb).out
  obtain ⟨mo1, ni1, mo2, ni2, P', Q', k1, k2, k3, k4, k5⟩ := h.out
  have := hS.size
  have := hb.size
  exact ⟨mo1, ni1, mo2, ni2, (P'.below hb k2).only hS (.inl (by omega)), (Q'.below hb k4).only hS (.inl (by omega)), k1, by omega, k3, by omega, k5⟩
theorem VwBut.shape (h : VwBut base b w p q ps is) :
    ∃ a c a' c', p = .slice a ps.length c ∧ q = .slice a' is.length c' ∧ ps.length ≤ 9223372036854775807 ∧ is.length ≤ 9223372036854775807 := h.at.shape
theorem VwBut.drewN (h : VwBut base b w p q ps is) (n : Nat) : VwBut base b (w.drewN n) p q ps is := h.below ((Below.refl _ w).onD n)
end but

/-! ### Package hello's way: the peers behind one that is heard, if there is room -/
end Go.Proofs.YtghamcomjfholaaGreat

namespace Go.Proofs.YtghamcomjfholaaGreat
open Go.ChangeShapes Go.WideShapes Go.ChangeAt Go.RowKit

structure VgNew (base : Nat) (w : World) (p q r : Value) (ps : List Pe) (is gs : List Int) : Prop where
  out : ∃ lo1 hi1 lo2 hi2 lo3 hi3, RowP lo1 hi1 w p ps ∧ RowI lo2 hi2 w q is ∧ RowI lo3 hi3 w r gs ∧ (base ≤ lo1 ∧ hi1 ≤ w.heap.size) ∧ (base ≤ lo2 ∧ hi2 ≤ w.heap.size) ∧ (base ≤ lo3 ∧ hi3 ≤ w.heap.size) ∧ (hi1 ≤ lo2 ∨ hi2 ≤ lo1) ∧ (hi1 ≤ lo3 ∨ hi3 ≤ lo1) ∧ (hi2 ≤ lo3 ∨ hi3 ≤ lo2)
section vg
variable {base : Nat} {w w' : World} {p q r : Value} {ps : List Pe} {is gs : List Int}
theorem VgNew.vw (h : VgNew base w p q r ps is gs) : VwNew base w p q ps is := by
  obtain ⟨lo1, hi1, lo2, hi2, lo3, hi3, P, Q, -, ⟨h1, h2⟩, ⟨h3, h4⟩, -, h5, -, -⟩ := h.out
  exact ⟨lo1, hi1, lo2, hi2, P, Q, h1, h2, h3, h4, h5⟩
theorem VgNew.row (h : VgNew base w p q r ps is gs) : RowI base w.heap.size w r gs := by
  obtain ⟨lo1, hi1, lo2, hi2, lo3, hi3, -, -, R, -, -, ⟨h1, h2⟩, -⟩ := h.out
  exact R.wide h1 h2
theorem VgNew.nil (base : Nat) (w : World) : VgNew base w (.slice none 0 0) (.slice none 0 0) (.slice none 0 0) [] [] [] :=
  ⟨base, 0, base, 0, base, 0, RowC.nil0, RowI.nil0, RowI.nil0, ⟨Nat.le_refl _, Nat.zero_le _⟩, ⟨Nat.le_refl _, Nat.zero_le _⟩, ⟨Nat.le_refl _, Nat.zero_le _⟩, .inl (Nat.zero_le _), .inl (Nat.zero_le _), .inl (Nat.zero_le _)⟩
theorem VgNew.below (h : VgNew base w p q r ps is gs) (hb : Below w.heap.size w w') : VgNew base w' p q r ps is gs := by
  obtain ⟨lo1, hi1, lo2, hi2, lo3, hi3, P, Q, R, ⟨h1, h2⟩, ⟨h3, h4⟩, ⟨h5, h6⟩, h7⟩ := h.out
  have := hb.size
  exact ⟨lo1, hi1, lo2, hi2, lo3, hi3, P.below hb h2, Q.below hb h4, R.below hb h6, ⟨h1, by omega⟩, ⟨h3, by omega⟩, ⟨h5, by omega⟩, h7⟩
theorem VgNew.down {base' : Nat} (h : VgNew base w p q r ps is gs) (hb : base' ≤ base) : VgNew base' w p q r ps is gs := by
  obtain ⟨lo1, hi1, lo2, hi2, lo3, hi3, P, Q, R, ⟨h1, h2⟩, ⟨h3, h4⟩, ⟨h5, h6⟩, h7⟩ := h.out
  exact ⟨lo1, hi1, lo2, hi2, lo3, hi3, P, Q, R, ⟨by omega, h2⟩, ⟨by omega, h4⟩, ⟨by omega, h6⟩, h7⟩
/-- The list was made last. -/
theorem VgNew.of (h : VwNew base w p q ps is) (hw : base ≤ w.heap.size) (hb : Below w.heap.size w w') (R : RowI w.heap.size w'.heap.size w' r gs) : VgNew base w' p q r ps is gs := by
  obtain ⟨lo1, hi1, lo2, hi2, P, Q, h1, h2, h3, h4, h5⟩ := h.out
  have := hb.size
  exact ⟨lo1, hi1, lo2, hi2, _, _, P.below hb h2, Q.below hb h4, R, ⟨h1, by omega⟩, ⟨h3, by omega⟩, ⟨hw, Nat.le_refl _⟩, h5, .inl h2, .inl h4⟩
/-- A block below all is written. -/
theorem VgNew.only {lo hi : Nat} (h : VgNew base w p q r ps is gs) (hS : Only lo hi w w') (hl : hi ≤ base) : VgNew base w' p q r ps is gs := by
  obtain ⟨lo1, hi1, lo2, hi2, lo3, hi3, P, Q, R, ⟨h1, h2⟩, ⟨h3, h4⟩, ⟨h5, h6⟩, h7⟩ := h.out
  have := hS.size
  exact ⟨lo1, hi1, lo2, hi2, lo3, hi3, P.only hS (.inr (by omega)), Q.only hS (.inr (by omega)), R.only hS (.inr (by omega)), ⟨h1, by omega⟩, ⟨h3, by omega⟩, ⟨h5, by omega⟩, h7⟩
end vg

end Go.Proofs.YtghamcomjfholaaGreat

namespace Go.Proofs.YtghamcomjfholaaGreat
open Go.ChangeShapes Go.WideShapes Go.ChangeAt Go.RowKit

theorem isNoPlace_any (x : Int) (w : World) :
    Calls Tryz.prog 109 #[.int .i64 x] w fun e w' => e = .returned (.bool (!plB x)) ∧ w' = w := by
  by_cases h : plB x = true
  · rw [h]
    go_enter Tryz.func109, Tryz.ntmps109
    go_wp2_with (go_at_call 95; refine (distance_yes _ _ _ h h).mono ?_; rintro e w' ⟨rfl, rfl⟩)
    go_ret
    exact ⟨rfl, rfl⟩
  · have h : plB x = false := by simpa using h
    rw [h]
    go_enter Tryz.func109, Tryz.ntmps109
    go_wp2_with (go_at_call 95; refine (distance_no _ _ _ (.inl h)).mono ?_; rintro e w' ⟨rfl, rfl⟩)
    go_ret
    exact ⟨rfl, rfl⟩

/-- The closure: two places by their distance from the base, which lies in its own cell. -/
theorem byDistance1_any (b x y : Int) (B : Nat) (w : World) (hb : plB b = true) (hx : plB x = true) (hy : plB y = true) (hc : w.cell? ⟨B, 0, none⟩ = some (.int .i64 b)) :
    Calls Tryz.prog 110 #[.int .i64 x, .int .i64 y, .pointer (some ⟨B, 0, none⟩)] w fun e w' => e = .returned (.int .i64 (cmpI (far b x) (far b y))) ∧ w' = w := by
  go_enter Tryz.func110, Tryz.ntmps110
  go_wp2_with (first | (go_at_call 95; refine (distance_yes _ _ _ (by assumption) (by assumption)).mono ?_; rintro e w' ⟨rfl, hw'⟩; subst w') | (go_at_call 111; refine (compare_any _ _ _).mono ?_; rintro e w' ⟨rfl, hw'⟩; subst w'))
  go_ret
  exact ⟨rfl, rfl⟩

theorem byDistance_any (b : Int) (w : World) :
    Calls Tryz.prog 102 #[.int .i64 b] w fun e w' => e = .returned (.func (.func 110) #[] #[.pointer (some ⟨w.heap.size, 0, none⟩)]) ∧ w' = w.alloc (.cells #[.int .i64 b] 3) := by
  go_enter Tryz.func102, Tryz.ntmps102
  go_wp2
  go_ret
  exact ⟨rfl, rfl⟩

end Go.Proofs.YtghamcomjfholaaGreat
