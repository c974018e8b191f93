
/-
  Views in memory, and contracts of the statements' own helpers on them (copying, comparing).
-/
import Derived.Test.YtgcdbkhicpfklaaIntRow
import Derived.Test.YtgcdbkhicpfklaaPeerRow
import Derived.Test.YtgcdbkhicpfklaaLit
namespace Go.Proofs.Ytgcdbkhicpfklaa
open Go.ChangeShapes Go.WideShapes Go.ChangeAt Go.RowKit

/-- The two lists of a view. -/
structure VwAt (lo hi : Nat) (w : World) (p q : Value) (ps : List Pe) (is : List Int) : Prop where
  ps : RowP lo hi w p ps
  is : RowI lo hi w q is
theorem VwAt.below {lo hi B : Nat} {w w' : World} {p q : Value} {ps : List Pe} {is : List Int} (h : VwAt lo hi w p q ps is) (hb : Below B w w') (hB : hi ≤ B) : VwAt lo hi w' p q ps is := ⟨h.ps.below hb hB, h.is.below hb hB⟩
theorem VwAt.wide {lo hi lo' hi' : Nat} {w : World} {p q : Value} {ps : List Pe} {is : List Int} (h : VwAt lo hi w p q ps is) (h1 : lo' ≤ lo) (h2 : hi ≤ hi') : VwAt lo' hi' w p q ps is := ⟨h.ps.wide h1 h2, h.is.wide h1 h2⟩
theorem VwAt.alloc {lo hi : Nat} {w : World} {p q : Value} {ps : List Pe} {is : List Int} (h : VwAt lo hi w p q ps is) (o : Obj) : VwAt lo hi (w.alloc o) p q ps is := ⟨h.ps.alloc o PeV_len, h.is.alloc o⟩
theorem VwAt.drewN {lo hi : Nat} {w : World} {p q : Value} {ps : List Pe} {is : List Int} (h : VwAt lo hi w p q ps is) (n : Nat) : VwAt lo hi (w.drewN n) p q ps is := ⟨h.ps.drewN n, h.is.drewN n⟩
/-- The two lists of a view that was made: in new memory, each in blocks of its own. -/
structure VwNew (base : Nat) (w : World) (p q : Value) (ps : List Pe) (is : List Int) : Prop where
  out : ∃ lo1 hi1 lo2 hi2, RowP lo1 hi1 w p ps ∧ RowI lo2 hi2 w q is ∧ base ≤ lo1 ∧ hi1 ≤ w.heap.size ∧ base ≤ lo2 ∧ hi2 ≤ w.heap.size ∧ (hi1 ≤ lo2 ∨ hi2 ≤ lo1)
theorem VwNew.at {base : Nat} {w : World} {p q : Value} {ps : List Pe} {is : List Int} (h : VwNew base w p q ps is) : VwAt base w.heap.size w p q ps is := by
  obtain ⟨lo1, hi1, lo2, hi2, P, Q, h1, h2, h3, h4, -⟩ := h.out
  exact ⟨P.wide h1 h2, Q.wide h3 h4⟩
theorem VwNew.nil (base : Nat) (w : World) : VwNew base w (.slice none 0 0) (.slice none 0 0) [] [] :=
  ⟨base, 0, base, 0, RowC.nil0, RowI.nil0, Nat.le_refl _, Nat.zero_le _, Nat.le_refl _, Nat.zero_le _, .inl (Nat.zero_le _)⟩
theorem VwNew.below {base : Nat} {w w' : World} {p q : Value} {ps : List Pe} {is : List Int} (h : VwNew base w p q ps is) (hb : Below w.heap.size w w') : VwNew base w' p q ps is := by
  obtain ⟨lo1, hi1, lo2, hi2, P, Q, h1, h2, h3, h4, h5⟩ := h.out
  exact ⟨lo1, hi1, lo2, hi2, P.below hb h2, Q.below hb h4, h1, Nat.le_trans h2 hb.size, h3, Nat.le_trans h4 hb.size, h5⟩
theorem VwAt.shape {lo hi : Nat} {w : World} {p q : Value} {ps : List Pe} {is : List Int} (h : VwAt lo hi w p q ps is) :
    ∃ a c a' c', p = .slice a ps.length c ∧ q = .slice a' is.length c' ∧ ps.length ≤ 9223372036854775807 ∧ is.length ≤ 9223372036854775807 := by
  obtain ⟨a, c, rfl, hl, hc, -⟩ := h.ps
  obtain ⟨a', c', rfl, hl', hc', -⟩ := h.is
  unfold maxLen at hc hc'
  exact ⟨a, c, a', c', rfl, rfl, by omega, by omega⟩

set_option maxHeartbeats 1000000 in
theorem copyView_new {lo hi : Nat} {w : World} {p q : Value} {ps : List Pe} {is : List Int} (i : Int) (h : VwAt lo hi w p q ps is) (hh : hi ≤ w.heap.size) (h1 : ps.length * 16 ≤ 140737488355328) (h2 : is.length * 8 ≤ 140737488355328) :
    Calls Try.prog 21 #[.agg #[.int .i64 i, p, q]] w fun e w' => ∃ p' q', e = .returned (.agg #[.int .i64 i, p', q']) ∧ VwNew w.heap.size w' p' q' ps is ∧ Below w.heap.size w w' := by
  have R1 := toHid (fun o1 o2 o3 : Obj => (((h.ps.alloc o1 PeV_len).alloc o2 PeV_len).alloc o3 PeV_len))
  have R2 := toHid h.is
  have B1 := toHid (fun (o1 o2 : Obj) (cs : Array Value) (t : TypeId) => ((Box.new w cs t).alloc o1).alloc o2)
  have C1 := toHid (fun (o1 o2 : Obj) (cs : Array Value) (t : TypeId) => (Box.new1 w o1 cs t).alloc o2)
  clear h
  go_enter Try.func21, Try.ntmps21
  go_wp2_with (at_builtin; refine app_rowP rfl (.tmp 3) (.tmp 5) rfl (w.heap.size + 1 + 1) (.slice (some ⟨w.heap.size + 1 + 1, 0, none⟩) 0 0) 0 [] rfl (lit_at (Nat.le_refl _) (by simp)) lo hi _ ps rfl (R1.out _ _ _) (by omega) (by simp) ?_)
  intro v1 w1 hown1 hgr1 hb1
  have P1 : RowP (w.heap.size + 1 + 1) w1.heap.size w1 v1 ps := RowC.of_owns (by omega) PeV_len (by simpa using hown1)
  have B2 := (B1.out _ _ _ _).belowAt hb1 (by omega)
  have C2 := (C1.out _ _ _ _).belowAt hb1 (by omega)
  have hk : Below w.heap.size w w1 := ((((Below.refl _ w).onA _).onA _).onA _).trans (hb1.mono (by omega))
  have hz := hb1.size
  simp only [World.size_alloc] at hz
  clear hown1 hgr1 B1 C1 R1 hb1
  obtain ⟨a1, c1, e1, -⟩ := P1.out
  subst e1
  have hne : w.heap.size ≠ w1.heap.size := by omega
  have N2 := toHid (Only.refl w.heap.size (w.heap.size + 1) w1 |>.setCell (Nat.le_refl _) (Nat.lt_succ_self _) (.slice a1 ps.length c1) (o := 1))
  have K2 := toHid (hk.setCell (p := ⟨w.heap.size, 1, none⟩) (Nat.le_refl w.heap.size) (.slice a1 ps.length c1))
  have Q2 := toHid ((R2.out.below K2.out hh).alloc (.cells #[] 3))
  have P2 := toHid ((P1.only N2.out (.inr (by omega))).alloc (.cells #[] 3) PeV_len)
  have B3 := toHid ((B2.setS (ys := #[.int .i64 i, .slice a1 ps.length c1, q]) 1 (.slice a1 ps.length c1) (by simp) (by simp)).alloc (.cells #[] 3))
  have C3 := toHid ((C2.setO w.heap.size 1 (.slice a1 ps.length c1) (by omega)).alloc (.cells #[] 3))
  clear P1 hk N2 R2
  obtain ⟨b1, b2, b3⟩ := B2
  clear C2
  go_wp2_with (at_builtin; refine app_row rfl (.tmp 8) (.tmp 10) rfl w1.heap.size (.slice (some ⟨w1.heap.size, 0, none⟩) 0 0) 0 [] rfl (lit_at (Nat.le_refl _) (by simp)) lo hi _ is rfl Q2.out (by omega) (by simp) ?_)
  intro v2 w2 hown2 hgr2 hb2
  have Q3 : RowI w1.heap.size w2.heap.size w2 v2 is := RowI.of_owns (by simpa using hown2)
  obtain ⟨a2, c2, e2, -⟩ := Q3.out
  subst e2
  have P3 := P2.out.below hb2 (Nat.le_refl _)
  have B4 := B3.out.belowAt hb2 (by omega)
  have C4 := C3.out.belowAt hb2 (by omega)
  have hk : Below w.heap.size w w2 := (K2.out.onA _).trans (hb2.mono (by omega))
  have hz2 := hb2.size
  clear hown2 hgr2 hb2 K2 Q2 P2 B3 C3 b1 b2 b3 hne
  obtain ⟨b1, b2, b3⟩ := B4
  obtain ⟨d1, d2, d3⟩ := C4
  go_wp2
  have hS := ((((Only.refl w.heap.size (w.heap.size + 1 + 1) w2).setCell (o := 2) (Nat.le_refl _) (by omega) (.slice a2 is.length c2)).setCell (b := w.heap.size + 1) (o := 0) (by omega) (by omega) (.int .i64 i)).setCell (b := w.heap.size + 1) (o := 1) (by omega) (by omega) (.slice a1 ps.length c1)).setCell (b := w.heap.size + 1) (o := 2) (by omega) (by omega) (.slice a2 is.length c2)
  replace hS := toHid hS
  clear b1 b2 b3
  have e := hS.out.size
  refine bodyPost_ret (v := .agg #[.int .i64 i, .slice a1 ps.length c1, .slice a2 is.length c2]) (by simp [results, Try.results21, go_sem, d2]) rfl ?_
  have hz3 := hz2
  simp only [World.size_alloc, World.size_setCell] at hz3
  exact ⟨_, _, rfl, ⟨w.heap.size + 1 + 1, w1.heap.size, w1.heap.size, w2.heap.size, P3.only hS.out (.inr (by omega)), Q3.only hS.out (.inr (by omega)), by omega, by omega, by omega, by omega, .inl (Nat.le_refl _)⟩, hk.trans hS.out.below⟩
theorem copyView_any {lo hi : Nat} {w : World} {p q : Value} {ps : List Pe} {is : List Int} (i : Int) (h : VwAt lo hi w p q ps is) (hh : hi ≤ w.heap.size) (h1 : ps.length * 16 ≤ 140737488355328) (h2 : is.length * 8 ≤ 140737488355328) :
    Calls Try.prog 21 #[.agg #[.int .i64 i, p, q]] w fun e w' => ∃ p' q', e = .returned (.agg #[.int .i64 i, p', q']) ∧ VwAt w.heap.size w'.heap.size w' p' q' ps is ∧ Below w.heap.size w w' :=
  (copyView_new i h hh h1 h2).mono fun _ _ ⟨p', q', he, hv, hb⟩ => ⟨p', q', he, hv.at, hb⟩

set_option maxHeartbeats 400000 in
theorem sameView_same {lo hi lo' hi' : Nat} {w : World} {p q p' q' : Value} {ps : List Pe} {is : List Int} (i : Int) (h : VwAt lo hi w p q ps is) (h' : VwAt lo' hi' w p' q' ps is) (hh : hi ≤ w.heap.size) (hh' : hi' ≤ w.heap.size) :
    Calls Try.prog 26 #[.agg #[.int .i64 i, p, q], .agg #[.int .i64 i, p', q']] w fun e w' => e = .returned (.bool true) ∧ Below w.heap.size w w' := by
  have S1 := fun (o1 o2 : Obj) => sameP_at ((h.ps.alloc o1 PeV_len).alloc o2 PeV_len) ((h'.ps.alloc o1 PeV_len).alloc o2 PeV_len) (b := true) (by simp)
  have S2 := fun (o1 o2 : Obj) (w1 : World) (hb : Below ((w.alloc o1).alloc o2).heap.size ((w.alloc o1).alloc o2) w1) =>
    sameI_at (((h.is.alloc o1).alloc o2).below hb (by simp; omega)) (((h'.is.alloc o1).alloc o2).below hb (by simp; omega)) (b := true) (by simp)
  obtain ⟨a, c, a', c', rfl, rfl, -, -⟩ := h.shape
  obtain ⟨b, d, b', d', rfl, rfl, -, -⟩ := h'.shape
  have B1 := toHid (fun (o : Obj) (cs : Array Value) (t : TypeId) => ((Box.new w cs t).alloc o))
  have C1 := toHid (fun (o : Obj) (cs : Array Value) (t : TypeId) => (Box.new1 w o cs t))
  clear h h' hh hh'
  replace S2 := toHid S2
  go_enter Try.func26, Try.ntmps26
  go_wp2_with (first
    | (go_at_call 45; refine (S1 _ _).mono ?_; rintro e w1 ⟨rfl, h1⟩
       obtain ⟨b1, b2, b3⟩ := (B1.out _ _ _).below h1
       obtain ⟨d1, d2, d3⟩ := (C1.out _ _ _).below h1)
    | (go_at_call 39; refine (S2.out _ _ _ h1).mono ?_; rintro e w2 ⟨rfl, h2⟩))
  go_ret
  exact ⟨rfl, (((((Below.refl _ w).onA _).onA _).on h1).on h2)⟩

end Go.Proofs.Ytgcdbkhicpfklaa
