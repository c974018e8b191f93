
/-
  The statement Writes: at any node, key and value, Put and Drop answer what the document says, leave the node that came in as it was, and what they answer may be written over without a trace in it or in each other.
-/
import Derived.Test.YtgakfbdaiogflaaRows
import Derived.Test.YtgakfbdaiogflaaOpen
import Derived.Test.YtgakfbdaiogflaaWriteLaw
import Derived.Test.YtgakfbdaiogflaaSpoilN
import Derived.Test.YtgakfbdaiogflaaNodeCopy
import Derived.Test.YtgakfbdaiogflaaOpenN
import Derived.Deep.DeepCutAuto
import Derived.Deep.CutRange
import Derived.Deep.CutBlock
namespace Go.Proofs.Ytgakfbdaiogflaa.writes
open Go.ChangeShapes Go.WideShapes Go.ChangeAt Go.RowKit
set_option linter.unusedVariables false

/-! ### The walk -/
set_option maxHeartbeats 8000000 in
theorem walk (v0 : Value) (x0 : NdO) (a1 : Int) (a2 : Int) (w : World) (r0 : v0 = .agg #[.bool x0.up, .int .i64 x0.v.i, x0.v.p, x0.v.q, x0.r, x0.s]) (h0 : NdAt 0 w.heap.size w x0.v.p x0.v.q x0.r x0.s x0.v.ps x0.v.is x0.ts x0.ls) (s0 : x0.v.ps.length * 16 ≤ 140737488351232) (t0 : x0.v.is.length * 8 ≤ 140737488351232) (u0 : x0.ts.length * 40 ≤ 140737488351232) (y0 : x0.ls.length * 24 ≤ 140737488351232) (w0 : (Lit.int .i64 x0.v.i).wf = true) (i0 : ∀ y ∈ x0.v.ps, PeW y) (j0 : ∀ y ∈ x0.v.is, (Lit.int .i64 y).wf = true) (m0 : ∀ y ∈ x0.ts, ItW y) (n0 : ∀ y ∈ x0.ls, TeW y) (w1 : (Lit.int .i64 a1).wf = true) (w2 : (Lit.int .i64 a2).wf = true) :
    Calls Try.prog 3 #[v0, .int .i64 a1, .int .i64 a2] w fun e w' => e = .returned (.bool true) ∧ Below w.heap.size w w' := by
  obtain ⟨up, ⟨ni, ps, is, p, q⟩, ts, ls, r, s⟩ := x0
  dsimp only at r0 h0 s0 t0 u0 y0
  subst r0
  clear w0 w1 w2 i0 j0 m0 n0
  obtain ⟨E1, hE1⟩ : ∃ x, wrE ⟨up, ni, ps, is, ts, ls⟩ a1 a2 false = x := ⟨_, rfl⟩
  obtain ⟨⟨u1, i1, p1, s1, t1, l1⟩, hN1⟩ : ∃ x, wrN ⟨up, ni, ps, is, ts, ls⟩ a1 a2 false = x := ⟨_, rfl⟩
  obtain ⟨E2, hE2⟩ : ∃ x, wrE ⟨up, ni, ps, is, ts, ls⟩ a1 0 true = x := ⟨_, rfl⟩
  obtain ⟨⟨u2, i2, p2, s2, t2, l2⟩, hN2⟩ : ∃ x, wrN ⟨up, ni, ps, is, ts, ls⟩ a1 0 true = x := ⟨_, rfl⟩
  have H2 := toHid (fun (W : World) (p q r s : Value) (lo hi : Nat) (N : NdAt lo hi W p q r s ps is ts ls) (hh : hi ≤ W.heap.size) => wPut17_at up ni N hh a1 a2 hE1 hN1)
  have H3 := toHid (fun (W : World) (p q r s : Value) (lo hi : Nat) (N : NdAt lo hi W p q r s ps is ts ls) (hh : hi ≤ W.heap.size) => rNPut_at up ni N hh s0 t0 u0 y0 a1 a2 hE1 hN1)
  have H4 := toHid (fun (W : World) (p q r s : Value) (lo hi : Nat) (N : NdAt lo hi W p q r s ps is ts ls) (hh : hi ≤ W.heap.size) => wDrop17_at up ni N hh a1 hE2 hN2)
  have H5 := toHid (fun (W : World) (p q r s : Value) (lo hi : Nat) (N : NdAt lo hi W p q r s ps is ts ls) (hh : hi ≤ W.heap.size) => rNDrop_at up ni N hh s0 t0 u0 y0 a1 hE2 hN2)
  clear hE1 hN1 hE2 hN2
  obtain ⟨a, c, a', c', a2, c2, a3, c3, rfl, rfl, rfl, rfl⟩ := h0.shape
  have BM := toHid (Box.new w #[.bool up, .int .i64 ni, .slice a ps.length c, .slice a' is.length c', .slice a2 ts.length c2, .slice a3 ls.length c3] 29)
  have N0 := toHid (h0.alloc (.cells #[.bool up, .int .i64 ni, .slice a ps.length c, .slice a' is.length c', .slice a2 ts.length c2, .slice a3 ls.length c3] 29))
  have hB := toHid ((Below.refl _ w).onA (.cells #[.bool up, .int .i64 ni, .slice a ps.length c, .slice a' is.length c', .slice a2 ts.length c2, .slice a3 ls.length c3] 29))
  have e0 : Hid (w.heap.size < (w.alloc (.cells #[.bool up, .int .i64 ni, .slice a ps.length c, .slice a' is.length c', .slice a2 ts.length c2, .slice a3 ls.length c3] 29)).heap.size) := toHid (by simp)
  clear h0
  go_enter Try.func3, Try.ntmps3
  go_upto_region 1 with (fail)
  generalize w.alloc (.cells #[.bool up, .int .i64 ni, .slice a ps.length c, .slice a' is.length c', .slice a2 ts.length c2, .slice a3 ls.length c3] 29) = wA at BM N0 hB e0 ⊢
  have HC := toHid (copyNode_any up ni N0.out (Nat.le_of_lt e0.out) (by omega) (by omega) (by omega) (by omega))
  clear s0 t0 u0 y0
  obtain ⟨m1, m2, m3⟩ := BM.out
  go_upto_region 2 with (go_at_call 8; refine HC.out.mono ?_; rintro e wp1 ⟨pp, qq, rr, ss, rfl, N1, hp1⟩
                         obtain ⟨b, d, b', d', b2, d2, b3, d3, rfl, rfl, rfl, rfl⟩ := id N1.shape)
  clear m1 m2 m3 HC
  have BY := toHid (Box.new wp1 #[.bool up, .int .i64 ni, .slice b ps.length d, .slice b' is.length d', .slice b2 ts.length d2, .slice b3 ls.length d3] 29)
  have st := hp1.on ((Below.refl _ wp1).onA (.cells #[.bool up, .int .i64 ni, .slice b ps.length d, .slice b' is.length d', .slice b2 ts.length d2, .slice b3 ls.length d3] 29))
  have N1a := (N1.alloc (.cells #[.bool up, .int .i64 ni, .slice b ps.length d, .slice b' is.length d', .slice b2 ts.length d2, .slice b3 ls.length d3] 29)).wide (Nat.zero_le _) (hi' := (wp1.alloc (.cells #[.bool up, .int .i64 ni, .slice b ps.length d, .slice b' is.length d', .slice b2 ts.length d2, .slice b3 ls.length d3] 29)).heap.size) (by simp)
  replace N1 := toHid N1a
  replace BM := toHid (BM.out.below st)
  replace N0 := toHid ((N0.out.below st (Nat.le_of_lt e0.out)).wide (Nat.le_refl _) (Nat.le_trans (Nat.le_of_lt e0.out) st.size))
  replace e0 := toHid (Nat.lt_of_lt_of_le e0.out st.size)
  have e1 : Hid (wp1.heap.size < (wp1.alloc (.cells #[.bool up, .int .i64 ni, .slice b ps.length d, .slice b' is.length d', .slice b2 ts.length d2, .slice b3 ls.length d3] 29)).heap.size) := toHid (by simp)
  replace hB := toHid (hB.out.on st)
  clear st hp1 N1a
  generalize wp1.alloc (.cells #[.bool up, .int .i64 ni, .slice b ps.length d, .slice b' is.length d', .slice b2 ts.length d2, .slice b3 ls.length d3] 29) = W1 at BM BY N0 N1 hB e0 e1 ⊢
  have y1 := toHid (Nat.le_refl W1.heap.size)
  obtain ⟨m1, m2, m3⟩ := BY.out
  go_upto_region 3 with (go_at_call 9; refine (H2.out _ _ _ _ _ _ _ N1.out y1.out).mono ?_; rintro e wp2 ⟨a5A, c5A, a6A, c6A, a7A, c7A, a8A, c8A, rfl, NA, hp⟩)
  clear m1 m2 m3
  have BA := toHid (Box.new wp2 #[.bool u1, .int .i64 i1, .slice a5A p1.length c5A, .slice a6A s1.length c6A, .slice a7A t1.length c7A, .slice a8A l1.length c8A] 29)
  have st := hp.on ((Below.refl _ wp2).onA (.cells #[.bool u1, .int .i64 i1, .slice a5A p1.length c5A, .slice a6A s1.length c6A, .slice a7A t1.length c7A, .slice a8A l1.length c8A] 29))
  replace NA := toHid (NA.alloc (.cells #[.bool u1, .int .i64 i1, .slice a5A p1.length c5A, .slice a6A s1.length c6A, .slice a7A t1.length c7A, .slice a8A l1.length c8A] 29))
  replace BM := toHid (BM.out.below st)
  replace BY := toHid (BY.out.below st)
  replace N0 := toHid (N0.out.below st y1.out)
  replace N1 := toHid (N1.out.below st y1.out)
  replace y1 := toHid (Nat.le_trans y1.out st.size)
  have zA : Hid (W1.heap.size ≤ wp2.heap.size) := toHid hp.size
  have yA : Hid (wp2.heap.size ≤ (wp2.alloc (.cells #[.bool u1, .int .i64 i1, .slice a5A p1.length c5A, .slice a6A s1.length c6A, .slice a7A t1.length c7A, .slice a8A l1.length c8A] 29)).heap.size) := toHid (by simp)
  have xA : Hid (wp2.heap.size < (wp2.alloc (.cells #[.bool u1, .int .i64 i1, .slice a5A p1.length c5A, .slice a6A s1.length c6A, .slice a7A t1.length c7A, .slice a8A l1.length c8A] 29)).heap.size) := toHid (by simp)
  replace hB := toHid (hB.out.on st)
  clear st hp H2
  generalize wp2.alloc (.cells #[.bool u1, .int .i64 i1, .slice a5A p1.length c5A, .slice a6A s1.length c6A, .slice a7A t1.length c7A, .slice a8A l1.length c8A] 29) = W2 at BM BY BA N0 N1 NA hB y1 yA xA ⊢
  obtain ⟨m1, m2, m3⟩ := BM.out
  go_upto_region 4 with (go_at_call 10; refine (H3.out _ _ _ _ _ _ _ N0.out y1.out).mono ?_; rintro e wp3 ⟨a5B, c5B, a6B, c6B, a7B, c7B, a8B, c8B, rfl, NB, hp⟩)
  clear m1 m2 m3
  have BB := toHid (Box.new wp3 #[.bool u1, .int .i64 i1, .slice a5B p1.length c5B, .slice a6B s1.length c6B, .slice a7B t1.length c7B, .slice a8B l1.length c8B] 29)
  have st := hp.on ((Below.refl _ wp3).onA (.cells #[.bool u1, .int .i64 i1, .slice a5B p1.length c5B, .slice a6B s1.length c6B, .slice a7B t1.length c7B, .slice a8B l1.length c8B] 29))
  replace NB := toHid (NB.alloc (.cells #[.bool u1, .int .i64 i1, .slice a5B p1.length c5B, .slice a6B s1.length c6B, .slice a7B t1.length c7B, .slice a8B l1.length c8B] 29))
  replace BM := toHid (BM.out.below st)
  replace BY := toHid (BY.out.below st)
  replace BA := toHid (BA.out.below st)
  replace N0 := toHid (N0.out.below st y1.out)
  replace N1 := toHid (N1.out.below st y1.out)
  replace NA := toHid (NA.out.below st yA.out)
  replace y1 := toHid (Nat.le_trans y1.out st.size)
  replace yA := toHid (Nat.le_trans yA.out st.size)
  have zB : Hid (W2.heap.size ≤ wp3.heap.size) := toHid hp.size
  have yB : Hid (wp3.heap.size ≤ (wp3.alloc (.cells #[.bool u1, .int .i64 i1, .slice a5B p1.length c5B, .slice a6B s1.length c6B, .slice a7B t1.length c7B, .slice a8B l1.length c8B] 29)).heap.size) := toHid (by simp)
  have xB : Hid (wp3.heap.size < (wp3.alloc (.cells #[.bool u1, .int .i64 i1, .slice a5B p1.length c5B, .slice a6B s1.length c6B, .slice a7B t1.length c7B, .slice a8B l1.length c8B] 29)).heap.size) := toHid (by simp)
  replace hB := toHid (hB.out.on st)
  clear st hp H3
  generalize wp3.alloc (.cells #[.bool u1, .int .i64 i1, .slice a5B p1.length c5B, .slice a6B s1.length c6B, .slice a7B t1.length c7B, .slice a8B l1.length c8B] 29) = W3 at BM BY BA BB N0 N1 NA NB hB y1 yA yB xB ⊢
  obtain ⟨m1, m2, m3⟩ := BY.out
  go_upto_region 5 with (go_at_call 11; refine (H4.out _ _ _ _ _ _ _ N1.out y1.out).mono ?_; rintro e wp4 ⟨a5C, c5C, a6C, c6C, a7C, c7C, a8C, c8C, rfl, NC, hp⟩)
  clear m1 m2 m3
  have BC := toHid (Box.new wp4 #[.bool u2, .int .i64 i2, .slice a5C p2.length c5C, .slice a6C s2.length c6C, .slice a7C t2.length c7C, .slice a8C l2.length c8C] 29)
  have st := hp.on ((Below.refl _ wp4).onA (.cells #[.bool u2, .int .i64 i2, .slice a5C p2.length c5C, .slice a6C s2.length c6C, .slice a7C t2.length c7C, .slice a8C l2.length c8C] 29))
  replace NC := toHid (NC.alloc (.cells #[.bool u2, .int .i64 i2, .slice a5C p2.length c5C, .slice a6C s2.length c6C, .slice a7C t2.length c7C, .slice a8C l2.length c8C] 29))
  replace BM := toHid (BM.out.below st)
  replace BY := toHid (BY.out.below st)
  replace BA := toHid (BA.out.below st)
  replace BB := toHid (BB.out.below st)
  replace N0 := toHid (N0.out.below st y1.out)
  replace N1 := toHid (N1.out.below st y1.out)
  replace NA := toHid (NA.out.below st yA.out)
  replace NB := toHid (NB.out.below st yB.out)
  replace y1 := toHid (Nat.le_trans y1.out st.size)
  replace yA := toHid (Nat.le_trans yA.out st.size)
  replace yB := toHid (Nat.le_trans yB.out st.size)
  have zC : Hid (W3.heap.size ≤ wp4.heap.size) := toHid hp.size
  have yC : Hid (wp4.heap.size ≤ (wp4.alloc (.cells #[.bool u2, .int .i64 i2, .slice a5C p2.length c5C, .slice a6C s2.length c6C, .slice a7C t2.length c7C, .slice a8C l2.length c8C] 29)).heap.size) := toHid (by simp)
  have xC : Hid (wp4.heap.size < (wp4.alloc (.cells #[.bool u2, .int .i64 i2, .slice a5C p2.length c5C, .slice a6C s2.length c6C, .slice a7C t2.length c7C, .slice a8C l2.length c8C] 29)).heap.size) := toHid (by simp)
  replace hB := toHid (hB.out.on st)
  clear st hp H4
  generalize wp4.alloc (.cells #[.bool u2, .int .i64 i2, .slice a5C p2.length c5C, .slice a6C s2.length c6C, .slice a7C t2.length c7C, .slice a8C l2.length c8C] 29) = W4 at BM BY BA BB BC N0 N1 NA NB NC hB y1 yA yB yC xC ⊢
  obtain ⟨m1, m2, m3⟩ := BM.out
  go_upto_region 6 with (go_at_call 12; refine (H5.out _ _ _ _ _ _ _ N0.out y1.out).mono ?_; rintro e wp5 ⟨a5D, c5D, a6D, c6D, a7D, c7D, a8D, c8D, rfl, ND, hp⟩)
  clear m1 m2 m3
  have BD := toHid (Box.new wp5 #[.bool u2, .int .i64 i2, .slice a5D p2.length c5D, .slice a6D s2.length c6D, .slice a7D t2.length c7D, .slice a8D l2.length c8D] 29)
  have st := hp.on ((Below.refl _ wp5).onA (.cells #[.bool u2, .int .i64 i2, .slice a5D p2.length c5D, .slice a6D s2.length c6D, .slice a7D t2.length c7D, .slice a8D l2.length c8D] 29))
  replace ND := toHid (ND.alloc (.cells #[.bool u2, .int .i64 i2, .slice a5D p2.length c5D, .slice a6D s2.length c6D, .slice a7D t2.length c7D, .slice a8D l2.length c8D] 29))
  replace BM := toHid (BM.out.below st)
  replace BY := toHid (BY.out.below st)
  replace BA := toHid (BA.out.below st)
  replace BB := toHid (BB.out.below st)
  replace BC := toHid (BC.out.below st)
  replace N0 := toHid (N0.out.below st y1.out)
  replace N1 := toHid (N1.out.below st y1.out)
  replace NA := toHid (NA.out.below st yA.out)
  replace NB := toHid (NB.out.below st yB.out)
  replace NC := toHid (NC.out.below st yC.out)
  replace y1 := toHid (Nat.le_trans y1.out st.size)
  replace yA := toHid (Nat.le_trans yA.out st.size)
  replace yB := toHid (Nat.le_trans yB.out st.size)
  replace yC := toHid (Nat.le_trans yC.out st.size)
  have zD : Hid (W4.heap.size ≤ wp5.heap.size) := toHid hp.size
  have yD : Hid (wp5.heap.size ≤ (wp5.alloc (.cells #[.bool u2, .int .i64 i2, .slice a5D p2.length c5D, .slice a6D s2.length c6D, .slice a7D t2.length c7D, .slice a8D l2.length c8D] 29)).heap.size) := toHid (by simp)
  have xD : Hid (wp5.heap.size < (wp5.alloc (.cells #[.bool u2, .int .i64 i2, .slice a5D p2.length c5D, .slice a6D s2.length c6D, .slice a7D t2.length c7D, .slice a8D l2.length c8D] 29)).heap.size) := toHid (by simp)
  replace hB := toHid (hB.out.on st)
  clear st hp H5
  generalize wp5.alloc (.cells #[.bool u2, .int .i64 i2, .slice a5D p2.length c5D, .slice a6D s2.length c6D, .slice a7D t2.length c7D, .slice a8D l2.length c8D] 29) = W5 at BM BY BA BB BC BD N0 N1 NA NB NC ND hB y1 yA yB yC yD xD ⊢
  have SA := toHid NA.out.spn
  have SC := toHid NC.out.spn
  have f1 := trivial
  obtain ⟨a1', a2', a3'⟩ := BA.out
  obtain ⟨b1', b2', b3'⟩ := BB.out
  obtain ⟨c1', c2', c3'⟩ := BC.out
  obtain ⟨d1', d2', d3'⟩ := BD.out
  go_upto_region 8 with (first
    | (go_at_call 13; clear f1; refine (sameNode_same u1 i1 NA.out NB.out yA.out yB.out).mono ?_; rintro e W6 ⟨rfl, h6⟩
       replace BM := toHid (BM.out.below h6)
       replace BY := toHid (BY.out.below h6)
       replace BA := toHid (BA.out.below h6)
       replace BC := toHid (BC.out.below h6)
       replace BD := toHid (BD.out.below h6)
       replace N0 := toHid (N0.out.below h6 y1.out)
       replace N1 := toHid (N1.out.below h6 y1.out)
       replace NC := toHid (NC.out.below h6 yC.out)
       replace ND := toHid (ND.out.below h6 yD.out)
       replace SA := toHid (SA.out.below h6)
       replace SC := toHid (SC.out.below h6)
       replace y1 := toHid (Nat.le_trans y1.out h6.size)
       replace yA := toHid (Nat.le_trans yA.out h6.size)
       replace yC := toHid (Nat.le_trans yC.out h6.size)
       replace yD := toHid (Nat.le_trans yD.out h6.size)
       replace hB := toHid (hB.out.on h6)
       clear h6 a1' a2' a3' b1' b2' b3' c1' c2' c3' d1' d2' d3' NA NB BB
       obtain ⟨c1', c2', c3'⟩ := BC.out
       obtain ⟨d1', d2', d3'⟩ := BD.out)
    | (go_at_call 14; refine (num_any _ _).mono ?_; rintro e w' ⟨rfl, hw'⟩; subst w')
    | (go_at_call 13; refine (sameNode_same u2 i2 NC.out ND.out yC.out yD.out).mono ?_; rintro e W7 ⟨rfl, h7⟩
       replace BM := toHid (BM.out.below h7)
       replace BY := toHid (BY.out.below h7)
       replace BA := toHid (BA.out.below h7)
       replace BC := toHid (BC.out.below h7)
       replace N0 := toHid (N0.out.below h7 y1.out)
       replace N1 := toHid (N1.out.below h7 y1.out)
       replace SA := toHid (SA.out.below h7)
       replace SC := toHid (SC.out.below h7)
       replace y1 := toHid (Nat.le_trans y1.out h7.size)
       replace yA := toHid (Nat.le_trans yA.out h7.size)
       replace yC := toHid (Nat.le_trans yC.out h7.size)
       replace hB := toHid (hB.out.on h7)
       clear h7 c1' c2' c3' d1' d2' d3' NC ND BD))
  obtain ⟨a1', a2', a3'⟩ := BA.out
  go_upto_region 9 with (first
    | (go_at_call 15; refine (spoilNode_sp u1 i1 SA.out y1.out yA.out).mono ?_; rintro e W8 ⟨rfl, h8⟩
       replace BM := toHid (BM.out.spl h8 (.inl e0.out))
       replace BY := toHid (BY.out.spl h8 (.inl e1.out))
       replace BC := toHid (BC.out.spl h8 (.inr (Nat.le_trans (Nat.le_of_lt xA.out) (Nat.le_trans zB.out (Nat.le_trans (Nat.le_of_lt xB.out) zC.out)))))
       replace N0 := toHid (N0.out.below h8.below (Nat.le_refl _))
       replace N1 := toHid (N1.out.below h8.below (Nat.le_refl _))
       replace SC := toHid (SC.out.spl h8)
       replace y1 := toHid (Nat.le_trans y1.out h8.below.size)
       replace yC := toHid (Nat.le_trans yC.out h8.below.size)
       replace hB := toHid (hB.out.trans (h8.below.mono (by have := hB.out.size; have := e0.out; omega)))
       clear h8 a1' a2' a3' BA SA))
  have v1 : Hid (W1.heap.size ≤ W3.heap.size) := toHid (Nat.le_trans zA.out (Nat.le_trans (Nat.le_of_lt xA.out) (Nat.le_trans zB.out (Nat.le_of_lt xB.out))))
  have v3 : Hid (W3.heap.size ≤ W8.heap.size) := toHid (Nat.le_trans zC.out yC.out)
  obtain ⟨c1', c2', c3'⟩ := BC.out
  go_upto_region 10 with (first
    | (go_at_call 15; refine (spoilNode_sp u2 i2 SC.out v3.out yC.out).mono ?_; rintro e W9 ⟨rfl, h9⟩
       replace BM := toHid (BM.out.spl h9 (.inl (Nat.lt_of_lt_of_le e0.out v1.out)))
       replace BY := toHid (BY.out.spl h9 (.inl (Nat.lt_of_lt_of_le e1.out v1.out)))
       replace N0 := toHid (N0.out.below h9.below v1.out)
       replace N1 := toHid (N1.out.below h9.below v1.out)
       replace y1 := toHid (Nat.le_trans y1.out h9.below.size)
       replace hB := toHid (hB.out.trans (h9.below.mono (by have := e0.out; have := v1.out; omega)))
       clear h9 c1' c2' c3' BC SC))
  obtain ⟨m1, m2, m3⟩ := BM.out
  obtain ⟨b1', b2', b3'⟩ := BY.out
  go_wp2_with (first
    | (go_at_call 13; refine (sameNode_same up ni N1.out N0.out y1.out y1.out).mono ?_; rintro e WA ⟨rfl, hA⟩
       replace hB := toHid (hB.out.on hA)
       clear m1 m2 m3 b1' b2' b3' hA)
    | (go_at_call 16; refine (awake17_any _).mono ?_; rintro e WB ⟨rfl, hB2⟩))
  go_ret
  exact ⟨rfl, hB.out.on hB2⟩

/-! ### The row's step -/
set_option maxRecDepth 100000 in
theorem lifted (os : Os) (started : os.Started) (H : Type) (enc : TypeId × Value → H) :
    ReturnsInHanded {} Try.checked os 3 .any (Rows.writesSpec.pre6 enc Try.prog Try.f3 Rows.writesRow.domain false) (Rows.writesSpec.post enc Try.prog Try.f3 false true false false) := by
  refine returnsInHanded_of_change_sized (C := Try.checked) ownK started (by kernel_rfl) Try.func3
    (ChangeSpec.witness6 (enc := enc) (C := Try.checked) false ⟨#[], #[.agg #[.bool false, .int .i64 0, .slice none 0 0, .slice none 0 0, .slice none 0 0, .slice none 0 0], .int .i64 0, .int .i64 0], []⟩ 8 (by kernel_rfl) (by kernel_rfl) (by kernel_rfl) (by kernel_rfl)) ?_
  intro W base args ds gs before hval0 hW hcnd hsz0 _
  have hsz : (DataW.weightsEach Try.prog (Try.f3.params.toList ++ Rows.writesSpec.plain.varTypes Try.prog) (ds ++ gs)).all (· ≤ reachBytes) = true := hsz0
  have hval : ∀ (j : Nat) t v, Try.f3.params[j]? = some t → args[j]? = some v → Value.okWide Try.prog W .any base t v := hval0
  have hW' := hW
  obtain ⟨p, q, hA0, hV, rfl, hfz, hnd⟩ := hW
  have hA : DataW.TrodAll enc Try.prog W 0 (fun _ => true) true Try.f3.params.toList args.toList ds p := hA0
  rw [Try.params3] at hA hval hsz
  obtain ⟨v0, vs0, d0, ds0, p0, q0, hargs, rfl, rfl, h0, r0⟩ := trodAll_cons hA
  obtain ⟨v1, vs1, d1, ds1, p1, q1, rfl, rfl, rfl, h1, r1⟩ := trodAll_cons r0
  obtain ⟨v2, vs2, d2, ds2, p2, q2, rfl, rfl, rfl, h2, r2⟩ := trodAll_cons r1
  obtain ⟨rfl, rfl, rfl⟩ := trodAll_nil r2
  obtain rfl : args = #[v0, v1, v2] := by cases args; simp_all
  obtain ⟨rfl, rfl⟩ := trodVars_none hV
  clear r0 r1 r2
  have k0 := h0
  have lt0 : ∀ x ∈ p0, x.block < W.heap.size := by obtain ⟨m, hm⟩ := k0; exact DataW.trod_lt m _ _ _ hm
  have z0 : ∀ n ∈ d0.weights Try.prog 29, n ≤ reachBytes := fun n hn => by simpa using List.all_eq_true.1 hsz _ (DataW.weights_mem_each (j := 0) rfl rfl n hn)
  have f0 : W.noneFrozen p0 := fun b off hm => hfz b off (by simp [hm])
  have k1 := h1
  have lt1 : ∀ x ∈ p1, x.block < W.heap.size := by obtain ⟨m, hm⟩ := k1; exact DataW.trod_lt m _ _ _ hm
  have k2 := h2
  have lt2 : ∀ x ∈ p2, x.block < W.heap.size := by obtain ⟨m, hm⟩ := k2; exact DataW.trod_lt m _ _ _ hm
  obtain ⟨x0, r0, h0, s0, t0, u0, y0, w0, i0, j0, m0, n0⟩ := open_node (hval 0 29 v0 rfl rfl) h0 f0 z0
  obtain ⟨a1, rfl, rfl, rfl, w1⟩ := open_int Try.underlying3 (hval 1 3 v1 rfl rfl) h1
  obtain ⟨a2, rfl, rfl, rfl, w2⟩ := open_int Try.underlying3 (hval 2 3 v2 rfl rfl) h2
  clear hA0 hval0
  refine (walk v0 x0 a1 a2 W r0 h0 s0 t0 u0 y0 w0 i0 j0 m0 n0 w1 w2).mono fun e W' ⟨he, bel⟩ => ?_
  subst he
  exact ⟨_, rfl, _, _, _, [], _, [], hW', trodAll_mk1 (shut_bool Try.underlying4 _), (trodAll_cons_mk (Below.trod laidOut (by kernel_rfl) (of_decide_eq_true (by kernel_rfl)) k0 bel lt0) (trodAll_cons_mk (Below.trod laidOut (by kernel_rfl) (of_decide_eq_true (by kernel_rfl)) k1 bel lt1) (trodAll_cons_mk (Below.trod laidOut (by kernel_rfl) (of_decide_eq_true (by kernel_rfl)) k2 bel lt2) trodAll_mk0))), rfl, bel.frame _, fun h => by cases h⟩

theorem over : Rows.writesRow.holds Try.pinned (OpenSpec.ofChange Rows.writesSpec) :=
  OpenClaim.holds_of_wide 3 Try.f3 rfl rfl rfl rfl rfl rfl rfl ⟨rfl, rfl, rfl, rfl, rfl⟩ rfl rfl rfl rfl rfl (by kernel_rfl) Try.func3 (by kernel_rfl)
    (of_decide_eq_true (by kernel_rfl)) (by unfold Func.isWrapper; first | (rw [if_pos (by decide +kernel)]; kernel_rfl) | (rw [if_neg (by decide +kernel)]; exact ⟨rfl, rfl⟩))
    (fun os started H enc _ => lifted os started H enc)

end Go.Proofs.Ytgakfbdaiogflaa.writes

namespace Go.Proofs.Ytgakfbdaiogflaa
/-- The statement, by its short name. -/
theorem writes_holds : Rows.WritesSaid := writes.over
#print axioms writes_holds
end Go.Proofs.Ytgakfbdaiogflaa
