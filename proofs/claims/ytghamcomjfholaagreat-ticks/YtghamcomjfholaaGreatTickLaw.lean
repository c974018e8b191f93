
/-
  What the statements about ticks ask first: that the program answers at some nodes at all; the document's tick, its answer's cells written out.
-/
import Derived.Test.YtghamcomjfholaaGreatTickB
import Derived.Test.YtghamcomjfholaaGreatShareA
import Derived.Test.YtghamcomjfholaaGreatGiven
import Derived.Test.YtghamcomjfholaaGreatOld
namespace Go.Proofs.YtghamcomjfholaaGreat
open Go.ChangeShapes Go.WideShapes Go.ChangeAt Go.RowKit

section
variable {lo hi : Nat} {w : World} {p q r s : Value} {ps : List Pe} {is : List Int} {ts : List It} {ls : List Te}
theorem rTicked_at {up' : Bool} {i' E : Int} {ps' : List Pe} {is' : List Int} {ts' : List It} {ls' : List Te} {L : List Mg} (up : Bool) (i : Int) (h : NdAt lo hi w p q r s ps is ts ls) (hh : hi ≤ w.heap.size)
    (h1 : ps.length * 16 ≤ 140737488351232) (h2 : is.length * 8 ≤ 140737488351232) (h3 : ts.length * 40 ≤ 140737488351232) (h4 : ls.length * 24 ≤ 140737488351232)
    (hE : tiE ⟨up, i, ps, is, ts, ls⟩ = E) (hN : tiN ⟨up, i, ps, is, ts, ls⟩ = ⟨up', i', ps', is', ts', ls'⟩) (hL : tiM ⟨up, i, ps, is, ts, ls⟩ = L) :
    Calls Tryz.prog 6 #[.agg #[.bool up, .int .i64 i, p, q, r, s]] w fun e w' => ∃ a5 c5 a6 c6 a7 c7 a8 c8 b d, e = .returned (.tuple #[.agg #[.bool up', .int .i64 i', .slice a5 ps'.length c5, .slice a6 is'.length c6, .slice a7 ts'.length c7, .slice a8 ls'.length c8], .slice b L.length d, .int .i64 E]) ∧
      NdAt w.heap.size w'.heap.size w' (.slice a5 ps'.length c5) (.slice a6 is'.length c6) (.slice a7 ts'.length c7) (.slice a8 ls'.length c8) ps' is' ts' ls' ∧ OwnM w.heap.size w' (.slice b L.length d) L ∧ Below w.heap.size w w' := by
  have H := rTicked_any up i h hh h1 h2 h3 h4
  rw [hE, hN, hL] at H
  refine H.mono ?_
  rintro e w1 ⟨v, u, rfl, N, O, hb⟩
  obtain ⟨p1, q1, r1, s1, rfl, M⟩ := N.out
  obtain ⟨a5, c5, a6, c6, a7, c7, a8, c8, rfl, rfl, rfl, rfl⟩ := id M.shape
  obtain ⟨b, d, rfl⟩ := O.cap
  exact ⟨_, _, _, _, _, _, _, _, _, _, rfl, M, O, hb⟩
end

def gtP : List Pe := [⟨200, 1⟩, ⟨90, 2⟩]
def gtH (d : Int) : Mg := ⟨0, 100, d, [200, 90], 0, ⟨0, 0, 0, 0, false⟩, false⟩
def gtM : List Mg := [gtH 200, gtH 90, gtH 7, gtH 101, ⟨1, 100, 200, [], 0, ⟨95, 1, 1, 1, false⟩, false⟩, ⟨1, 100, 200, [], 0, ⟨99, 3, 1, 3, false⟩, false⟩, ⟨1, 100, 90, [], 0, ⟨250, 2, 1, 2, false⟩, false⟩]

set_option maxHeartbeats 4000000 in
theorem awake19_any (w : World) :
    Calls Tryz.prog 12 #[] w fun e w' => e = .returned (.bool true) ∧ Below w.heap.size w w' := by
  have k0 := toHid (Below.refl w.heap.size w)
  go_enter Tryz.func12, Tryz.ntmps12
  go_upto_region 2 with (first
    | (go_at_call 32; refine (gNode_any _).mono ?_; rintro e wg ⟨ga, gb, gc, rfl, NG, hg⟩)
    | (go_at_call 5; refine (tStep_at (up' := true) (i' := 100) (E := 0) (ps' := gtP) (is' := [7, 101]) (ts' := gnT) (ls' := []) (L := gtM) true 100 NG (Nat.le_refl _) (by decide +kernel) (by decide +kernel) (by decide +kernel)).mono ?_; rintro e w1 ⟨a5, c5, a6, c6, a7, c7, a8, c8, b, d, m, rfl, N1, O1, h1, h2, hb⟩))
  have k1 := toHid (((k0.out.on hg).on hb).onA (.cells #[.bool true, .int .i64 100, .slice a5 gtP.length c5, .slice a6 [7, 101].length c6, .slice a7 gnT.length c7, .slice a8 ([] : List Te).length c8] 29))
  have BT := toHid (Box.new w1 #[.bool true, .int .i64 100, .slice a5 gtP.length c5, .slice a6 [7, 101].length c6, .slice a7 gnT.length c7, .slice a8 ([] : List Te).length c8] 29)
  have RP := toHid ((N1.vw.ps.alloc (.cells #[.bool true, .int .i64 100, .slice a5 gtP.length c5, .slice a6 [7, 101].length c6, .slice a7 gnT.length c7, .slice a8 ([] : List Te).length c8] 29) PeV_len).wide (Nat.zero_le _) (Nat.le_trans h2 (by simp : _ ≤ (w1.alloc (.cells #[.bool true, .int .i64 100, .slice a5 gtP.length c5, .slice a6 [7, 101].length c6, .slice a7 gnT.length c7, .slice a8 ([] : List Te).length c8] 29)).heap.size)))
  have RM := toHid ((O1.alloc (.cells #[.bool true, .int .i64 100, .slice a5 gtP.length c5, .slice a6 [7, 101].length c6, .slice a7 gnT.length c7, .slice a8 ([] : List Te).length c8] 29)).row)
  clear N1 O1 NG hg hb h1 h2 k0
  generalize w1.alloc (.cells #[.bool true, .int .i64 100, .slice a5 gtP.length c5, .slice a6 [7, 101].length c6, .slice a7 gnT.length c7, .slice a8 ([] : List Te).length c8] 29) = W1 at k1 BT RP RM ⊢
  go_upto_region 3 with (go_at_call 5; refine (tStep_at (lo := 0) (hi := 0) (up' := false) (i' := 0) (E := 1900) (ps' := []) (is' := []) (ts' := []) (ls' := []) (L := []) false 0 NdAt.nil0 (Nat.zero_le _) (by decide +kernel) (by decide +kernel) (by decide +kernel)).mono ?_; rintro e w2 ⟨a5', c5', a6', c6', a7', c7', a8', c8', b', d', m', rfl, -, -, -, -, hb2⟩)
  have hb3 := hb2.onA (.cells #[.bool false, .int .i64 0, .slice a5' ([] : List Pe).length c5', .slice a6' ([] : List Int).length c6', .slice a7' ([] : List It).length c7', .slice a8' ([] : List Te).length c8'] 29)
  generalize w2.alloc (.cells #[.bool false, .int .i64 0, .slice a5' ([] : List Pe).length c5', .slice a6' ([] : List Int).length c6', .slice a7' ([] : List It).length c7', .slice a8' ([] : List Te).length c8'] 29) = W2 at hb3 ⊢
  have k2 := toHid (k1.out.on hb3)
  obtain ⟨x1, x2, x3⟩ := BT.out.below hb3
  obtain ⟨p2, q2, e2, -, f2⟩ := (RM.out.below hb3 (Nat.le_refl _)).at
  cases e2
  obtain ⟨mb, mo, rfl, -, hmb, mm⟩ := f2 (by decide)
  obtain ⟨⟨n0, u0, v0, i0, s0, z0, y0, r0⟩, e0, c0, R0⟩ := mm 0 (by decide)
  obtain ⟨⟨n3, u3, v3, i3, s3, z3, y3, r3⟩, e3, c3, -⟩ := mm 3 (by decide)
  obtain ⟨⟨n4, u4, v4, i4, s4, z4, y4, r4⟩, e4, c4, -⟩ := mm 4 (by decide)
  have e0' : (⟨n0, u0, v0, i0, s0, z0, y0⟩ : Mg) = ⟨0, 100, 200, [200, 90], 0, ⟨0, 0, 0, 0, false⟩, false⟩ := e0
  have e3' : (⟨n3, u3, v3, i3, s3, z3, y3⟩ : Mg) = ⟨0, 100, 101, [200, 90], 0, ⟨0, 0, 0, 0, false⟩, false⟩ := e3
  have e4' : (⟨n4, u4, v4, i4, s4, z4, y4⟩ : Mg) = ⟨1, 100, 200, [], 0, ⟨95, 1, 1, 1, false⟩, false⟩ := e4
  cases e0'
  cases e3'
  cases e4'
  have d0 : W2.cell? ⟨mb, mo + 2, none⟩ = some (.int .i64 200) := c0 2 (by decide)
  have d1 : W2.cell? ⟨mb, mo + 3, none⟩ = some r0 := c0 3 (by decide)
  have d3 : W2.cell? ⟨mb, mo + 33 + 2, none⟩ = some (.int .i64 101) := c3 2 (by decide)
  have d4 : W2.cell? ⟨mb, mo + 44, none⟩ = some (.int .i64 1) := c4 0 (by decide)
  have d5 : W2.cell? ⟨mb, mo + 44 + 2, none⟩ = some (.int .i64 200) := c4 2 (by decide)
  have R0' : RowI 0 W2.heap.size W2 r0 [200, 90] := R0.wide (Nat.zero_le _) hb3.size
  obtain ⟨q0, l0, rfl, -⟩ := id R0'.cap
  clear c0 c3 c4 mm f2 e0 e3 e4 R0
  obtain ⟨pp, pc, ep, -, fp⟩ := (RP.out.below hb3 (Nat.le_refl _)).pes hb3.size
  cases ep
  obtain ⟨pb, po, rfl, -, hpb, pm⟩ := fp (by decide)
  obtain ⟨g0, g1⟩ : PeAt W2 pb (po + 2) ⟨90, 2⟩ := pm 1 (by decide)
  have hl : (gtM.length : Int) = 7 := rfl
  have hl2 : (gtP.length : Int) = 2 := rfl
  have hmbw : mb < W2.heap.size := Nat.lt_of_lt_of_le hmb hb3.size
  have DD : Hid (∀ w' : World, Below W2.heap.size W2 w' → w'.cell? ⟨mb, mo + 33 + 2, none⟩ = some (.int .i64 101) ∧ w'.cell? ⟨mb, mo + 44, none⟩ = some (.int .i64 1) ∧ w'.cell? ⟨mb, mo + 44 + 2, none⟩ = some (.int .i64 200) ∧ w'.cell? ⟨pb, po + 2, none⟩ = some (.int .i64 90) ∧ w'.cell? ⟨pb, po + 2 + 1, none⟩ = some (.int .i64 2)) :=
    toHid fun w' hw => ⟨(hw.cell (p := ⟨mb, mo + 33 + 2, none⟩) hmbw).trans d3, (hw.cell (p := ⟨mb, mo + 44, none⟩) hmbw).trans d4, (hw.cell (p := ⟨mb, mo + 44 + 2, none⟩) hmbw).trans d5, (hw.cell (p := ⟨pb, po + 2, none⟩) hpb).trans g0, (hw.cell (p := ⟨pb, po + 2 + 1, none⟩) hpb).trans g1⟩
  have BT2 := toHid (BT.out.below hb3)
  replace R0' := toHid R0'
  clear d3 d4 d5 g0 g1 pm fp hb2 hb3 RM RP BT
  go_wp2_with (first
    | (go_at_call 33
       have BI := Box.new W2 #[.int .i64 200, .int .i64 90] 3
       refine (sameI_at (R0'.out.alloc _) (Box.rowI (n := 2) [200, 90] BI rfl rfl (by decide)) (b := true) (by decide)).mono ?_; rintro e w5 ⟨rfl, h5⟩
       have h6 := ((Below.refl W2.heap.size W2).onA (.cells #[.int .i64 200, .int .i64 90] 3)).on h5
       obtain ⟨d3, d4, d5, g0, g1⟩ := DD.out _ h6
       obtain ⟨y1, y2, y3⟩ := BT2.out.below h6
       have k6 := toHid (k2.out.on h6)
       clear h5 h6)
    | (go_at_call 9; refine (num_any _ _).mono ?_; rintro e w' ⟨rfl, hw'⟩; subst w'))
  go_ret
  exact ⟨rfl, k6.out⟩

end Go.Proofs.YtghamcomjfholaaGreat
