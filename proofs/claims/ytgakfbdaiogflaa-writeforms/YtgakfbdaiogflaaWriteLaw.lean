
/-
  What the statements about nodes ask first: the node that they give, and that the program answers at some nodes at all.
-/
import Derived.Test.YtgakfbdaiogflaaNodeB
import Derived.Test.YtgakfbdaiogflaaNodeCopy
import Derived.Test.YtgakfbdaiogflaaRowBox
import Derived.Test.YtgakfbdaiogflaaNum
import Derived.Test.YtgakfbdaiogflaaWriteA
namespace Go.Proofs.Ytgakfbdaiogflaa
open Go.ChangeShapes Go.WideShapes Go.ChangeAt Go.RowKit

def gnP : List Pe := [⟨101, 2⟩, ⟨200, 0⟩, ⟨90, 1⟩]
def gnT : List It := [⟨95, 1, 1, 1, false⟩, ⟨99, 3, 1, 3, false⟩, ⟨250, 2, 1, 2, false⟩]

section at_
variable {lo hi : Nat} {w : World} {v : Value} {ids xs : List Int} {i : Int}
end at_

end Go.Proofs.Ytgakfbdaiogflaa

namespace Go.Proofs.Ytgakfbdaiogflaa
open Go.ChangeShapes Go.WideShapes Go.ChangeAt Go.RowKit

/-- An item of a key, so new. -/
theorem gIt_any (k c : Int) (w : World) :
    Calls Try.prog 18 #[.int .i64 k, .int .i64 c] w fun e w' => e = .returned (.agg #[.int .i64 k, .int .i64 c, .int .i64 1, .int .i64 (c % 256), .bool false]) ∧ Below w.heap.size w w' := by
  have e1 : bits .and .i64 c 255 = c % 256 := and255 c
  go_enter Try.func18, Try.ntmps18
  go_wp2
  refine bodyPost_ret (v := .agg #[.int .i64 k, .int .i64 c, .int .i64 1, .int .i64 (c % 256), .bool false]) (by simp [results, Try.results18, go_sem]) rfl ?_
  exact ⟨rfl, (Below.refl _ w).onA _⟩

set_option maxHeartbeats 2000000 in
theorem gNode_any (w : World) :
    Calls Try.prog 17 #[] w fun e w' => ∃ a b c, e = .returned (.agg #[.bool true, .int .i64 100, .slice a 3 3, .slice b 1 1, .slice c 3 3, .slice none 0 0]) ∧
      NdAt w.heap.size w'.heap.size w' (.slice a 3 3) (.slice b 1 1) (.slice c 3 3) (.slice none 0 0) gnP [7] gnT [] ∧ Below w.heap.size w w' := by
  have BZ := toHid (Box.new w #[.bool false, .int .i64 0, .slice none 0 0, .slice none 0 0, .slice none 0 0, .slice none 0 0] 29)
  have hB := toHid ((Below.refl _ w).onA (.cells #[.bool false, .int .i64 0, .slice none 0 0, .slice none 0 0, .slice none 0 0, .slice none 0 0] 29))
  have hzA : (w.alloc (.cells #[.bool false, .int .i64 0, .slice none 0 0, .slice none 0 0, .slice none 0 0, .slice none 0 0] 29)).heap.size = w.heap.size + 1 := by simp
  have t1 := trivial
  have t2 := trivial
  go_enter Try.func17, Try.ntmps17
  go_upto_region 1 with (fail)
  generalize w.alloc (.cells #[.bool false, .int .i64 0, .slice none 0 0, .slice none 0 0, .slice none 0 0, .slice none 0 0] 29) = wA at BZ hB hzA ⊢
  have C1 := toHid ((Box.new wA #[.int .i64 101, .int .i64 2, .int .i64 200, .int .i64 0, .int .i64 90, .int .i64 1] 70).alloc (.cells #[.int .i64 7] 3))
  have C2 := toHid (Box.new1 wA (.cells #[.int .i64 101, .int .i64 2, .int .i64 200, .int .i64 0, .int .i64 90, .int .i64 1] 70) #[.int .i64 7] 3)
  go_wp2_with (first
    | (go_at_call 18; clear t1; refine (gIt_any _ _ _).mono ?_; rintro e w1 ⟨rfl, h1⟩)
    | (go_at_call 18; clear t2; refine (gIt_any _ _ _).mono ?_; rintro e w2 ⟨rfl, h2⟩)
    | (go_at_call 18; refine (gIt_any _ _ _).mono ?_; rintro e w3 ⟨rfl, h3⟩
       have k3 := (h1.on h2).on h3
       clear h1 h2 h3
       have D1 := C1.out.below k3
       have D2 := C2.out.below k3
       have hk := (((Below.refl _ wA).onA _).onA _).on k3
       clear k3
       obtain ⟨b1, b2, b3⟩ := BZ.out.below hk))
  have hk3 := hB.out.on hk
  have z3 : w.heap.size + 1 + 1 < w3.heap.size := by have := D2.1; omega
  clear hk
  rw [hzA] at D1 D2
  have S5 := ((((((Only.refl w.heap.size (w.heap.size + 1) w3).setCell (o := 0) (Nat.le_refl _) (Nat.lt_succ_self _) (.bool true)).setCell (o := 1) (Nat.le_refl _) (Nat.lt_succ_self _) (.int .i64 100)).setCell (o := 2) (Nat.le_refl _) (Nat.lt_succ_self _) (.slice (some ⟨w.heap.size + 1, 0, none⟩) 3 3)).setCell (o := 3) (Nat.le_refl _) (Nat.lt_succ_self _) (.slice (some ⟨w.heap.size + 1 + 1, 0, none⟩) 1 1)).setCell (o := 4) (Nat.le_refl _) (Nat.lt_succ_self _) (.slice (some ⟨w3.heap.size, 0, none⟩) 3 3)).setCell (o := 5) (Nat.le_refl _) (Nat.lt_succ_self _) (.slice none 0 0)
  have e5 := fun k => S5.cellA (.cells #[.int .i64 95, .int .i64 1, .int .i64 1, .int .i64 1, .bool false, .int .i64 99, .int .i64 3, .int .i64 1, .int .i64 3, .bool false, .int .i64 250, .int .i64 2, .int .i64 1, .int .i64 2, .bool false] 47) k (b := w.heap.size) (by omega)
  have hz5 := S5.size
  have C3 := Box.newAt (w := ((((((w3.setCell ⟨w.heap.size, 0, none⟩ (.bool true)).setCell ⟨w.heap.size, 1, none⟩ (.int .i64 100)).setCell ⟨w.heap.size, 2, none⟩ (.slice (some ⟨w.heap.size + 1, 0, none⟩) 3 3)).setCell ⟨w.heap.size, 3, none⟩ (.slice (some ⟨w.heap.size + 1 + 1, 0, none⟩) 1 1)).setCell ⟨w.heap.size, 4, none⟩ (.slice (some ⟨w3.heap.size, 0, none⟩) 3 3)).setCell ⟨w.heap.size, 5, none⟩ (.slice none 0 0))) #[.int .i64 95, .int .i64 1, .int .i64 1, .int .i64 1, .bool false, .int .i64 99, .int .i64 3, .int .i64 1, .int .i64 3, .bool false, .int .i64 250, .int .i64 2, .int .i64 1, .int .i64 2, .bool false] 47 hz5.symm
  have N1 := (((Box.rowP gnP D1 rfl rfl (by decide)).only S5 (.inr (by omega))).alloc (.cells #[.int .i64 95, .int .i64 1, .int .i64 1, .int .i64 1, .bool false, .int .i64 99, .int .i64 3, .int .i64 1, .int .i64 3, .bool false, .int .i64 250, .int .i64 2, .int .i64 1, .int .i64 2, .bool false] 47) PeV_len).wide (lo' := w.heap.size) (hi' := w3.heap.size + 1) (by omega) (by omega)
  have N2 := (((Box.rowI [7] D2 rfl rfl (by decide)).only S5 (.inr (by omega))).alloc (.cells #[.int .i64 95, .int .i64 1, .int .i64 1, .int .i64 1, .bool false, .int .i64 99, .int .i64 3, .int .i64 1, .int .i64 3, .bool false, .int .i64 250, .int .i64 2, .int .i64 1, .int .i64 2, .bool false] 47)).wide (lo' := w.heap.size) (hi' := w3.heap.size + 1) (by omega) (by omega)
  have N3 := (Box.rowT gnT C3 rfl rfl (by decide)).wide (lo' := w.heap.size) (hi' := w3.heap.size + 1) (by omega) (by omega)
  have zz : w3.heap.size + 1 ≤ (World.alloc (((((w3.setCell ⟨w.heap.size, 0, none⟩ (.bool true)).setCell ⟨w.heap.size, 1, none⟩ (.int .i64 100)).setCell ⟨w.heap.size, 2, none⟩ (.slice (some ⟨w.heap.size + 1, 0, none⟩) 3 3)).setCell ⟨w.heap.size, 3, none⟩ (.slice (some ⟨w.heap.size + 1 + 1, 0, none⟩) 1 1)).setCell ⟨w.heap.size, 4, none⟩ (.slice (some ⟨w3.heap.size, 0, none⟩) 3 3) |>.setCell ⟨w.heap.size, 5, none⟩ (.slice none 0 0)) (.cells #[.int .i64 95, .int .i64 1, .int .i64 1, .int .i64 1, .bool false, .int .i64 99, .int .i64 3, .int .i64 1, .int .i64 3, .bool false, .int .i64 250, .int .i64 2, .int .i64 1, .int .i64 2, .bool false] 47)).heap.size := by simp
  refine bodyPost_ret (v := .agg #[.bool true, .int .i64 100, .slice (some ⟨w.heap.size + 1, 0, none⟩) 3 3, .slice (some ⟨w.heap.size + 1 + 1, 0, none⟩) 1 1, .slice (some ⟨w3.heap.size, 0, none⟩) 3 3, .slice none 0 0]) (by simp [results, Try.results17, go_sem, b2, e5]) rfl ?_
  exact ⟨_, _, _, rfl, NdAt.wide ⟨⟨N1, N2⟩, N3, RowC.nil0⟩ (Nat.le_refl _) zz, (hk3.trans S5.below).onA _⟩

end Go.Proofs.Ytgakfbdaiogflaa

namespace Go.Proofs.Ytgakfbdaiogflaa
open Go.ChangeShapes Go.WideShapes Go.ChangeAt Go.RowKit

theorem RowI.up {w w' : World} {v : Value} {xs : List Int} (h : RowI 0 w.heap.size w v xs) (hb : Below w.heap.size w w') : RowI 0 w'.heap.size w' v xs := (h.below hb (Nat.le_refl _)).wide (Nat.le_refl _) hb.size
theorem LentI.up {w w' : World} {v : Value} {xs : List Int} (h : LentI 0 w.heap.size w v xs) (hb : Below w.heap.size w w') : LentI 0 w'.heap.size w' v xs := by
  obtain ⟨g, cap, e, hl, hc, h1, h2, h3⟩ := h.below hb (Nat.le_refl _)
  exact ⟨g, cap, e, hl, hc, h1, Nat.lt_of_lt_of_le h2 hb.size, h3⟩
theorem LentI.all {lo hi : Nat} {w : World} {v : Value} {xs : List Int} (h : LentI lo hi w v xs) (hh : hi ≤ w.heap.size) : LentI 0 w.heap.size w v xs := by
  obtain ⟨g, cap, e, hl, hc, h1, h2, h3⟩ := h
  exact ⟨g, cap, e, hl, hc, Nat.zero_le _, Nat.lt_of_lt_of_le h2 hh, h3⟩
theorem LentI.only {lo hi lo' hi' : Nat} {w w' : World} {v : Value} {zs : List Int} (h : LentI lo hi w v zs) (hw : Only lo' hi' w w') (hd : hi ≤ lo' ∨ hi' ≤ lo) : LentI lo hi w' v zs := by
  obtain ⟨g, cap, e, hl, hc, h1, h2, h3⟩ := h
  exact ⟨g, cap, e, hl, hc, h1, h2, fun j hj => ⟨(hw.cell g _ (by omega)).trans (h3 j hj).1, (hw.frozen g _).trans (h3 j hj).2⟩⟩
theorem NdAt.up {w w' : World} {p q r s : Value} {ps : List Pe} {is : List Int} {ts : List It} {ls : List Te} (h : NdAt 0 w.heap.size w p q r s ps is ts ls) (hb : Below w.heap.size w w') : NdAt 0 w'.heap.size w' p q r s ps is ts ls := (h.below hb (Nat.le_refl _)).wide (Nat.le_refl _) hb.size

/-- Six cells of a block written over, one behind the other. -/
theorem Box.set6 {w : World} {x : Nat} {z0 z1 z2 z3 z4 z5 : Value} (h : Box w x #[z0, z1, z2, z3, z4, z5]) (v0 v1 v2 v3 v4 v5 : Value) :
    Box ((((((w.setCell ⟨x, 0, none⟩ v0).setCell ⟨x, 1, none⟩ v1).setCell ⟨x, 2, none⟩ v2).setCell ⟨x, 3, none⟩ v3).setCell ⟨x, 4, none⟩ v4).setCell ⟨x, 5, none⟩ v5) x #[v0, v1, v2, v3, v4, v5] ∧
      Only x (x + 1) w ((((((w.setCell ⟨x, 0, none⟩ v0).setCell ⟨x, 1, none⟩ v1).setCell ⟨x, 2, none⟩ v2).setCell ⟨x, 3, none⟩ v3).setCell ⟨x, 4, none⟩ v4).setCell ⟨x, 5, none⟩ v5) :=
  ⟨((((((h.setS (ys := #[v0, z1, z2, z3, z4, z5]) 0 v0 (by simp) (by simp)).setS (ys := #[v0, v1, z2, z3, z4, z5]) 1 v1 (by simp) (by simp)).setS (ys := #[v0, v1, v2, z3, z4, z5]) 2 v2 (by simp) (by simp)).setS (ys := #[v0, v1, v2, v3, z4, z5]) 3 v3 (by simp) (by simp)).setS (ys := #[v0, v1, v2, v3, v4, z5]) 4 v4 (by simp) (by simp)).setS (ys := #[v0, v1, v2, v3, v4, v5]) 5 v5 (by simp) (by simp)),
    ((((((Only.refl x (x + 1) w).setCell (b := x) (o := 0) (Nat.le_refl _) (Nat.lt_succ_self _) v0).setCell (b := x) (o := 1) (Nat.le_refl _) (Nat.lt_succ_self _) v1).setCell (b := x) (o := 2) (Nat.le_refl _) (Nat.lt_succ_self _) v2).setCell (b := x) (o := 3) (Nat.le_refl _) (Nat.lt_succ_self _) v3).setCell (b := x) (o := 4) (Nat.le_refl _) (Nat.lt_succ_self _) v4).setCell (b := x) (o := 5) (Nat.le_refl _) (Nat.lt_succ_self _) v5⟩

theorem rNodeMay_is {lo hi : Nat} {w : World} {p q r s : Value} {ps : List Pe} {is : List Int} {ts : List It} {ls : List Te} {up : Bool} {i : Int} {x : Bool} (h : NdAt lo hi w p q r s ps is ts ls) (hh : hi ≤ w.heap.size)
    (h1 : ps.length * 16 ≤ 140737488351232) (h2 : is.length * 8 ≤ 140737488351232) (h3 : ts.length * 40 ≤ 140737488351232) (h4 : ls.length * 24 ≤ 140737488351232) (hx : ndB ⟨up, i, ps, is, ts, ls⟩ = x) :
    Calls Try.prog 20 #[.agg #[.bool up, .int .i64 i, p, q, r, s]] w fun e w' => e = .returned (.bool x) ∧ Below w.heap.size w w' := hx ▸ rNodeMay_any up i h hh h1 h2 h3 h4

end Go.Proofs.Ytgakfbdaiogflaa

namespace Go.Proofs.Ytgakfbdaiogflaa
open Go.ChangeShapes Go.WideShapes Go.ChangeAt Go.RowKit

section
variable {lo hi : Nat} {w : World} {p q r s : Value} {ps : List Pe} {is : List Int} {ts : List It} {ls : List Te}
theorem wPut17_at {up' : Bool} {i' E : Int} {ps' : List Pe} {is' : List Int} {ts' : List It} {ls' : List Te} (up : Bool) (i : Int) (h : NdAt lo hi w p q r s ps is ts ls) (hh : hi ≤ w.heap.size) (k x : Int) (hE : wrE ⟨up, i, ps, is, ts, ls⟩ k x false = E) (hN : wrN ⟨up, i, ps, is, ts, ls⟩ k x false = ⟨up', i', ps', is', ts', ls'⟩) :
    Calls Try.prog 9 #[.agg #[.bool up, .int .i64 i, p, q, r, s], .int .i64 k, .int .i64 x] w fun e w' => ∃ a5 c5 a6 c6 a7 c7 a8 c8, e = .returned (.tuple #[.agg #[.bool up', .int .i64 i', .slice a5 ps'.length c5, .slice a6 is'.length c6, .slice a7 ts'.length c7, .slice a8 ls'.length c8], .int .i64 E]) ∧
      NdAt w.heap.size w'.heap.size w' (.slice a5 ps'.length c5) (.slice a6 is'.length c6) (.slice a7 ts'.length c7) (.slice a8 ls'.length c8) ps' is' ts' ls' ∧ Below w.heap.size w w' := by
  have H := wPut17_any up i h hh k x
  rw [hE, hN] at H
  refine H.mono ?_
  rintro e w1 ⟨v, rfl, N, hb⟩
  obtain ⟨p1, q1, r1, s1, rfl, M⟩ := N.out
  obtain ⟨a5, c5, a6, c6, a7, c7, a8, c8, rfl, rfl, rfl, rfl⟩ := id M.shape
  exact ⟨_, _, _, _, _, _, _, _, rfl, M, hb⟩
theorem wDrop17_at {up' : Bool} {i' E : Int} {ps' : List Pe} {is' : List Int} {ts' : List It} {ls' : List Te} (up : Bool) (i : Int) (h : NdAt lo hi w p q r s ps is ts ls) (hh : hi ≤ w.heap.size) (k : Int) (hE : wrE ⟨up, i, ps, is, ts, ls⟩ k 0 true = E) (hN : wrN ⟨up, i, ps, is, ts, ls⟩ k 0 true = ⟨up', i', ps', is', ts', ls'⟩) :
    Calls Try.prog 11 #[.agg #[.bool up, .int .i64 i, p, q, r, s], .int .i64 k] w fun e w' => ∃ a5 c5 a6 c6 a7 c7 a8 c8, e = .returned (.tuple #[.agg #[.bool up', .int .i64 i', .slice a5 ps'.length c5, .slice a6 is'.length c6, .slice a7 ts'.length c7, .slice a8 ls'.length c8], .int .i64 E]) ∧
      NdAt w.heap.size w'.heap.size w' (.slice a5 ps'.length c5) (.slice a6 is'.length c6) (.slice a7 ts'.length c7) (.slice a8 ls'.length c8) ps' is' ts' ls' ∧ Below w.heap.size w w' := by
  have H := wDrop17_any up i h hh k
  rw [hE, hN] at H
  refine H.mono ?_
  rintro e w1 ⟨v, rfl, N, hb⟩
  obtain ⟨p1, q1, r1, s1, rfl, M⟩ := N.out
  obtain ⟨a5, c5, a6, c6, a7, c7, a8, c8, rfl, rfl, rfl, rfl⟩ := id M.shape
  exact ⟨_, _, _, _, _, _, _, _, rfl, M, hb⟩
theorem rNPut_at {up' : Bool} {i' E : Int} {ps' : List Pe} {is' : List Int} {ts' : List It} {ls' : List Te} (up : Bool) (i : Int) (h : NdAt lo hi w p q r s ps is ts ls) (hh : hi ≤ w.heap.size) (h1 : ps.length * 16 ≤ 140737488351232) (h2 : is.length * 8 ≤ 140737488351232) (h3 : ts.length * 40 ≤ 140737488351232) (h4 : ls.length * 24 ≤ 140737488351232) (k x : Int) (hE : wrE ⟨up, i, ps, is, ts, ls⟩ k x false = E) (hN : wrN ⟨up, i, ps, is, ts, ls⟩ k x false = ⟨up', i', ps', is', ts', ls'⟩) :
    Calls Try.prog 10 #[.agg #[.bool up, .int .i64 i, p, q, r, s], .int .i64 k, .int .i64 x] w fun e w' => ∃ a5 c5 a6 c6 a7 c7 a8 c8, e = .returned (.tuple #[.agg #[.bool up', .int .i64 i', .slice a5 ps'.length c5, .slice a6 is'.length c6, .slice a7 ts'.length c7, .slice a8 ls'.length c8], .int .i64 E]) ∧
      NdAt w.heap.size w'.heap.size w' (.slice a5 ps'.length c5) (.slice a6 is'.length c6) (.slice a7 ts'.length c7) (.slice a8 ls'.length c8) ps' is' ts' ls' ∧ Below w.heap.size w w' := by
  have H := rNPut_any up i h hh h1 h2 h3 h4 k x
  rw [hE, hN] at H
  refine H.mono ?_
  rintro e w1 ⟨v, rfl, N, hb⟩
  obtain ⟨p1, q1, r1, s1, rfl, M⟩ := N.out
  obtain ⟨a5, c5, a6, c6, a7, c7, a8, c8, rfl, rfl, rfl, rfl⟩ := id M.shape
  exact ⟨_, _, _, _, _, _, _, _, rfl, M, hb⟩
theorem rNDrop_at {up' : Bool} {i' E : Int} {ps' : List Pe} {is' : List Int} {ts' : List It} {ls' : List Te} (up : Bool) (i : Int) (h : NdAt lo hi w p q r s ps is ts ls) (hh : hi ≤ w.heap.size) (h1 : ps.length * 16 ≤ 140737488351232) (h2 : is.length * 8 ≤ 140737488351232) (h3 : ts.length * 40 ≤ 140737488351232) (h4 : ls.length * 24 ≤ 140737488351232) (k : Int) (hE : wrE ⟨up, i, ps, is, ts, ls⟩ k 0 true = E) (hN : wrN ⟨up, i, ps, is, ts, ls⟩ k 0 true = ⟨up', i', ps', is', ts', ls'⟩) :
    Calls Try.prog 12 #[.agg #[.bool up, .int .i64 i, p, q, r, s], .int .i64 k] w fun e w' => ∃ a5 c5 a6 c6 a7 c7 a8 c8, e = .returned (.tuple #[.agg #[.bool up', .int .i64 i', .slice a5 ps'.length c5, .slice a6 is'.length c6, .slice a7 ts'.length c7, .slice a8 ls'.length c8], .int .i64 E]) ∧
      NdAt w.heap.size w'.heap.size w' (.slice a5 ps'.length c5) (.slice a6 is'.length c6) (.slice a7 ts'.length c7) (.slice a8 ls'.length c8) ps' is' ts' ls' ∧ Below w.heap.size w w' := by
  have H := rNDrop_any up i h hh h1 h2 h3 h4 k
  rw [hE, hN] at H
  refine H.mono ?_
  rintro e w1 ⟨v, rfl, N, hb⟩
  obtain ⟨p1, q1, r1, s1, rfl, M⟩ := N.out
  obtain ⟨a5, c5, a6, c6, a7, c7, a8, c8, rfl, rfl, rfl, rfl⟩ := id M.shape
  exact ⟨_, _, _, _, _, _, _, _, rfl, M, hb⟩
end


set_option maxHeartbeats 8000000 in
theorem awake17_any (w : World) :
    Calls Try.prog 16 #[] w fun e w' => e = .returned (.bool true) ∧ Below w.heap.size w w' := by
  have k0 := toHid (Below.refl w.heap.size w)
  go_enter Try.func16, Try.ntmps16
  go_upto_region 2 with (first
    | (go_at_call 17; refine (gNode_any _).mono ?_; rintro e wg1 ⟨ga, gb, gc, rfl, NG, hg1⟩)
    | (go_at_call 9; refine (wPut17_at (up' := true) (i' := 100) (E := 0) (ps' := gnP) (is' := [7]) (ts' := [⟨95, 1, 1, 1, false⟩, ⟨99, 4, 100, 7, false⟩, ⟨250, 2, 1, 2, false⟩]) (ls' := []) true 100 NG (Nat.le_refl _) 99 7 (by decide +kernel) (by kernel_rfl)).mono ?_; rintro e wp1 ⟨a5, c5, a6, c6, a7, c7, a8, c8, rfl, NP, hp1⟩))
  have B1 := Box.new wp1 #[.bool true, .int .i64 100, .slice a5 gnP.length c5, .slice a6 1 c6, .slice a7 3 c7, .slice a8 0 c8] 29
  have hb1 := (Below.refl _ wp1).onA (.cells #[.bool true, .int .i64 100, .slice a5 gnP.length c5, .slice a6 1 c6, .slice a7 3 c7, .slice a8 0 c8] 29)
  have k1 := toHid (((k0.out.on hg1).on hp1).on hb1)
  have R1 := toHid ((NP.ts.below hb1 (Nat.le_refl _)).wide (Nat.zero_le _) hb1.size)
  clear hb1 hp1 NP hg1 NG k0
  generalize (wp1.alloc (.cells #[.bool true, .int .i64 100, .slice a5 gnP.length c5, .slice a6 1 c6, .slice a7 3 c7, .slice a8 0 c8] 29)) = wd1 at R1 k1 B1 ⊢
  replace B1 := toHid B1
  go_upto_region 3 with (first
    | (go_at_call 17; refine (gNode_any _).mono ?_; rintro e wg2 ⟨ga, gb, gc, rfl, NG, hg2⟩)
    | (go_at_call 11; refine (wDrop17_at (up' := true) (i' := 100) (E := 0) (ps' := gnP) (is' := [7]) (ts' := [⟨5, 1, 100, 0, true⟩, ⟨95, 1, 1, 1, false⟩, ⟨99, 3, 1, 3, false⟩, ⟨250, 2, 1, 2, false⟩]) (ls' := []) true 100 NG (Nat.le_refl _) 5 (by decide +kernel) (by kernel_rfl)).mono ?_; rintro e wp2 ⟨a5, c5, a6, c6, a7, c7, a8, c8, rfl, NP, hp2⟩))
  have B2 := Box.new wp2 #[.bool true, .int .i64 100, .slice a5 gnP.length c5, .slice a6 1 c6, .slice a7 4 c7, .slice a8 0 c8] 29
  have hb2 := (Below.refl _ wp2).onA (.cells #[.bool true, .int .i64 100, .slice a5 gnP.length c5, .slice a6 1 c6, .slice a7 4 c7, .slice a8 0 c8] 29)
  have k2 := toHid (((k1.out.on hg2).on hp2).on hb2)
  have R2 := toHid ((NP.ts.below hb2 (Nat.le_refl _)).wide (Nat.zero_le _) hb2.size)
  have st2 := (Below.refl wd1.heap.size wd1).on ((hg2.on hp2).on hb2)
  replace B1 := toHid (B1.out.below st2)
  replace R1 := toHid ((R1.out.below st2 (Nat.le_refl _)).wide (Nat.le_refl _) st2.size)
  clear st2
  clear hb2 hp2 NP hg2 NG k1
  generalize (wp2.alloc (.cells #[.bool true, .int .i64 100, .slice a5 gnP.length c5, .slice a6 1 c6, .slice a7 4 c7, .slice a8 0 c8] 29)) = wd2 at R2 k2 B2 B1 R1 ⊢
  replace B2 := toHid B2
  go_upto_region 4 with (first
    | (go_at_call 9; refine (wPut17_at (lo := 0) (hi := 0) (up' := false) (i' := 0) (E := 1700) (ps' := []) (is' := []) (ts' := []) (ls' := []) false 9 NdAt.nil0 (Nat.zero_le _) 5 7 (by decide +kernel) (by kernel_rfl)).mono ?_; rintro e wp3 ⟨a5, c5, a6, c6, a7, c7, a8, c8, rfl, NP, hp3⟩))
  have B3 := Box.new wp3 #[.bool false, .int .i64 0, .slice a5 0 c5, .slice a6 0 c6, .slice a7 0 c7, .slice a8 0 c8] 29
  have hb3 := (Below.refl _ wp3).onA (.cells #[.bool false, .int .i64 0, .slice a5 0 c5, .slice a6 0 c6, .slice a7 0 c7, .slice a8 0 c8] 29)
  have k3 := toHid ((k2.out.on hp3).on hb3)
  have st3 : Below wd2.heap.size wd2 _ := (Below.refl _ wd2).on (hp3.on hb3)
  replace B1 := toHid (B1.out.below st3)
  replace R1 := toHid ((R1.out.below st3 (Nat.le_refl _)).wide (Nat.le_refl _) st3.size)
  replace B2 := toHid (B2.out.below st3)
  replace R2 := toHid ((R2.out.below st3 (Nat.le_refl _)).wide (Nat.le_refl _) st3.size)
  clear st3
  clear hb3 hp3 NP B3 k2
  generalize (wp3.alloc (.cells #[.bool false, .int .i64 0, .slice a5 0 c5, .slice a6 0 c6, .slice a7 0 c7, .slice a8 0 c8] 29)) = wd3 at k3 B1 R1 B2 R2 ⊢
  go_upto_region 5 with (first
    | (go_at_call 17; refine (gNode_any _).mono ?_; rintro e wg4 ⟨ga, gb, gc, rfl, NG, hg4⟩)
    | (go_at_call 9; refine (wPut17_at (up' := false) (i' := 0) (E := 1700) (ps' := []) (is' := []) (ts' := []) (ls' := []) true 100 NG (Nat.le_refl _) 5 256 (by decide +kernel) (by kernel_rfl)).mono ?_; rintro e wp4 ⟨a5, c5, a6, c6, a7, c7, a8, c8, rfl, NP, hp4⟩))
  have B4 := Box.new wp4 #[.bool false, .int .i64 0, .slice a5 0 c5, .slice a6 0 c6, .slice a7 0 c7, .slice a8 0 c8] 29
  have hb4 := (Below.refl _ wp4).onA (.cells #[.bool false, .int .i64 0, .slice a5 0 c5, .slice a6 0 c6, .slice a7 0 c7, .slice a8 0 c8] 29)
  have k4 := toHid (((k3.out.on hg4).on hp4).on hb4)
  have st4 : Below wd3.heap.size wd3 _ := (Below.refl _ wd3).on ((hg4.on hp4).on hb4)
  replace B1 := toHid (B1.out.below st4)
  replace R1 := toHid ((R1.out.below st4 (Nat.le_refl _)).wide (Nat.le_refl _) st4.size)
  replace B2 := toHid (B2.out.below st4)
  replace R2 := toHid ((R2.out.below st4 (Nat.le_refl _)).wide (Nat.le_refl _) st4.size)
  clear st4
  clear hb4 hp4 NP hg4 NG B4 k3
  generalize (wp4.alloc (.cells #[.bool false, .int .i64 0, .slice a5 0 c5, .slice a6 0 c6, .slice a7 0 c7, .slice a8 0 c8] 29)) = wd4 at k4 B1 R1 B2 R2 ⊢
  obtain ⟨p1, d1, e1, -, hp1⟩ := R1.out.its (Nat.le_refl _)
  obtain ⟨b1, f1, rfl, -, -, g1⟩ := hp1 (by decide)
  obtain ⟨p2, d2, e2, -, hp2⟩ := R2.out.its (Nat.le_refl _)
  obtain ⟨b2, f2, rfl, -, -, g2⟩ := hp2 (by decide)
  have u1 : ItAt wd4 b1 (f1 + 5) ⟨99, 4, 100, 7, false⟩ := g1 1 (by decide)
  have u2 : ItAt wd4 b2 f2 ⟨5, 1, 100, 0, true⟩ := g2 0 (by decide)
  cases e1
  cases e2
  clear g1 g2 hp1 hp2 R1 R2
  obtain ⟨m0, m1, m2, m3, m4⟩ := u1
  obtain ⟨n0, n1, n2, n3, n4⟩ := u2
  obtain ⟨x1, x2, x3⟩ := B1.out
  obtain ⟨y1, y2, y3⟩ := B2.out
  go_wp2_with (go_at_call 14; refine (num_any _ _).mono ?_; rintro e w' ⟨rfl, hw'⟩; subst w')
  go_ret
  exact ⟨rfl, k4.out⟩

end Go.Proofs.Ytgakfbdaiogflaa
