
/-
  What the statements about nodes ask first: the node that they give, and that the program answers at some nodes at all.
-/
import Derived.Test.YtghamcomjfholaaNodeB
import Derived.Test.YtghamcomjfholaaNodeCopy
import Derived.Test.YtghamcomjfholaaRowBox
import Derived.Test.YtghamcomjfholaaVer
namespace Go.Proofs.Ytghamcomjfholaa
open Go.ChangeShapes Go.WideShapes Go.ChangeAt Go.RowKit

def gnP : List Pe := [⟨101, 2⟩, ⟨200, 0⟩, ⟨90, 1⟩]
def gnT : List It := [⟨95, 1, 1, 1, false⟩, ⟨99, 3, 1, 3, false⟩, ⟨250, 2, 1, 2, false⟩]

/-- A node's items, taken out of its value. -/
theorem node_items (u i p q r s : Value) (w : World) (hr : ∃ a n c, r = .slice a n c) : Sem.run Try.prog (Instr.field 30 (.agg #[u, i, p, q, r, s]) 2) w = .ok r w := by
  obtain ⟨a, n, c, rfl⟩ := hr
  simp [Instr.field, asAgg, go_sem]

section at_
variable {lo hi : Nat} {w : World} {v : Value} {ids xs : List Int} {i : Int}
end at_

end Go.Proofs.Ytghamcomjfholaa

namespace Go.Proofs.Ytghamcomjfholaa
open Go.ChangeShapes Go.WideShapes Go.ChangeAt Go.RowKit

theorem RowI.up {w w' : World} {v : Value} {xs : List Int} (h : RowI 0 w.heap.size w v xs) (hb : Below w.heap.size w w') : RowI 0 w'.heap.size w' v xs := (h.below hb (Nat.le_refl _)).wide (Nat.le_refl _) hb.size
theorem LentI.up {w w' : World} {v : Value} {xs : List Int} (h : LentI 0 w.heap.size w v xs) (hb : Below w.heap.size w w') : LentI 0 w'.heap.size w' v xs := by
  obtain ⟨g, cap, e, hl, hc, h1, h2, h3⟩ := h.below hb (Nat.le_refl _)
  exact ⟨g, cap, e, hl, hc, h1, Nat.lt_of_lt_of_le h2 hb.size, h3⟩
theorem LentI.all {lo hi : Nat} {w : World} {v : Value} {xs : List Int} (h : LentI lo hi w v xs) (hh : hi ≤ w.heap.size) : LentI 0 w.heap.size w v xs := by
  obtain ⟨g, cap, e, hl, hc, h1, h2, h3⟩ := h
  exact ⟨g, cap, e, hl, hc, Nat.zero_le _, Nat.lt_of_lt_of_le h2 hh, h3⟩
theorem LentI.only {lo hi lo' hi' : Nat} {w w' : World} {v : Value} {zs : List Int} (h : LentI lo hi w v zs) (hw : Only lo' hi' w w') (hd : hi ≤ lo' ∨ hi' ≤ lo) : LentI lo hi w' v zs := by
  obtain ⟨g, cap, e, hl, hc, h1, h2, h3⟩ := h
  exact ⟨g, cap, e, hl, hc, h1, h2, fun j hj => ⟨(hw.cell g _ (by omega)).trans (h3 j hj).1, (hw.frozen g _).trans (h3 j hj).2⟩⟩
theorem NdAt.up {w w' : World} {p q r s : Value} {ps : List Pe} {is : List Int} {ts : List It} {ls : List Te} (h : NdAt 0 w.heap.size w p q r s ps is ts ls) (hb : Below w.heap.size w w') : NdAt 0 w'.heap.size w' p q r s ps is ts ls := (h.below hb (Nat.le_refl _)).wide (Nat.le_refl _) hb.size

/-- Six cells of a block written over, one behind the other. -/
theorem Box.set6 {w : World} {x : Nat} {z0 z1 z2 z3 z4 z5 : Value} (h : Box w x #[z0, z1, z2, z3, z4, z5]) (v0 v1 v2 v3 v4 v5 : Value) :
    Box ((((((w.setCell ⟨x, 0, none⟩ v0).setCell ⟨x, 1, none⟩ v1).setCell ⟨x, 2, none⟩ v2).setCell ⟨x, 3, none⟩ v3).setCell ⟨x, 4, none⟩ v4).setCell ⟨x, 5, none⟩ v5) x #[v0, v1, v2, v3, v4, v5] ∧
      Only x (x + 1) w ((((((w.setCell ⟨x, 0, none⟩ v0).setCell ⟨x, 1, none⟩ v1).setCell ⟨x, 2, none⟩ v2).setCell ⟨x, 3, none⟩ v3).setCell ⟨x, 4, none⟩ v4).setCell ⟨x, 5, none⟩ v5) :=
  ⟨((((((h.setS (ys := #[v0, z1, z2, z3, z4, z5]) 0 v0 (by simp) (by simp)).setS (ys := #[v0, v1, z2, z3, z4, z5]) 1 v1 (by simp) (by simp)).setS (ys := #[v0, v1, v2, z3, z4, z5]) 2 v2 (by simp) (by simp)).setS (ys := #[v0, v1, v2, v3, z4, z5]) 3 v3 (by simp) (by simp)).setS (ys := #[v0, v1, v2, v3, v4, z5]) 4 v4 (by simp) (by simp)).setS (ys := #[v0, v1, v2, v3, v4, v5]) 5 v5 (by simp) (by simp)),
    ((((((Only.refl x (x + 1) w).setCell (b := x) (o := 0) (Nat.le_refl _) (Nat.lt_succ_self _) v0).setCell (b := x) (o := 1) (Nat.le_refl _) (Nat.lt_succ_self _) v1).setCell (b := x) (o := 2) (Nat.le_refl _) (Nat.lt_succ_self _) v2).setCell (b := x) (o := 3) (Nat.le_refl _) (Nat.lt_succ_self _) v3).setCell (b := x) (o := 4) (Nat.le_refl _) (Nat.lt_succ_self _) v4).setCell (b := x) (o := 5) (Nat.le_refl _) (Nat.lt_succ_self _) v5⟩

theorem rNodeMay_is {lo hi : Nat} {w : World} {p q r s : Value} {ps : List Pe} {is : List Int} {ts : List It} {ls : List Te} {up : Bool} {i : Int} {x : Bool} (h : NdAt lo hi w p q r s ps is ts ls) (hh : hi ≤ w.heap.size)
    (h1 : ps.length * 16 ≤ 140737488351232) (h2 : is.length * 8 ≤ 140737488351232) (h3 : ts.length * 40 ≤ 140737488351232) (h4 : ls.length * 24 ≤ 140737488351232) (hx : ndB ⟨up, i, ps, is, ts, ls⟩ = x) :
    Calls Try.prog 18 #[.agg #[.bool up, .int .i64 i, p, q, r, s]] w fun e w' => e = .returned (.bool x) ∧ Below w.heap.size w w' := hx ▸ rNodeMay_any up i h hh h1 h2 h3 h4

theorem madeTe (n : Nat) : (madeCells (Value.agg #[.int .i64 0, .bool false, .int .i64 0]).cells (n * 3)).toList = (List.replicate n (⟨0, false, 0⟩ : Te)).flatMap TeV := by
  apply List.ext_getElem?
  intro j
  by_cases hj : j < n * 3
  · have hk : j / 3 < (List.replicate n (⟨0, false, 0⟩ : Te)).length := by rw [List.length_replicate]; omega
    have h2 := flat_at TeV_len (List.replicate n (⟨0, false, 0⟩ : Te)) (j / 3) (j % 3) hk (by omega)
    have e : j / 3 * 3 + j % 3 = j := by omega
    rw [e] at h2
    rw [h2, List.getElem_replicate]
    have h3 : j % 3 < 3 := by omega
    simp only [madeCells, Value.cells, Array.toList_map, List.getElem?_map, Array.toList_range, List.getElem?_range hj, Option.map_some]
    match j % 3, h3 with
    | 0, _ | 1, _ | 2, _ => simp [TeV]
    | n + 3, h3 => omega
  · rw [List.getElem?_eq_none (by simp [madeCells]; omega), List.getElem?_eq_none (by rw [flat_len TeV_len, List.length_replicate]; omega)]

/-- 'make([]api.Told, n)'. -/
theorem make_tolds {w : World} {ops : Array Oper} {rest : List Oper} {o : Oper} {a : Act} {Q : Exit → Act → World → Prop} (hgd : o.guard = none) (l c : Operand)
    (ho : o.op = Op.makeSlice 28 l c) (L C : Int) (n : Nat) (hl : a.eval l = .int .i64 L) (hc : a.eval c = .int .i64 C) (hL : L = (n : Int)) (hC : C = (n : Int)) (hb : n * 24 ≤ 140737488355328)
    (h : ∀ w', RowE w.heap.size w'.heap.size w' (.slice (some ⟨w.heap.size, 0, none⟩) n n) (List.replicate n ⟨0, false, 0⟩) → Below w.heap.size w w' → wpList Try.prog ops Q rest (a.put o.dst (.slice (some ⟨w.heap.size, 0, none⟩) n n)) w') :
    wpList Try.prog ops Q (o :: rest) a w := by
  obtain ⟨i0, hi, hz0, hz1, hz2⟩ := info_parts Try.infoTe
  refine wpList_make_full _ hgd l c 28 ho w.heap.size 69 i0 _ 3 Try.underlying28 hi hz0 hz1 .i64 .i64 L C n hl hc hL hC (by rw [hz2]; omega) (by unfold maxLen; omega) (Nat.le_refl _) ?_
  intro w' hown hgr
  rw [madeTe] at hown
  exact h w' (RowC.of_owns (by decide) TeV_len hown) ((Below.refl _ w).grown hgr (Nat.le_refl _) (fun j hj => by cases hj))

end Go.Proofs.Ytghamcomjfholaa

namespace Go.Proofs.Ytghamcomjfholaa
open Go.ChangeShapes Go.WideShapes Go.ChangeAt Go.RowKit

/-- An item of a key, so new. -/
theorem gIt_any (k c : Int) (w : World) :
    Calls Try.prog 9 #[.int .i64 k, .int .i64 c] w fun e w' => e = .returned (.agg #[.int .i64 k, .int .i64 c, .int .i64 1, .int .i64 (c % 256), .bool false]) ∧ Below w.heap.size w w' := by
  have e1 : bits .and .i64 c 255 = c % 256 := and255 c
  go_enter Try.func9, Try.ntmps9
  go_wp2
  refine bodyPost_ret (v := .agg #[.int .i64 k, .int .i64 c, .int .i64 1, .int .i64 (c % 256), .bool false]) (by simp [results, Try.results9, go_sem]) rfl ?_
  exact ⟨rfl, (Below.refl _ w).onA _⟩

set_option maxHeartbeats 2000000 in
theorem gNode_any (w : World) :
    Calls Try.prog 8 #[] w fun e w' => ∃ a b c, e = .returned (.agg #[.bool true, .int .i64 100, .slice a 3 3, .slice b 1 1, .slice c 3 3, .slice none 0 0]) ∧
      NdAt w.heap.size w'.heap.size w' (.slice a 3 3) (.slice b 1 1) (.slice c 3 3) (.slice none 0 0) gnP [7] gnT [] ∧ Below w.heap.size w w' := by
  have BZ := toHid (Box.new w #[.bool false, .int .i64 0, .slice none 0 0, .slice none 0 0, .slice none 0 0, .slice none 0 0] 30)
  have hB := toHid ((Below.refl _ w).onA (.cells #[.bool false, .int .i64 0, .slice none 0 0, .slice none 0 0, .slice none 0 0, .slice none 0 0] 30))
  have hzA : (w.alloc (.cells #[.bool false, .int .i64 0, .slice none 0 0, .slice none 0 0, .slice none 0 0, .slice none 0 0] 30)).heap.size = w.heap.size + 1 := by simp
  have t1 := trivial
  have t2 := trivial
  go_enter Try.func8, Try.ntmps8
  go_upto_region 1 with (fail)
  generalize w.alloc (.cells #[.bool false, .int .i64 0, .slice none 0 0, .slice none 0 0, .slice none 0 0, .slice none 0 0] 30) = wA at BZ hB hzA ⊢
  have C1 := toHid ((Box.new wA #[.int .i64 101, .int .i64 2, .int .i64 200, .int .i64 0, .int .i64 90, .int .i64 1] 51).alloc (.cells #[.int .i64 7] 3))
  have C2 := toHid (Box.new1 wA (.cells #[.int .i64 101, .int .i64 2, .int .i64 200, .int .i64 0, .int .i64 90, .int .i64 1] 51) #[.int .i64 7] 3)
  go_wp2_with (first
    | (go_at_call 9; clear t1; refine (gIt_any _ _ _).mono ?_; rintro e w1 ⟨rfl, h1⟩)
    | (go_at_call 9; clear t2; refine (gIt_any _ _ _).mono ?_; rintro e w2 ⟨rfl, h2⟩)
    | (go_at_call 9; refine (gIt_any _ _ _).mono ?_; rintro e w3 ⟨rfl, h3⟩
       have k3 := (h1.on h2).on h3
       clear h1 h2 h3
       have D1 := C1.out.below k3
       have D2 := C2.out.below k3
       have hk := (((Below.refl _ wA).onA _).onA _).on k3
       clear k3
       obtain ⟨b1, b2, b3⟩ := BZ.out.below hk))
  have hk3 := hB.out.on hk
  have z3 : w.heap.size + 1 + 1 < w3.heap.size := by have := D2.1; omega
  clear hk
  rw [hzA] at D1 D2
  have S5 := ((((((Only.refl w.heap.size (w.heap.size + 1) w3).setCell (o := 0) (Nat.le_refl _) (Nat.lt_succ_self _) (.bool true)).setCell (o := 1) (Nat.le_refl _) (Nat.lt_succ_self _) (.int .i64 100)).setCell (o := 2) (Nat.le_refl _) (Nat.lt_succ_self _) (.slice (some ⟨w.heap.size + 1, 0, none⟩) 3 3)).setCell (o := 3) (Nat.le_refl _) (Nat.lt_succ_self _) (.slice (some ⟨w.heap.size + 1 + 1, 0, none⟩) 1 1)).setCell (o := 4) (Nat.le_refl _) (Nat.lt_succ_self _) (.slice (some ⟨w3.heap.size, 0, none⟩) 3 3)).setCell (o := 5) (Nat.le_refl _) (Nat.lt_succ_self _) (.slice none 0 0)
  have e5 := fun k => S5.cellA (.cells #[.int .i64 95, .int .i64 1, .int .i64 1, .int .i64 1, .bool false, .int .i64 99, .int .i64 3, .int .i64 1, .int .i64 3, .bool false, .int .i64 250, .int .i64 2, .int .i64 1, .int .i64 2, .bool false] 35) k (b := w.heap.size) (by omega)
  have hz5 := S5.size
  have C3 := Box.newAt (w := ((((((w3.setCell ⟨w.heap.size, 0, none⟩ (.bool true)).setCell ⟨w.heap.size, 1, none⟩ (.int .i64 100)).setCell ⟨w.heap.size, 2, none⟩ (.slice (some ⟨w.heap.size + 1, 0, none⟩) 3 3)).setCell ⟨w.heap.size, 3, none⟩ (.slice (some ⟨w.heap.size + 1 + 1, 0, none⟩) 1 1)).setCell ⟨w.heap.size, 4, none⟩ (.slice (some ⟨w3.heap.size, 0, none⟩) 3 3)).setCell ⟨w.heap.size, 5, none⟩ (.slice none 0 0))) #[.int .i64 95, .int .i64 1, .int .i64 1, .int .i64 1, .bool false, .int .i64 99, .int .i64 3, .int .i64 1, .int .i64 3, .bool false, .int .i64 250, .int .i64 2, .int .i64 1, .int .i64 2, .bool false] 35 hz5.symm
  have N1 := (((Box.rowP gnP D1 rfl rfl (by decide)).only S5 (.inr (by omega))).alloc (.cells #[.int .i64 95, .int .i64 1, .int .i64 1, .int .i64 1, .bool false, .int .i64 99, .int .i64 3, .int .i64 1, .int .i64 3, .bool false, .int .i64 250, .int .i64 2, .int .i64 1, .int .i64 2, .bool false] 35) PeV_len).wide (lo' := w.heap.size) (hi' := w3.heap.size + 1) (by omega) (by omega)
  have N2 := (((Box.rowI [7] D2 rfl rfl (by decide)).only S5 (.inr (by omega))).alloc (.cells #[.int .i64 95, .int .i64 1, .int .i64 1, .int .i64 1, .bool false, .int .i64 99, .int .i64 3, .int .i64 1, .int .i64 3, .bool false, .int .i64 250, .int .i64 2, .int .i64 1, .int .i64 2, .bool false] 35)).wide (lo' := w.heap.size) (hi' := w3.heap.size + 1) (by omega) (by omega)
  have N3 := (Box.rowT gnT C3 rfl rfl (by decide)).wide (lo' := w.heap.size) (hi' := w3.heap.size + 1) (by omega) (by omega)
  have zz : w3.heap.size + 1 ≤ (World.alloc (((((w3.setCell ⟨w.heap.size, 0, none⟩ (.bool true)).setCell ⟨w.heap.size, 1, none⟩ (.int .i64 100)).setCell ⟨w.heap.size, 2, none⟩ (.slice (some ⟨w.heap.size + 1, 0, none⟩) 3 3)).setCell ⟨w.heap.size, 3, none⟩ (.slice (some ⟨w.heap.size + 1 + 1, 0, none⟩) 1 1)).setCell ⟨w.heap.size, 4, none⟩ (.slice (some ⟨w3.heap.size, 0, none⟩) 3 3) |>.setCell ⟨w.heap.size, 5, none⟩ (.slice none 0 0)) (.cells #[.int .i64 95, .int .i64 1, .int .i64 1, .int .i64 1, .bool false, .int .i64 99, .int .i64 3, .int .i64 1, .int .i64 3, .bool false, .int .i64 250, .int .i64 2, .int .i64 1, .int .i64 2, .bool false] 35)).heap.size := by simp
  refine bodyPost_ret (v := .agg #[.bool true, .int .i64 100, .slice (some ⟨w.heap.size + 1, 0, none⟩) 3 3, .slice (some ⟨w.heap.size + 1 + 1, 0, none⟩) 1 1, .slice (some ⟨w3.heap.size, 0, none⟩) 3 3, .slice none 0 0]) (by simp [results, Try.results8, go_sem, b2, e5]) rfl ?_
  exact ⟨_, _, _, rfl, NdAt.wide ⟨⟨N1, N2⟩, N3, RowC.nil0⟩ (Nat.le_refl _) zz, (hk3.trans S5.below).onA _⟩

end Go.Proofs.Ytghamcomjfholaa
