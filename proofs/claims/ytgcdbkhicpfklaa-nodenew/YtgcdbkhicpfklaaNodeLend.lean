
/-
  Rows and nodes carried on to a later world, with all memory there is for their blocks; six cells of a block written over.
-/
import Derived.Test.YtgcdbkhicpfklaaNodeLaw
namespace Go.Proofs.Ytgcdbkhicpfklaa
open Go.ChangeShapes Go.WideShapes Go.ChangeAt Go.RowKit

theorem RowI.up {w w' : World} {v : Value} {xs : List Int} (h : RowI 0 w.heap.size w v xs) (hb : Below w.heap.size w w') : RowI 0 w'.heap.size w' v xs := (h.below hb (Nat.le_refl _)).wide (Nat.le_refl _) hb.size
theorem LentI.up {w w' : World} {v : Value} {xs : List Int} (h : LentI 0 w.heap.size w v xs) (hb : Below w.heap.size w w') : LentI 0 w'.heap.size w' v xs := by
  obtain ⟨g, cap, e, hl, hc, h1, h2, h3⟩ := h.below hb (Nat.le_refl _)
  exact ⟨g, cap, e, hl, hc, h1, Nat.lt_of_lt_of_le h2 hb.size, h3⟩
theorem LentI.all {lo hi : Nat} {w : World} {v : Value} {xs : List Int} (h : LentI lo hi w v xs) (hh : hi ≤ w.heap.size) : LentI 0 w.heap.size w v xs := by
  obtain ⟨g, cap, e, hl, hc, h1, h2, h3⟩ := h
  exact ⟨g, cap, e, hl, hc, Nat.zero_le _, Nat.lt_of_lt_of_le h2 hh, h3⟩
theorem LentI.only {lo hi lo' hi' : Nat} {w w' : World} {v : Value} {zs : List Int} (h : LentI lo hi w v zs) (hw : Only lo' hi' w w') (hd : hi ≤ lo' ∨ hi' ≤ lo) : LentI lo hi w' v zs := by
  obtain ⟨g, cap, e, hl, hc, h1, h2, h3⟩ := h
  exact ⟨g, cap, e, hl, hc, h1, h2, fun j hj => ⟨(hw.cell g _ (by omega)).trans (h3 j hj).1, (hw.frozen g _).trans (h3 j hj).2⟩⟩
theorem NdAt.up {w w' : World} {p q r s : Value} {ps : List Pe} {is : List Int} {ts : List It} {ls : List Te} (h : NdAt 0 w.heap.size w p q r s ps is ts ls) (hb : Below w.heap.size w w') : NdAt 0 w'.heap.size w' p q r s ps is ts ls := (h.below hb (Nat.le_refl _)).wide (Nat.le_refl _) hb.size

/-- Six cells of a block written over, one behind the other. -/
theorem Box.set6 {w : World} {x : Nat} {z0 z1 z2 z3 z4 z5 : Value} (h : Box w x #[z0, z1, z2, z3, z4, z5]) (v0 v1 v2 v3 v4 v5 : Value) :
    Box ((((((w.setCell ⟨x, 0, none⟩ v0).setCell ⟨x, 1, none⟩ v1).setCell ⟨x, 2, none⟩ v2).setCell ⟨x, 3, none⟩ v3).setCell ⟨x, 4, none⟩ v4).setCell ⟨x, 5, none⟩ v5) x #[v0, v1, v2, v3, v4, v5] ∧
      Only x (x + 1) w ((((((w.setCell ⟨x, 0, none⟩ v0).setCell ⟨x, 1, none⟩ v1).setCell ⟨x, 2, none⟩ v2).setCell ⟨x, 3, none⟩ v3).setCell ⟨x, 4, none⟩ v4).setCell ⟨x, 5, none⟩ v5) :=
  ⟨((((((h.setS (ys := #[v0, z1, z2, z3, z4, z5]) 0 v0 (by simp) (by simp)).setS (ys := #[v0, v1, z2, z3, z4, z5]) 1 v1 (by simp) (by simp)).setS (ys := #[v0, v1, v2, z3, z4, z5]) 2 v2 (by simp) (by simp)).setS (ys := #[v0, v1, v2, v3, z4, z5]) 3 v3 (by simp) (by simp)).setS (ys := #[v0, v1, v2, v3, v4, z5]) 4 v4 (by simp) (by simp)).setS (ys := #[v0, v1, v2, v3, v4, v5]) 5 v5 (by simp) (by simp)),
    ((((((Only.refl x (x + 1) w).setCell (b := x) (o := 0) (Nat.le_refl _) (Nat.lt_succ_self _) v0).setCell (b := x) (o := 1) (Nat.le_refl _) (Nat.lt_succ_self _) v1).setCell (b := x) (o := 2) (Nat.le_refl _) (Nat.lt_succ_self _) v2).setCell (b := x) (o := 3) (Nat.le_refl _) (Nat.lt_succ_self _) v3).setCell (b := x) (o := 4) (Nat.le_refl _) (Nat.lt_succ_self _) v4).setCell (b := x) (o := 5) (Nat.le_refl _) (Nat.lt_succ_self _) v5⟩

theorem nNew_at {lo hi : Nat} {w : World} {v : Value} {ids : List Int} (hv : RowI lo hi w v ids) (hh : hi ≤ w.heap.size) (i : Int) {b : Bool} {x E : Int} {L : List Int} (h1 : (nnR i ids).isSome = b) (h2 : nnI i (nnR i ids) = x) (h3 : nnE (nnR i ids) = E) (h4 : (nnR i ids).getD [] = L) :
    Calls Try.prog 9 #[.int .i64 i, v] w fun e w' => ∃ u, e = .returned (.tuple #[.agg #[.bool b, .int .i64 x, .slice none 0 0, u, .slice none 0 0, .slice none 0 0], .int .i64 E]) ∧
      RowI w.heap.size w'.heap.size w' u L ∧ Below w.heap.size w w' := h1 ▸ h2 ▸ h3 ▸ h4 ▸ nNew_any hv hh i
theorem rNewNode_at {lo hi : Nat} {w : World} {v : Value} {ids : List Int} (hv : RowI lo hi w v ids) (hh : hi ≤ w.heap.size) (i : Int) {b : Bool} {x E : Int} {L : List Int} (h1 : (nnR i ids).isSome = b) (h2 : nnI i (nnR i ids) = x) (h3 : nnE (nnR i ids) = E) (h4 : (nnR i ids).getD [] = L) :
    Calls Try.prog 10 #[.int .i64 i, v] w fun e w' => ∃ u, e = .returned (.tuple #[.agg #[.bool b, .int .i64 x, .slice none 0 0, u, .slice none 0 0, .slice none 0 0], .int .i64 E]) ∧
      RowI w.heap.size w'.heap.size w' u L ∧ Below w.heap.size w w' := h1 ▸ h2 ▸ h3 ▸ h4 ▸ rNewNode_any hv hh i
theorem rNodeMay_is {lo hi : Nat} {w : World} {p q r s : Value} {ps : List Pe} {is : List Int} {ts : List It} {ls : List Te} {up : Bool} {i : Int} {x : Bool} (h : NdAt lo hi w p q r s ps is ts ls) (hh : hi ≤ w.heap.size)
    (h1 : ps.length * 16 ≤ 140737488351232) (h2 : is.length * 8 ≤ 140737488351232) (h3 : ts.length * 40 ≤ 140737488351232) (h4 : ls.length * 24 ≤ 140737488351232) (hx : ndB ⟨up, i, ps, is, ts, ls⟩ = x) :
    Calls Try.prog 14 #[.agg #[.bool up, .int .i64 i, p, q, r, s]] w fun e w' => e = .returned (.bool x) ∧ Below w.heap.size w w' := hx ▸ rNodeMay_any up i h hh h1 h2 h3 h4

theorem madeTe (n : Nat) : (madeCells (Value.agg #[.int .i64 0, .bool false, .int .i64 0]).cells (n * 3)).toList = (List.replicate n (⟨0, false, 0⟩ : Te)).flatMap TeV := by
  apply List.ext_getElem?
  intro j
  by_cases hj : j < n * 3
  · have hk : j / 3 < (List.replicate n (⟨0, false, 0⟩ : Te)).length := by rw [List.length_replicate]; omega
    have h2 := flat_at TeV_len (List.replicate n (⟨0, false, 0⟩ : Te)) (j / 3) (j % 3) hk (by omega)
    have e : j / 3 * 3 + j % 3 = j := by omega
    rw [e] at h2
    rw [h2, List.getElem_replicate]
    have h3 : j % 3 < 3 := by omega
    simp only [madeCells, Value.cells, Array.toList_map, List.getElem?_map, Array.toList_range, List.getElem?_range hj, Option.map_some]
    match j % 3, h3 with
    | 0, _ | 1, _ | 2, _ => simp [TeV]
    | n + 3, h3 => omega
  · rw [List.getElem?_eq_none (by simp [madeCells]; omega), List.getElem?_eq_none (by rw [flat_len TeV_len, List.length_replicate]; omega)]

/-- 'make([]api.Told, n)'. -/
theorem make_tolds {w : World} {ops : Array Oper} {rest : List Oper} {o : Oper} {a : Act} {Q : Exit → Act → World → Prop} (hgd : o.guard = none) (l c : Operand)
    (ho : o.op = Op.makeSlice 27 l c) (L C : Int) (n : Nat) (hl : a.eval l = .int .i64 L) (hc : a.eval c = .int .i64 C) (hL : L = (n : Int)) (hC : C = (n : Int)) (hb : n * 24 ≤ 140737488355328)
    (h : ∀ w', RowE w.heap.size w'.heap.size w' (.slice (some ⟨w.heap.size, 0, none⟩) n n) (List.replicate n ⟨0, false, 0⟩) → Below w.heap.size w w' → wpList Try.prog ops Q rest (a.put o.dst (.slice (some ⟨w.heap.size, 0, none⟩) n n)) w') :
    wpList Try.prog ops Q (o :: rest) a w := by
  obtain ⟨i0, hi, hz0, hz1, hz2⟩ := info_parts Try.infoTe
  refine wpList_make_full _ hgd l c 27 ho w.heap.size 52 i0 _ 3 Try.underlying27 hi hz0 hz1 .i64 .i64 L C n hl hc hL hC (by rw [hz2]; omega) (by unfold maxLen; omega) (Nat.le_refl _) ?_
  intro w' hown hgr
  rw [madeTe] at hown
  exact h w' (RowC.of_owns (by decide) TeV_len hown) ((Below.refl _ w).grown hgr (Nat.le_refl _) (fun j hj => by cases hj))

end Go.Proofs.Ytgcdbkhicpfklaa
