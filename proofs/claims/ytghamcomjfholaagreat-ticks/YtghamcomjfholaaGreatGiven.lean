
/-
  Contracts of package node: which nodes may be; a new one.
-/
import Derived.Test.YtghamcomjfholaaGreatNodeA
import Derived.Test.YtghamcomjfholaaGreatViewA
import Derived.Test.YtghamcomjfholaaGreatStoreB
import Derived.Test.YtghamcomjfholaaGreatPassB
import Derived.Test.YtghamcomjfholaaGreatNodeCopy
import Derived.Test.YtghamcomjfholaaGreatMsgRow
import Derived.Test.YtghamcomjfholaaGreatPassRef
namespace Go.Proofs.YtghamcomjfholaaGreat
open Go.ChangeShapes Go.WideShapes Go.ChangeAt Go.RowKit

theorem vwB_none (i : Int) : vwB i [] [] = plB i := by
  cases h : plB i with
  | true =>
    rw [vwB_iff]
    refine ⟨?_, by decide +kernel, by simp, by simp⟩
    rw [psB_iff]
    simp [h]
  | false =>
    rw [Bool.eq_false_iff]
    intro e
    have := (psB_iff.1 (vwB_iff.1 e).1).1
    rw [h] at this
    cases this

theorem ndB_down (i : Int) (ps : List Pe) (is : List Int) (ts : List It) (ls : List Te) : ndB ⟨false, i, ps, is, ts, ls⟩ = (vwB i ps is && barB ps.length is.length ts.length ls.length) := by
  have e : ndB ⟨false, i, ps, is, ts, ls⟩ = (decide (ps.length + is.length + ts.length + ls.length = 0) && plB i) := by simp [ndB]
  rw [e]
  by_cases h : ps.length + is.length + ts.length + ls.length = 0
  · have z1 : ps = [] := List.eq_nil_of_length_eq_zero (by omega)
    have z2 : is = [] := List.eq_nil_of_length_eq_zero (by omega)
    have z3 : ts = [] := List.eq_nil_of_length_eq_zero (by omega)
    have z4 : ls = [] := List.eq_nil_of_length_eq_zero (by omega)
    subst z1 z2 z3 z4
    simp [vwB_none, barB]
  · have k : barB ps.length is.length ts.length ls.length = false := by
      rw [Bool.eq_false_iff]
      intro k
      simp only [barB, Bool.and_eq_true, decide_eq_true_eq] at k
      omega
    rw [k, decide_eq_false h]
    simp
theorem ndB_up (i : Int) (ps : List Pe) (is : List Int) (ts : List It) (ls : List Te) : ndB ⟨true, i, ps, is, ts, ls⟩ = (vwB i ps is && (stB ts && lgB ls)) := by
  have e : ndB ⟨true, i, ps, is, ts, ls⟩ = (ls.all teB && (vwB i ps is && (stB ts && decide (ls.length ≤ 64)))) := by simp [ndB]
  rw [e, lgB]
  cases ls.all teB <;> simp

set_option maxHeartbeats 2000000 in
theorem nMay_down {lo hi : Nat} {w : World} {p q r s : Value} {ps : List Pe} {is : List Int} {ts : List It} {ls : List Te} (i : Int) (h : NdAt lo hi w p q r s ps is ts ls) (hh : hi ≤ w.heap.size) :
    Calls Tryz.prog 14 #[.agg #[.bool false, .int .i64 i, p, q, r, s]] w fun e w' => e = .returned (.bool (ndB ⟨false, i, ps, is, ts, ls⟩)) ∧ Below w.heap.size w w' := by
  rw [ndB_down]
  have H1 := toHid (fun o : Obj => vMay_any i (h.vw.alloc o) (Nat.le_trans hh (by simp)))
  obtain ⟨a, c, a', c', a2, c2, a3, c3, rfl, rfl, rfl, rfl⟩ := h.shape
  have H2 := toHid (fun W : World => nKnows_any false i a a' a2 a3 ps.length is.length ts.length ls.length c c' c2 c3 W)
  have B1 := toHid (fun (cs : Array Value) (t : TypeId) => Box.new w cs t)
  generalize vwB i ps is = r1 at *
  generalize barB ps.length is.length ts.length ls.length = r2 at *
  clear h
  cases r1 with
  | true =>
    go_enter Tryz.func14, Tryz.ntmps14
    go_wp2_with (first
      | (go_at_call 34; refine (H1.out _).mono ?_; rintro e w1 ⟨rfl, hb1⟩
         obtain ⟨b1, b2, b3⟩ := (B1.out _ _).below hb1)
      | (go_at_call 35; refine (H2.out _).mono ?_; rintro e w2 ⟨rfl, hb2⟩))
    go_ret
    exact ⟨by simp, (((Below.refl _ w).onA _).on hb1).on hb2⟩
  | false =>
    go_enter Tryz.func14, Tryz.ntmps14
    go_wp2_with (first
      | (go_at_call 34; refine (H1.out _).mono ?_; rintro e w1 ⟨rfl, hb1⟩
         obtain ⟨b1, b2, b3⟩ := (B1.out _ _).below hb1))
    go_ret
    exact ⟨by simp, ((Below.refl _ w).onA _).on hb1⟩

set_option maxHeartbeats 2000000 in
theorem nMay_up {lo hi : Nat} {w : World} {p q r s : Value} {ps : List Pe} {is : List Int} {ts : List It} {ls : List Te} (i : Int) (h : NdAt lo hi w p q r s ps is ts ls) (hh : hi ≤ w.heap.size) :
    Calls Tryz.prog 14 #[.agg #[.bool true, .int .i64 i, p, q, r, s]] w fun e w' => e = .returned (.bool (ndB ⟨true, i, ps, is, ts, ls⟩)) ∧ Below w.heap.size w w' := by
  rw [ndB_up]
  have H1 := toHid (fun o : Obj => vMay_any i (h.vw.alloc o) (Nat.le_trans hh (by simp)))
  have H2 := toHid (fun (o : Obj) (W : World) (hb : Below (w.alloc o).heap.size (w.alloc o) W) => sMay_any ((h.alloc o).below hb (Nat.le_trans hh (by simp))).ts (Nat.le_trans (Nat.le_trans hh (by simp)) hb.size))
  have H3 := toHid (fun (o : Obj) (W : World) (hb : Below (w.alloc o).heap.size (w.alloc o) W) => nLog_any ((h.alloc o).below hb (Nat.le_trans hh (by simp))).ls (Nat.le_trans (Nat.le_trans hh (by simp)) hb.size))
  obtain ⟨a, c, a', c', a2, c2, a3, c3, rfl, rfl, rfl, rfl⟩ := h.shape
  have B1 := toHid (fun (cs : Array Value) (t : TypeId) => Box.new w cs t)
  generalize vwB i ps is = r1 at *
  generalize stB ts = r2 at *
  generalize lgB ls = r3 at *
  clear h
  cases r1 with
  | true =>
    cases r2 with
    | true =>
      go_enter Tryz.func14, Tryz.ntmps14
      go_wp2_with (first
        | (go_at_call 34; refine (H1.out _).mono ?_; rintro e w1 ⟨rfl, hb1⟩
           obtain ⟨b1, b2, b3⟩ := (B1.out _ _).below hb1)
        | (go_at_call 36; refine (H2.out _ _ hb1).mono ?_; rintro e w2 ⟨rfl, hb2⟩
           replace hb2 := hb1.on hb2
           clear hb1 b1 b2 b3
           obtain ⟨b1, b2, b3⟩ := (B1.out _ _).below hb2)
        | (go_at_call 37; refine (H3.out _ _ hb2).mono ?_; rintro e w3 ⟨rfl, hb3⟩))
      go_ret
      exact ⟨by simp, (((Below.refl _ w).onA _).on hb2).on hb3⟩
    | false =>
      go_enter Tryz.func14, Tryz.ntmps14
      go_wp2_with (first
        | (go_at_call 34; refine (H1.out _).mono ?_; rintro e w1 ⟨rfl, hb1⟩
           obtain ⟨b1, b2, b3⟩ := (B1.out _ _).below hb1)
        | (go_at_call 36; refine (H2.out _ _ hb1).mono ?_; rintro e w2 ⟨rfl, hb2⟩
           replace hb2 := hb1.on hb2
           clear hb1 b1 b2 b3
           obtain ⟨b1, b2, b3⟩ := (B1.out _ _).below hb2))
      go_ret
      exact ⟨by simp, ((Below.refl _ w).onA _).on hb2⟩
  | false =>
    go_enter Tryz.func14, Tryz.ntmps14
    go_wp2_with (first
      | (go_at_call 34; refine (H1.out _).mono ?_; rintro e w1 ⟨rfl, hb1⟩
         obtain ⟨b1, b2, b3⟩ := (B1.out _ _).below hb1))
    go_ret
    exact ⟨by simp, ((Below.refl _ w).onA _).on hb1⟩

theorem nMay_any {lo hi : Nat} {w : World} {p q r s : Value} {ps : List Pe} {is : List Int} {ts : List It} {ls : List Te} (up : Bool) (i : Int) (h : NdAt lo hi w p q r s ps is ts ls) (hh : hi ≤ w.heap.size) :
    Calls Tryz.prog 14 #[.agg #[.bool up, .int .i64 i, p, q, r, s]] w fun e w' => e = .returned (.bool (ndB ⟨up, i, ps, is, ts, ls⟩)) ∧ Below w.heap.size w w' := by
  cases up with
  | false => exact nMay_down i h hh
  | true => exact nMay_up i h hh
/-! ### A new one -/
end Go.Proofs.YtghamcomjfholaaGreat

namespace Go.Proofs.YtghamcomjfholaaGreat
open Go.ChangeShapes Go.WideShapes Go.ChangeAt Go.RowKit

def gnP : List Pe := [⟨101, 2⟩, ⟨200, 0⟩, ⟨90, 1⟩]
def gnT : List It := [⟨95, 1, 1, 1, false⟩, ⟨99, 3, 1, 3, false⟩, ⟨250, 2, 1, 2, false⟩]

section at_
variable {lo hi : Nat} {w : World} {v : Value} {ids xs : List Int} {i : Int}
end at_

end Go.Proofs.YtghamcomjfholaaGreat

namespace Go.Proofs.YtghamcomjfholaaGreat
open Go.ChangeShapes Go.WideShapes Go.ChangeAt Go.RowKit

theorem RowI.up {w w' : World} {v : Value} {xs : List Int} (h : RowI 0 w.heap.size w v xs) (hb : Below w.heap.size w w') : RowI 0 w'.heap.size w' v xs := (h.below hb (Nat.le_refl _)).wide (Nat.le_refl _) hb.size
theorem LentI.up {w w' : World} {v : Value} {xs : List Int} (h : LentI 0 w.heap.size w v xs) (hb : Below w.heap.size w w') : LentI 0 w'.heap.size w' v xs := by
  obtain ⟨g, cap, e, hl, hc, h1, h2, h3⟩ := h.below hb (Nat.le_refl _)
  exact ⟨g, cap, e, hl, hc, h1, Nat.lt_of_lt_of_le h2 hb.size, h3⟩
theorem LentI.all {lo hi : Nat} {w : World} {v : Value} {xs : List Int} (h : LentI lo hi w v xs) (hh : hi ≤ w.heap.size) : LentI 0 w.heap.size w v xs := by
  obtain ⟨g, cap, e, hl, hc, h1, h2, h3⟩ := h
  exact ⟨g, cap, e, hl, hc, Nat.zero_le _, Nat.lt_of_lt_of_le h2 hh, h3⟩
theorem LentI.only {lo hi lo' hi' : Nat} {w w' : World} {v : Value} {zs : List Int} (h : LentI lo hi w v zs) (hw : Only lo' hi' w w') (hd : hi ≤ lo' ∨ hi' ≤ lo) : LentI lo hi w' v zs := by
  obtain ⟨g, cap, e, hl, hc, h1, h2, h3⟩ := h
  exact ⟨g, cap, e, hl, hc, h1, h2, fun j hj => ⟨(hw.cell g _ (by omega)).trans (h3 j hj).1, (hw.frozen g _).trans (h3 j hj).2⟩⟩
theorem NdAt.up {w w' : World} {p q r s : Value} {ps : List Pe} {is : List Int} {ts : List It} {ls : List Te} (h : NdAt 0 w.heap.size w p q r s ps is ts ls) (hb : Below w.heap.size w w') : NdAt 0 w'.heap.size w' p q r s ps is ts ls := (h.below hb (Nat.le_refl _)).wide (Nat.le_refl _) hb.size

/-- Six cells of a block written over, one behind the other. -/
theorem Box.set6 {w : World} {x : Nat} {z0 z1 z2 z3 z4 z5 : Value} (h : Box w x #[z0, z1, z2, z3, z4, z5]) (v0 v1 v2 v3 v4 v5 : Value) :
    Box ((((((w.setCell ⟨x, 0, none⟩ v0).setCell ⟨x, 1, none⟩ v1).setCell ⟨x, 2, none⟩ v2).setCell ⟨x, 3, none⟩ v3).setCell ⟨x, 4, none⟩ v4).setCell ⟨x, 5, none⟩ v5) x #[v0, v1, v2, v3, v4, v5] ∧
      Only x (x + 1) w ((((((w.setCell ⟨x, 0, none⟩ v0).setCell ⟨x, 1, none⟩ v1).setCell ⟨x, 2, none⟩ v2).setCell ⟨x, 3, none⟩ v3).setCell ⟨x, 4, none⟩ v4).setCell ⟨x, 5, none⟩ v5) :=
  ⟨((((((h.setS (ys := #[v0, z1, z2, z3, z4, z5]) 0 v0 (by simp) (by simp)).setS (ys := #[v0, v1, z2, z3, z4, z5]) 1 v1 (by simp) (by simp)).setS (ys := #[v0, v1, v2, z3, z4, z5]) 2 v2 (by simp) (by simp)).setS (ys := #[v0, v1, v2, v3, z4, z5]) 3 v3 (by simp) (by simp)).setS (ys := #[v0, v1, v2, v3, v4, z5]) 4 v4 (by simp) (by simp)).setS (ys := #[v0, v1, v2, v3, v4, v5]) 5 v5 (by simp) (by simp)),
    ((((((Only.refl x (x + 1) w).setCell (b := x) (o := 0) (Nat.le_refl _) (Nat.lt_succ_self _) v0).setCell (b := x) (o := 1) (Nat.le_refl _) (Nat.lt_succ_self _) v1).setCell (b := x) (o := 2) (Nat.le_refl _) (Nat.lt_succ_self _) v2).setCell (b := x) (o := 3) (Nat.le_refl _) (Nat.lt_succ_self _) v3).setCell (b := x) (o := 4) (Nat.le_refl _) (Nat.lt_succ_self _) v4).setCell (b := x) (o := 5) (Nat.le_refl _) (Nat.lt_succ_self _) v5⟩

end Go.Proofs.YtghamcomjfholaaGreat

namespace Go.Proofs.YtghamcomjfholaaGreat
open Go.ChangeShapes Go.WideShapes Go.ChangeAt Go.RowKit

/-- An item of a key, so new. -/
theorem gIt_any (k c : Int) (w : World) :
    Calls Tryz.prog 54 #[.int .i64 k, .int .i64 c] w fun e w' => e = .returned (.agg #[.int .i64 k, .int .i64 c, .int .i64 1, .int .i64 (c % 256), .bool false]) ∧ Below w.heap.size w w' := by
  have e1 : bits .and .i64 c 255 = c % 256 := and255 c
  go_enter Tryz.func54, Tryz.ntmps54
  go_wp2
  refine bodyPost_ret (v := .agg #[.int .i64 k, .int .i64 c, .int .i64 1, .int .i64 (c % 256), .bool false]) (by simp [results, Tryz.results54, go_sem]) rfl ?_
  exact ⟨rfl, (Below.refl _ w).onA _⟩

set_option maxHeartbeats 2000000 in
theorem gNode_any (w : World) :
    Calls Tryz.prog 32 #[] w fun e w' => ∃ a b c, e = .returned (.agg #[.bool true, .int .i64 100, .slice a 3 3, .slice b 1 1, .slice c 3 3, .slice none 0 0]) ∧
      NdAt w.heap.size w'.heap.size w' (.slice a 3 3) (.slice b 1 1) (.slice c 3 3) (.slice none 0 0) gnP [7] gnT [] ∧ Below w.heap.size w w' := by
  have BZ := toHid (Box.new w #[.bool false, .int .i64 0, .slice none 0 0, .slice none 0 0, .slice none 0 0, .slice none 0 0] 29)
  have hB := toHid ((Below.refl _ w).onA (.cells #[.bool false, .int .i64 0, .slice none 0 0, .slice none 0 0, .slice none 0 0, .slice none 0 0] 29))
  have hzA : (w.alloc (.cells #[.bool false, .int .i64 0, .slice none 0 0, .slice none 0 0, .slice none 0 0, .slice none 0 0] 29)).heap.size = w.heap.size + 1 := by simp
  have t1 := trivial
  have t2 := trivial
  go_enter Tryz.func32, Tryz.ntmps32
  go_upto_region 1 with (fail)
  generalize w.alloc (.cells #[.bool false, .int .i64 0, .slice none 0 0, .slice none 0 0, .slice none 0 0, .slice none 0 0] 29) = wA at BZ hB hzA ⊢
  have C1 := toHid ((Box.new wA #[.int .i64 101, .int .i64 2, .int .i64 200, .int .i64 0, .int .i64 90, .int .i64 1] 72).alloc (.cells #[.int .i64 7] 3))
  have C2 := toHid (Box.new1 wA (.cells #[.int .i64 101, .int .i64 2, .int .i64 200, .int .i64 0, .int .i64 90, .int .i64 1] 72) #[.int .i64 7] 3)
  go_wp2_with (first
    | (go_at_call 54; clear t1; refine (gIt_any _ _ _).mono ?_; rintro e w1 ⟨rfl, h1⟩)
    | (go_at_call 54; clear t2; refine (gIt_any _ _ _).mono ?_; rintro e w2 ⟨rfl, h2⟩)
    | (go_at_call 54; refine (gIt_any _ _ _).mono ?_; rintro e w3 ⟨rfl, h3⟩
       have k3 := (h1.on h2).on h3
       clear h1 h2 h3
       have D1 := C1.out.below k3
       have D2 := C2.out.below k3
       have hk := (((Below.refl _ wA).onA _).onA _).on k3
       clear k3
       obtain ⟨b1, b2, b3⟩ := BZ.out.below hk))
  have hk3 := hB.out.on hk
  have z3 : w.heap.size + 1 + 1 < w3.heap.size := by have := D2.1; omega
  clear hk
  rw [hzA] at D1 D2
  have S5 := ((((((Only.refl w.heap.size (w.heap.size + 1) w3).setCell (o := 0) (Nat.le_refl _) (Nat.lt_succ_self _) (.bool true)).setCell (o := 1) (Nat.le_refl _) (Nat.lt_succ_self _) (.int .i64 100)).setCell (o := 2) (Nat.le_refl _) (Nat.lt_succ_self _) (.slice (some ⟨w.heap.size + 1, 0, none⟩) 3 3)).setCell (o := 3) (Nat.le_refl _) (Nat.lt_succ_self _) (.slice (some ⟨w.heap.size + 1 + 1, 0, none⟩) 1 1)).setCell (o := 4) (Nat.le_refl _) (Nat.lt_succ_self _) (.slice (some ⟨w3.heap.size, 0, none⟩) 3 3)).setCell (o := 5) (Nat.le_refl _) (Nat.lt_succ_self _) (.slice none 0 0)
  have e5 := fun k => S5.cellA (.cells #[.int .i64 95, .int .i64 1, .int .i64 1, .int .i64 1, .bool false, .int .i64 99, .int .i64 3, .int .i64 1, .int .i64 3, .bool false, .int .i64 250, .int .i64 2, .int .i64 1, .int .i64 2, .bool false] 56) k (b := w.heap.size) (by omega)
  have hz5 := S5.size
  have C3 := Box.newAt (w := ((((((w3.setCell ⟨w.heap.size, 0, none⟩ (.bool true)).setCell ⟨w.heap.size, 1, none⟩ (.int .i64 100)).setCell ⟨w.heap.size, 2, none⟩ (.slice (some ⟨w.heap.size + 1, 0, none⟩) 3 3)).setCell ⟨w.heap.size, 3, none⟩ (.slice (some ⟨w.heap.size + 1 + 1, 0, none⟩) 1 1)).setCell ⟨w.heap.size, 4, none⟩ (.slice (some ⟨w3.heap.size, 0, none⟩) 3 3)).setCell ⟨w.heap.size, 5, none⟩ (.slice none 0 0))) #[.int .i64 95, .int .i64 1, .int .i64 1, .int .i64 1, .bool false, .int .i64 99, .int .i64 3, .int .i64 1, .int .i64 3, .bool false, .int .i64 250, .int .i64 2, .int .i64 1, .int .i64 2, .bool false] 56 hz5.symm
  have N1 := (((Box.rowP gnP D1 rfl rfl (by decide)).only S5 (.inr (by omega))).alloc (.cells #[.int .i64 95, .int .i64 1, .int .i64 1, .int .i64 1, .bool false, .int .i64 99, .int .i64 3, .int .i64 1, .int .i64 3, .bool false, .int .i64 250, .int .i64 2, .int .i64 1, .int .i64 2, .bool false] 56) PeV_len).wide (lo' := w.heap.size) (hi' := w3.heap.size + 1) (by omega) (by omega)
  have N2 := (((Box.rowI [7] D2 rfl rfl (by decide)).only S5 (.inr (by omega))).alloc (.cells #[.int .i64 95, .int .i64 1, .int .i64 1, .int .i64 1, .bool false, .int .i64 99, .int .i64 3, .int .i64 1, .int .i64 3, .bool false, .int .i64 250, .int .i64 2, .int .i64 1, .int .i64 2, .bool false] 56)).wide (lo' := w.heap.size) (hi' := w3.heap.size + 1) (by omega) (by omega)
  have N3 := (Box.rowT gnT C3 rfl rfl (by decide)).wide (lo' := w.heap.size) (hi' := w3.heap.size + 1) (by omega) (by omega)
  have zz : w3.heap.size + 1 ≤ (World.alloc (((((w3.setCell ⟨w.heap.size, 0, none⟩ (.bool true)).setCell ⟨w.heap.size, 1, none⟩ (.int .i64 100)).setCell ⟨w.heap.size, 2, none⟩ (.slice (some ⟨w.heap.size + 1, 0, none⟩) 3 3)).setCell ⟨w.heap.size, 3, none⟩ (.slice (some ⟨w.heap.size + 1 + 1, 0, none⟩) 1 1)).setCell ⟨w.heap.size, 4, none⟩ (.slice (some ⟨w3.heap.size, 0, none⟩) 3 3) |>.setCell ⟨w.heap.size, 5, none⟩ (.slice none 0 0)) (.cells #[.int .i64 95, .int .i64 1, .int .i64 1, .int .i64 1, .bool false, .int .i64 99, .int .i64 3, .int .i64 1, .int .i64 3, .bool false, .int .i64 250, .int .i64 2, .int .i64 1, .int .i64 2, .bool false] 56)).heap.size := by simp
  refine bodyPost_ret (v := .agg #[.bool true, .int .i64 100, .slice (some ⟨w.heap.size + 1, 0, none⟩) 3 3, .slice (some ⟨w.heap.size + 1 + 1, 0, none⟩) 1 1, .slice (some ⟨w3.heap.size, 0, none⟩) 3 3, .slice none 0 0]) (by simp [results, Tryz.results32, go_sem, b2, e5]) rfl ?_
  exact ⟨_, _, _, rfl, NdAt.wide ⟨⟨N1, N2⟩, N3, RowC.nil0⟩ (Nat.le_refl _) zz, (hk3.trans S5.below).onA _⟩

end Go.Proofs.YtghamcomjfholaaGreat
