
/-
  What the statements about nodes ask first: the node that they give, and that the program answers at some nodes at all.
-/
import Derived.Test.YtgcdbkhicpfklaaNodeB
import Derived.Test.YtgcdbkhicpfklaaNodeCopy
import Derived.Test.YtgcdbkhicpfklaaRowBox
import Derived.Test.YtgcdbkhicpfklaaNum
namespace Go.Proofs.Ytgcdbkhicpfklaa
open Go.ChangeShapes Go.WideShapes Go.ChangeAt Go.RowKit

/-- An item of a key, so new. -/
theorem it_any (k c : Int) (w : World) :
    Calls Try.prog 19 #[.int .i64 k, .int .i64 c] w fun e w' => e = .returned (.agg #[.int .i64 k, .int .i64 c, .int .i64 1, .int .i64 (c % 256), .bool false]) ∧ Below w.heap.size w w' := by
  have e1 : bits .and .i64 c 255 = c % 256 := and255 c
  go_enter Try.func19, Try.ntmps19
  go_wp2
  refine bodyPost_ret (v := .agg #[.int .i64 k, .int .i64 c, .int .i64 1, .int .i64 (c % 256), .bool false]) (by simp [results, Try.results19, go_sem]) rfl ?_
  exact ⟨rfl, (Below.refl _ w).onA _⟩

def gnP : List Pe := [⟨101, 2⟩, ⟨200, 0⟩, ⟨90, 1⟩]
def gnT : List It := [⟨95, 1, 1, 1, false⟩, ⟨99, 3, 1, 3, false⟩, ⟨250, 2, 1, 2, false⟩]

theorem Only.cellA {lo hi : Nat} {w w' : World} (S : Only lo hi w w') (o : Obj) (k : Nat) {b : Nat} (hb : b < w.heap.size) : (w'.alloc o).cell? ⟨b, k, none⟩ = w'.cell? ⟨b, k, none⟩ :=
  ((Below.refl _ w').onA o).cell (p := ⟨b, k, none⟩) (by show b < w'.heap.size; rw [S.size]; exact hb)

set_option maxHeartbeats 2000000 in
theorem node100_any (w : World) :
    Calls Try.prog 18 #[] w fun e w' => ∃ a b c, e = .returned (.agg #[.bool true, .int .i64 100, .slice a 3 3, .slice b 1 1, .slice c 3 3, .slice none 0 0]) ∧
      NdAt w.heap.size w'.heap.size w' (.slice a 3 3) (.slice b 1 1) (.slice c 3 3) (.slice none 0 0) gnP [7] gnT [] ∧ Below w.heap.size w w' := by
  have BZ := toHid (Box.new w #[.bool false, .int .i64 0, .slice none 0 0, .slice none 0 0, .slice none 0 0, .slice none 0 0] 29)
  have hB := toHid ((Below.refl _ w).onA (.cells #[.bool false, .int .i64 0, .slice none 0 0, .slice none 0 0, .slice none 0 0, .slice none 0 0] 29))
  have hzA : (w.alloc (.cells #[.bool false, .int .i64 0, .slice none 0 0, .slice none 0 0, .slice none 0 0, .slice none 0 0] 29)).heap.size = w.heap.size + 1 := by simp
  have t1 := trivial
  have t2 := trivial
  go_enter Try.func18, Try.ntmps18
  go_upto_region 1 with (fail)
  generalize w.alloc (.cells #[.bool false, .int .i64 0, .slice none 0 0, .slice none 0 0, .slice none 0 0, .slice none 0 0] 29) = wA at BZ hB hzA ⊢
  have C1 := toHid ((Box.new wA #[.int .i64 101, .int .i64 2, .int .i64 200, .int .i64 0, .int .i64 90, .int .i64 1] 56).alloc (.cells #[.int .i64 7] 3))
  have C2 := toHid (Box.new1 wA (.cells #[.int .i64 101, .int .i64 2, .int .i64 200, .int .i64 0, .int .i64 90, .int .i64 1] 56) #[.int .i64 7] 3)
  go_wp2_with (first
    | (go_at_call 19; clear t1; refine (it_any _ _ _).mono ?_; rintro e w1 ⟨rfl, h1⟩)
    | (go_at_call 19; clear t2; refine (it_any _ _ _).mono ?_; rintro e w2 ⟨rfl, h2⟩)
    | (go_at_call 19; refine (it_any _ _ _).mono ?_; rintro e w3 ⟨rfl, h3⟩
       have k3 := (h1.on h2).on h3
       clear h1 h2 h3
       have D1 := C1.out.below k3
       have D2 := C2.out.below k3
       have hk := (((Below.refl _ wA).onA _).onA _).on k3
       clear k3
       obtain ⟨b1, b2, b3⟩ := BZ.out.below hk))
  have hk3 := hB.out.on hk
  have z3 : w.heap.size + 1 + 1 < w3.heap.size := by have := D2.1; omega
  clear hk
  rw [hzA] at D1 D2
  have S5 := ((((((Only.refl w.heap.size (w.heap.size + 1) w3).setCell (o := 0) (Nat.le_refl _) (Nat.lt_succ_self _) (.bool true)).setCell (o := 1) (Nat.le_refl _) (Nat.lt_succ_self _) (.int .i64 100)).setCell (o := 2) (Nat.le_refl _) (Nat.lt_succ_self _) (.slice (some ⟨w.heap.size + 1, 0, none⟩) 3 3)).setCell (o := 3) (Nat.le_refl _) (Nat.lt_succ_self _) (.slice (some ⟨w.heap.size + 1 + 1, 0, none⟩) 1 1)).setCell (o := 4) (Nat.le_refl _) (Nat.lt_succ_self _) (.slice (some ⟨w3.heap.size, 0, none⟩) 3 3)).setCell (o := 5) (Nat.le_refl _) (Nat.lt_succ_self _) (.slice none 0 0)
  have e5 := fun k => S5.cellA (.cells #[.int .i64 95, .int .i64 1, .int .i64 1, .int .i64 1, .bool false, .int .i64 99, .int .i64 3, .int .i64 1, .int .i64 3, .bool false, .int .i64 250, .int .i64 2, .int .i64 1, .int .i64 2, .bool false] 49) k (b := w.heap.size) (by omega)
  have hz5 := S5.size
  have C3 := Box.newAt (w := ((((((w3.setCell ⟨w.heap.size, 0, none⟩ (.bool true)).setCell ⟨w.heap.size, 1, none⟩ (.int .i64 100)).setCell ⟨w.heap.size, 2, none⟩ (.slice (some ⟨w.heap.size + 1, 0, none⟩) 3 3)).setCell ⟨w.heap.size, 3, none⟩ (.slice (some ⟨w.heap.size + 1 + 1, 0, none⟩) 1 1)).setCell ⟨w.heap.size, 4, none⟩ (.slice (some ⟨w3.heap.size, 0, none⟩) 3 3)).setCell ⟨w.heap.size, 5, none⟩ (.slice none 0 0))) #[.int .i64 95, .int .i64 1, .int .i64 1, .int .i64 1, .bool false, .int .i64 99, .int .i64 3, .int .i64 1, .int .i64 3, .bool false, .int .i64 250, .int .i64 2, .int .i64 1, .int .i64 2, .bool false] 49 hz5.symm
  have N1 := (((Box.rowP gnP D1 rfl rfl (by decide)).only S5 (.inr (by omega))).alloc (.cells #[.int .i64 95, .int .i64 1, .int .i64 1, .int .i64 1, .bool false, .int .i64 99, .int .i64 3, .int .i64 1, .int .i64 3, .bool false, .int .i64 250, .int .i64 2, .int .i64 1, .int .i64 2, .bool false] 49) PeV_len).wide (lo' := w.heap.size) (hi' := w3.heap.size + 1) (by omega) (by omega)
  have N2 := (((Box.rowI [7] D2 rfl rfl (by decide)).only S5 (.inr (by omega))).alloc (.cells #[.int .i64 95, .int .i64 1, .int .i64 1, .int .i64 1, .bool false, .int .i64 99, .int .i64 3, .int .i64 1, .int .i64 3, .bool false, .int .i64 250, .int .i64 2, .int .i64 1, .int .i64 2, .bool false] 49)).wide (lo' := w.heap.size) (hi' := w3.heap.size + 1) (by omega) (by omega)
  have N3 := (Box.rowT gnT C3 rfl rfl (by decide)).wide (lo' := w.heap.size) (hi' := w3.heap.size + 1) (by omega) (by omega)
  have zz : w3.heap.size + 1 ≤ (World.alloc (((((w3.setCell ⟨w.heap.size, 0, none⟩ (.bool true)).setCell ⟨w.heap.size, 1, none⟩ (.int .i64 100)).setCell ⟨w.heap.size, 2, none⟩ (.slice (some ⟨w.heap.size + 1, 0, none⟩) 3 3)).setCell ⟨w.heap.size, 3, none⟩ (.slice (some ⟨w.heap.size + 1 + 1, 0, none⟩) 1 1)).setCell ⟨w.heap.size, 4, none⟩ (.slice (some ⟨w3.heap.size, 0, none⟩) 3 3) |>.setCell ⟨w.heap.size, 5, none⟩ (.slice none 0 0)) (.cells #[.int .i64 95, .int .i64 1, .int .i64 1, .int .i64 1, .bool false, .int .i64 99, .int .i64 3, .int .i64 1, .int .i64 3, .bool false, .int .i64 250, .int .i64 2, .int .i64 1, .int .i64 2, .bool false] 49)).heap.size := by simp
  refine bodyPost_ret (v := .agg #[.bool true, .int .i64 100, .slice (some ⟨w.heap.size + 1, 0, none⟩) 3 3, .slice (some ⟨w.heap.size + 1 + 1, 0, none⟩) 1 1, .slice (some ⟨w3.heap.size, 0, none⟩) 3 3, .slice none 0 0]) (by simp [results, Try.results18, go_sem, b2, e5]) rfl ?_
  exact ⟨_, _, _, rfl, NdAt.wide ⟨⟨N1, N2⟩, N3, RowC.nil0⟩ (Nat.le_refl _) zz, (hk3.trans S5.below).onA _⟩

/-- A node's items, taken out of its value. -/
theorem node_items (u i p q r s : Value) (w : World) (hr : ∃ a n c, r = .slice a n c) : Sem.run Try.prog (Instr.field 29 (.agg #[u, i, p, q, r, s]) 2) w = .ok r w := by
  obtain ⟨a, n, c, rfl⟩ := hr
  simp [Instr.field, asAgg, go_sem]

section at_
variable {lo hi : Nat} {w : World} {v : Value} {ids xs : List Int} {i : Int}
theorem nNew_yes (hv : RowI lo hi w v ids) (hh : hi ≤ w.heap.size) (h : nnR i ids = some xs) :
    Calls Try.prog 9 #[.int .i64 i, v] w fun e w' => ∃ u, e = .returned (.tuple #[.agg #[.bool true, .int .i64 i, .slice none 0 0, u, .slice none 0 0, .slice none 0 0], .int .i64 0]) ∧
      RowI w.heap.size w'.heap.size w' u xs ∧ Below w.heap.size w w' := by
  have H := nNew_any hv hh i
  rw [h] at H
  exact H
theorem nNew_none (hv : RowI lo hi w v ids) (hh : hi ≤ w.heap.size) (h : nnR i ids = none) :
    Calls Try.prog 9 #[.int .i64 i, v] w fun e w' => ∃ u, e = .returned (.tuple #[.agg #[.bool false, .int .i64 0, .slice none 0 0, u, .slice none 0 0, .slice none 0 0], .int .i64 1600]) ∧
      RowI w.heap.size w'.heap.size w' u [] ∧ Below w.heap.size w w' := by
  have H := nNew_any hv hh i
  rw [h] at H
  exact H
end at_

theorem NdAt.ofI {lo hi : Nat} {w : World} {v : Value} {is : List Int} (h : RowI lo hi w v is) : NdAt lo hi w (.slice none 0 0) v (.slice none 0 0) (.slice none 0 0) [] is [] [] := ⟨⟨RowC.nil0, h⟩, RowC.nil0, RowC.nil0⟩

set_option maxHeartbeats 8000000 in
theorem awake16_any (w : World) :
    Calls Try.prog 17 #[] w fun e w' => e = .returned (.bool true) ∧ Below w.heap.size w w' := by
  have R0 := Box.rowI (n := 4) [9, 5, 3, 9] (Box.new w #[.int .i64 9, .int .i64 5, .int .i64 3, .int .i64 9] 3) rfl rfl (by decide)
  have z0 : w.heap.size + 1 ≤ _ := (Box.new w #[.int .i64 9, .int .i64 5, .int .i64 3, .int .i64 9] 3).1
  have p1 := trivial
  have p2 := trivial
  have p3 := trivial
  have p4 := trivial
  go_enter Try.func17, Try.ntmps17
  go_wp2_with (first
    | (go_at_call 9; clear p1; refine (nNew_yes (xs := [3, 9]) R0 z0 (by decide +kernel)).mono ?_; rintro e w1 ⟨u1, rfl, r1, h1⟩
       obtain ⟨q1, d1, rfl, -⟩ := id r1.cap
       have k1 := toHid (((Below.refl _ w).onA _).on h1)
       have X1 := toHid (fun (cs : Array Value) (t : TypeId) => Box.new w1 cs t)
       have S1 := toHid (fun o : Obj => r1.alloc o)
       clear R0 z0 h1 r1)
    | (go_at_call 9; clear p2; refine (nNew_none (lo := 0) (hi := 0) (ids := []) RowI.nil0 (Nat.zero_le _) (by decide +kernel)).mono ?_; rintro e w2 ⟨u2, rfl, r2, h2⟩
       obtain ⟨q2, d2, rfl, -⟩ := id r2.cap
       clear r2
       have X2 := toHid ((X1.out _ _).below h2)
       have S2 := toHid ((S1.out _).below h2 (by simp))
       have k2 := toHid ((k1.out.onA _).on h2)
       have y2 : Hid (w1.heap.size ≤ w2.heap.size) := toHid (Nat.le_trans (by simp) h2.size)
       clear X1 S1 k1 h2)
    | (go_at_call 9
       refine (nNew_none (Box.rowI (n := 1) [-1] (Box.new1 w2 _ #[.int .i64 (-1)] 3) rfl rfl (by decide)) (by simp) (by decide +kernel)).mono ?_; rintro e w3 ⟨u3, rfl, r3, h3⟩
       obtain ⟨q3, d3, rfl, -⟩ := id r3.cap
       clear r3
       have X3 := ((X2.out.alloc _).alloc _).below h3
       have S3 := toHid (((S2.out.alloc _).alloc _).below h3 (Nat.le_trans y2.out (by simp; omega)))
       have k3 := toHid (((k2.out.onA _).onA _).on h3)
       have y3 : Hid (w1.heap.size ≤ w3.heap.size) := toHid (Nat.le_trans (Nat.le_trans y2.out (by simp; omega)) h3.size)
       obtain ⟨b1, b2, b3⟩ := X3
       clear X2 S2 k2 y2 h3)
    | (go_at_call 11
       refine (sameNode_same true 5 (NdAt.ofI ((S3.out.alloc _).alloc _)) (NdAt.ofI (Box.rowI (n := 2) [3, 9] (Box.new1 w3 _ #[.int .i64 3, .int .i64 9] 3) rfl rfl (by decide))) (Nat.le_trans y3.out (by simp; omega)) (by simp)).mono ?_; rintro e w4 ⟨rfl, h4⟩
       have k4 := toHid (((k3.out.onA _).onA _).on h4)
       clear S3 k3 y3 h4 b1 b2 b3)
    | (go_at_call 18; refine (node100_any _).mono ?_; rintro e w5 ⟨a, b, c, rfl, N5, h5⟩
       have k5 := toHid (k4.out.on h5)
       clear k4 h5)
    | (go_at_call 13; clear p3; refine (nMay_is (x := true) N5 (Nat.le_refl _) (by decide +kernel)).mono ?_; rintro e w6 ⟨rfl, h6⟩
       have k6 := toHid (k5.out.on h6)
       clear N5 k5 h6)
    | (go_at_call 13; clear p4; refine (nMay_is (x := true) (lo := 0) (hi := 0) NdAt.nil0 (Nat.zero_le _) (by decide +kernel)).mono ?_; rintro e w7 ⟨rfl, h7⟩
       have k7 := toHid (k6.out.on h7)
       clear k6 h7)
    | (go_at_call 13
       refine (nMay_is (x := false) ⟨⟨RowC.nil0, RowI.nil0⟩, RowC.nil0, Box.rowE (n := 1) [⟨0, false, 0⟩] (Box.new w7 #[.int .i64 0, .bool false, .int .i64 0] 52) rfl rfl (by decide)⟩ (by simp) (by decide +kernel)).mono ?_; rintro e w8 ⟨rfl, h8⟩)
    | (go_at_call 12; refine (num_any _ _).mono ?_; rintro e w' ⟨rfl, hw'⟩; subst w'))
  go_ret
  exact ⟨rfl, (k7.out.onA _).on h8⟩

end Go.Proofs.Ytgcdbkhicpfklaa
