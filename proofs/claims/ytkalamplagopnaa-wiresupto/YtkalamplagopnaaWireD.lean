
/-
  Contract of the program's own reader of an item.
-/
import Derived.Test.YtkalamplagopnaaWireC
namespace Go.Proofs.Ytkalamplagopnaa
open Go.ChangeShapes Go.WideShapes Go.ChangeAt Go.RowKit

set_option maxHeartbeats 4000000 in
theorem wReadItem_any {w : World} {bA bS : Nat} {L : List Int} {i : Nat} (hL : Byts L) (hm : L.length ≤ 140737488355328) (h : Rd w bA bS L i) :
    Calls Try.prog 43 #[.func (.func 50) #[] #[.pointer (some ⟨bA, 0, none⟩), .pointer (some ⟨bS, 0, none⟩)]] w fun e w' =>
      e = .returned (.agg #[.int .i64 (rdI L i).k, .int .i64 (rdI L i).c, .int .i64 (rdI L i).u, .int .i64 (rdI L i).x, .bool (rdI L i).g]) ∧ w.grownBy w' (some bA) := by
  have H0 := toHid (fun (W : World) (k : Rd W bA bS L (i + 0)) => wNext_any hL hm k)
  obtain ⟨z0, e0⟩ : ∃ z, L.getD (i + 0) 0 = z := ⟨_, rfl⟩
  have y0 : 0 ≤ z0 ∧ z0 < 256 := e0 ▸ (rdIds_few hL (i + 0)).2
  rw [e0] at H0
  have H1 := toHid (fun (W : World) (k : Rd W bA bS L (i + 1)) => wNext_any hL hm k)
  obtain ⟨z1, e1⟩ : ∃ z, L.getD (i + 1) 0 = z := ⟨_, rfl⟩
  have y1 : 0 ≤ z1 ∧ z1 < 256 := e1 ▸ (rdIds_few hL (i + 1)).2
  rw [e1] at H1
  have H2 := toHid (fun (W : World) (k : Rd W bA bS L (i + 2)) => wNext_any hL hm k)
  obtain ⟨z2, e2⟩ : ∃ z, L.getD (i + 2) 0 = z := ⟨_, rfl⟩
  have y2 : 0 ≤ z2 ∧ z2 < 256 := e2 ▸ (rdIds_few hL (i + 2)).2
  rw [e2] at H2
  have H3 := toHid (fun (W : World) (k : Rd W bA bS L (i + 3)) => wNext_any hL hm k)
  obtain ⟨z3, e3⟩ : ∃ z, L.getD (i + 3) 0 = z := ⟨_, rfl⟩
  have y3 : 0 ≤ z3 ∧ z3 < 256 := e3 ▸ (rdIds_few hL (i + 3)).2
  rw [e3] at H3
  have H4 := toHid (fun (W : World) (k : Rd W bA bS L (i + 4)) => wNext_any hL hm k)
  obtain ⟨z4, e4⟩ : ∃ z, L.getD (i + 4) 0 = z := ⟨_, rfl⟩
  have y4 : 0 ≤ z4 ∧ z4 < 256 := e4 ▸ (rdIds_few hL (i + 4)).2
  rw [e4] at H4
  have H5 := toHid (fun (W : World) (k : Rd W bA bS L (i + 5)) => wNext_any hL hm k)
  obtain ⟨z5, e5⟩ : ∃ z, L.getD (i + 5) 0 = z := ⟨_, rfl⟩
  have y5 : 0 ≤ z5 ∧ z5 < 256 := e5 ▸ (rdIds_few hL (i + 5)).2
  rw [e5] at H5
  have hI : rdI L i = ⟨z0, z1 + z2 * 256, z3, z4, decide (z5 = 1)⟩ := by
    rw [Nat.add_zero] at e0
    simp only [rdI, e0, e1, e2, e3, e4, e5]
  rw [hI]
  have t0 := trivial
  have t1 := trivial
  have t2 := trivial
  have t3 := trivial
  have t4 := trivial
  have t5 := trivial
  have hA := h.pos.1
  have hS := h.txt.1
  have n2 : w.heap.size ≠ bA := by omega
  have n3 : w.heap.size + 1 ≠ bA := by omega
  have m3 : w.heap.size + 1 ≠ bS := by omega
  have R0 := toHid (fun o1 o2 => ((h.alloc o1).alloc o2))
  have A0 := toHid (Box.new1 w (.cells #[.int .i64 0, .int .i64 0, .int .i64 0, .int .i64 0, .bool false] 26) #[.int .i64 0, .int .i64 0, .int .i64 0, .int .i64 0, .bool false] 26)
  have E0 := toHid ((Box.new w #[.int .i64 0, .int .i64 0, .int .i64 0, .int .i64 0, .bool false] 26).alloc (.cells #[.int .i64 0, .int .i64 0, .int .i64 0, .int .i64 0, .bool false] 26))
  have G0 := toHid (gb_alloc (gb_alloc (World.grownBy.refl w (some bA)) (.cells #[.int .i64 0, .int .i64 0, .int .i64 0, .int .i64 0, .bool false] 26)) (.cells #[.int .i64 0, .int .i64 0, .int .i64 0, .int .i64 0, .bool false] 26))
  replace R0 := toHid (R0.out (.cells #[.int .i64 0, .int .i64 0, .int .i64 0, .int .i64 0, .bool false] 26) (.cells #[.int .i64 0, .int .i64 0, .int .i64 0, .int .i64 0, .bool false] 26))
  obtain ⟨y10, y11⟩ := y1
  obtain ⟨y20, y21⟩ := y2
  have v1 : IntKind.i64.wrap (z2 * 256) = z2 * 256 := by rw [IntKind.wrap_i64]; omega
  have v2 : IntKind.i64.wrap (z1 + z2 * 256) = z1 + z2 * 256 := by rw [IntKind.wrap_i64]; omega
  clear hI e0 e1 e2 e3 e4 e5 h y0 y3 y4 y5
  go_enter Try.func43, Try.ntmps43
  go_upto_region 4 with (first
    | (go_at_call 50; clear t0; refine (H0.out _ (R0.out)).mono ?_; rintro e w1 ⟨rfl, R9, g9⟩
       have A9 := (A0.out).grown g9 n3
       have E9 := (E0.out).grown g9 n2
       have G9 := gb_trans G0.out g9
       obtain ⟨a1, a2, a3⟩ := id A9
       have R1 := toHid (R9.setO (x := w.heap.size + 1) 0 (.int .i64 z0) n3 m3)
       have A1 := toHid (A9.setS (ys := #[.int .i64 z0, .int .i64 0, .int .i64 0, .int .i64 0, .bool false]) 0 (.int .i64 z0) (by simp) (by simp))
       have E1 := toHid (E9.setO (w.heap.size + 1) 0 (.int .i64 z0) (by omega))
       have G1 := toHid (gb_new G9 (x := w.heap.size + 1) (by omega) 0 (.int .i64 z0))
       clear R9 g9 A9 E9 G9)
    | (go_at_call 50; clear t1; refine (H1.out _ (R1.out)).mono ?_; rintro e w2 ⟨rfl, R9, g9⟩
       have A9 := (A1.out).grown g9 n3
       have E9 := (E1.out).grown g9 n2
       have G9 := gb_trans G1.out g9
       clear a1 a2 a3; obtain ⟨a1, a2, a3⟩ := id A9
       have R2 := toHid (R9.setO (x := w.heap.size + 1) 1 (.int .i64 z1) n3 m3)
       have A2 := toHid (A9.setS (ys := #[.int .i64 z0, .int .i64 z1, .int .i64 0, .int .i64 0, .bool false]) 1 (.int .i64 z1) (by simp) (by simp))
       have E2 := toHid (E9.setO (w.heap.size + 1) 1 (.int .i64 z1) (by omega))
       have G2 := toHid (gb_new G9 (x := w.heap.size + 1) (by omega) 1 (.int .i64 z1))
       clear R9 g9 A9 E9 G9))
  go_region_with (first
    | (go_at_call 50; clear t2; refine (H2.out _ (R2.out.drewN 1)).mono ?_; rintro e w3 ⟨rfl, R9, g9⟩
       have A9 := (A2.out.drewN 1).grown g9 n3
       have E9 := (E2.out.drewN 1).grown g9 n2
       have G9 := gb_trans (gb_drew G2.out 1) g9
       clear a1 a2 a3; obtain ⟨a1, a2, a3⟩ := id A9
       have R3 := toHid (R9.setO (x := w.heap.size + 1) 1 (.int .i64 (z1 + z2 * 256)) n3 m3)
       have A3 := toHid (A9.setS (ys := #[.int .i64 z0, .int .i64 (z1 + z2 * 256), .int .i64 0, .int .i64 0, .bool false]) 1 (.int .i64 (z1 + z2 * 256)) (by simp) (by simp))
       have E3 := toHid (E9.setO (w.heap.size + 1) 1 (.int .i64 (z1 + z2 * 256)) (by omega))
       have G3 := toHid (gb_new G9 (x := w.heap.size + 1) (by omega) 1 (.int .i64 (z1 + z2 * 256)))
       clear R9 g9 A9 E9 G9))
  all_goals
    go_wp2_with (first
      | (go_at_call 50; clear t3; refine (H3.out _ (R3.out)).mono ?_; rintro e w4 ⟨rfl, R9, g9⟩
         have A9 := (A3.out).grown g9 n3
         have E9 := (E3.out).grown g9 n2
         have G9 := gb_trans G3.out g9
         clear a1 a2 a3; obtain ⟨a1, a2, a3⟩ := id A9
         have R4 := toHid (R9.setO (x := w.heap.size + 1) 2 (.int .i64 z3) n3 m3)
         have A4 := toHid (A9.setS (ys := #[.int .i64 z0, .int .i64 (z1 + z2 * 256), .int .i64 z3, .int .i64 0, .bool false]) 2 (.int .i64 z3) (by simp) (by simp))
         have E4 := toHid (E9.setO (w.heap.size + 1) 2 (.int .i64 z3) (by omega))
         have G4 := toHid (gb_new G9 (x := w.heap.size + 1) (by omega) 2 (.int .i64 z3))
         clear R9 g9 A9 E9 G9)
      | (go_at_call 50; clear t4; refine (H4.out _ (R4.out)).mono ?_; rintro e w5 ⟨rfl, R9, g9⟩
         have A9 := (A4.out).grown g9 n3
         have E9 := (E4.out).grown g9 n2
         have G9 := gb_trans G4.out g9
         clear a1 a2 a3; obtain ⟨a1, a2, a3⟩ := id A9
         have R5 := toHid (R9.setO (x := w.heap.size + 1) 3 (.int .i64 z4) n3 m3)
         have A5 := toHid (A9.setS (ys := #[.int .i64 z0, .int .i64 (z1 + z2 * 256), .int .i64 z3, .int .i64 z4, .bool false]) 3 (.int .i64 z4) (by simp) (by simp))
         have E5 := toHid (E9.setO (w.heap.size + 1) 3 (.int .i64 z4) (by omega))
         have G5 := toHid (gb_new G9 (x := w.heap.size + 1) (by omega) 3 (.int .i64 z4))
         clear R9 g9 A9 E9 G9)
      | (go_at_call 50; clear t5; refine (H5.out _ (R5.out)).mono ?_; rintro e w6 ⟨rfl, R9, g9⟩
         have A9 := (A5.out).grown g9 n3
         have E9 := (E5.out).grown g9 n2
         have G9 := gb_trans G5.out g9
         clear a1 a2 a3; obtain ⟨a1, a2, a3⟩ := id A9; obtain ⟨c1, c2, c3⟩ := id E9
         have R6 := toHid (R9.setO (x := w.heap.size + 1) 4 (.bool (z5 == 1)) n3 m3)
         have A6 := toHid (A9.setS (ys := #[.int .i64 z0, .int .i64 (z1 + z2 * 256), .int .i64 z3, .int .i64 z4, .bool (z5 == 1)]) 4 (.bool (z5 == 1)) (by simp) (by simp))
         have E6 := toHid (E9.setO (w.heap.size + 1) 4 (.bool (z5 == 1)) (by omega))
         have G6 := toHid (gb_new G9 (x := w.heap.size + 1) (by omega) 4 (.bool (z5 == 1)))
         clear R9 g9 A9 E9 G9))
    refine bodyPost_ret (v := .agg #[.int .i64 z0, .int .i64 (z1 + z2 * 256), .int .i64 z3, .int .i64 z4, .bool (z5 == 1)]) (by simp [results, Try.results43, go_sem, c2]) rfl ?_
    exact ⟨rfl, gb_new (gb_new (gb_new (gb_new (gb_new G6.out (Nat.le_refl _) _ _) (Nat.le_refl _) _ _) (Nat.le_refl _) _ _) (Nat.le_refl _) _ _) (Nat.le_refl _) _ _⟩

end Go.Proofs.Ytkalamplagopnaa
