
/-
  Contract of the program's own reader of a message, one theorem for each kind.
-/
import Derived.Test.YtkalamplagopnaaWireD
import Derived.Test.YtkalamplagopnaaSet5
namespace Go.Proofs.Ytkalamplagopnaa
open Go.ChangeShapes Go.WideShapes Go.ChangeAt Go.RowKit

set_option maxHeartbeats 4000000 in
theorem wRead0 {L : List Int} (hL : Byts L) (hm : L.length ≤ 140737488355328) {z1 z2 : Int} (e0 : L.getD 0 0 = 0) (e1 : L.getD 1 0 = z1) (e2 : L.getD 2 0 = z2) {is : List Int} (hIs : rdIds L 3 = is) (w : World) :
    Calls Try.prog 23 #[.string (sb L)] w fun e w' => ∃ p c, e = .returned (.agg #[.int .i64 0, .int .i64 z1, .int .i64 z2, .slice p is.length c, .int .i64 0, .int .i64 0, .int .i64 0, .int .i64 0, .int .i64 0, .bool false, .bool false]) ∧ RowI w.heap.size w'.heap.size w' (.slice p is.length c) is ∧ Below w.heap.size w w' := by
  have H0 := toHid (fun (W : World) (bA bS : Nat) (k : Rd W bA bS L 0) => wNext_any hL hm k)
  rw [e0] at H0
  have H1 := toHid (fun (W : World) (bA bS : Nat) (k : Rd W bA bS L 1) => wNext_any hL hm k)
  rw [e1] at H1
  have H2 := toHid (fun (W : World) (bA bS : Nat) (k : Rd W bA bS L 2) => wNext_any hL hm k)
  rw [e2] at H2
  clear e0 e1 e2
  have t0 := trivial
  have t1 := trivial
  have t2 := trivial
  have t3 := trivial
  go_enter Try.func23, Try.ntmps23
  go_wp2_with (first
      | (go_at_call 41; refine (wReading_any _).mono ?_; rintro e w0 ⟨bA, bS, rfl, R9, hA9, hS9, h9⟩
         have zA := R9.pos.1
         have zS := R9.txt.1
         simp only [World.size_alloc] at hA9 hS9
         have R0 := toHid (R9.alloc (.cells #[.int .i64 0, .int .i64 0, .int .i64 0, .slice none 0 0, .int .i64 0, .int .i64 0, .int .i64 0, .int .i64 0, .int .i64 0, .bool false, .bool false] 28))
         have A0 := toHid (Box.new w0 #[.int .i64 0, .int .i64 0, .int .i64 0, .slice none 0 0, .int .i64 0, .int .i64 0, .int .i64 0, .int .i64 0, .int .i64 0, .bool false, .bool false] 28)
         have E0 := toHid (((Box.new w #[.int .i64 0, .int .i64 0, .int .i64 0, .slice none 0 0, .int .i64 0, .int .i64 0, .int .i64 0, .int .i64 0, .int .i64 0, .bool false, .bool false] 28).below h9).alloc (.cells #[.int .i64 0, .int .i64 0, .int .i64 0, .slice none 0 0, .int .i64 0, .int .i64 0, .int .i64 0, .int .i64 0, .int .i64 0, .bool false, .bool false] 28))
         have G0 := toHid ((((Below.refl _ w).onA (.cells #[.int .i64 0, .int .i64 0, .int .i64 0, .slice none 0 0, .int .i64 0, .int .i64 0, .int .i64 0, .int .i64 0, .int .i64 0, .bool false, .bool false] 28)).on h9).onA (.cells #[.int .i64 0, .int .i64 0, .int .i64 0, .slice none 0 0, .int .i64 0, .int .i64 0, .int .i64 0, .int .i64 0, .int .i64 0, .bool false, .bool false] 28))
         have n2 : Hid (w.heap.size ≠ bA) := toHid (by omega)
         have n3 : Hid (w0.heap.size ≠ bA) := toHid (by omega)
         have m3 : Hid (w0.heap.size ≠ bS) := toHid (by omega)
         have n4 : Hid (w.heap.size ≤ bA) := toHid (by omega)
         have n5 : w0.heap.size ≠ w.heap.size := by omega
         have n5' : w.heap.size ≠ w0.heap.size := by omega
         have n6 : Hid (w.heap.size ≤ w0.heap.size) := toHid (by omega)
         have n7 : Hid (w.heap.size < w0.heap.size) := toHid (by omega)
         clear R9 hA9 hS9 h9 zA zS)
      | (go_at_call 50; clear t0; refine (H0.out _ _ _ R0.out).mono ?_; rintro e w1 ⟨rfl, R9, g9⟩
         have A9 := A0.out.grown g9 n3.out
         have E9 := E0.out.grown g9 n2.out
         have G9 := G0.out.grown g9 G0.out.size (fun j hj => by cases hj; exact n4.out)
         obtain ⟨a1, a2, a3⟩ := id A9
         obtain ⟨c1, c2, c3⟩ := id E9
         have R1 := toHid (R9.setO (x := w0.heap.size) 0 (.int .i64 0) n3.out m3.out)
         have A1 := toHid (A9.setS (ys := #[.int .i64 0, .int .i64 0, .int .i64 0, .slice none 0 0, .int .i64 0, .int .i64 0, .int .i64 0, .int .i64 0, .int .i64 0, .bool false, .bool false]) 0 (.int .i64 0) (by simp) (by simp))
         have E1 := toHid (E9.setO w0.heap.size 0 (.int .i64 0) n5)
         have G1 := toHid (G9.setCell (p := ⟨w0.heap.size, 0, none⟩) n6.out (.int .i64 0))
         clear R9 g9 A9 E9 G9)
      | (go_at_call 50; clear t1; refine (H1.out _ _ _ R1.out).mono ?_; rintro e w2 ⟨rfl, R9, g9⟩
         have A9 := A1.out.grown g9 n3.out
         have E9 := E1.out.grown g9 n2.out
         have G9 := G1.out.grown g9 G1.out.size (fun j hj => by cases hj; exact n4.out)
         clear a1 a2 a3; obtain ⟨a1, a2, a3⟩ := id A9
         clear c1 c2 c3; obtain ⟨c1, c2, c3⟩ := id E9
         have R2 := toHid (R9.setO (x := w0.heap.size) 1 (.int .i64 z1) n3.out m3.out)
         have A2 := toHid (A9.setS (ys := #[.int .i64 0, .int .i64 z1, .int .i64 0, .slice none 0 0, .int .i64 0, .int .i64 0, .int .i64 0, .int .i64 0, .int .i64 0, .bool false, .bool false]) 1 (.int .i64 z1) (by simp) (by simp))
         have E2 := toHid (E9.setO w0.heap.size 1 (.int .i64 z1) n5)
         have G2 := toHid (G9.setCell (p := ⟨w0.heap.size, 1, none⟩) n6.out (.int .i64 z1))
         clear R9 g9 A9 E9 G9)
      | (go_at_call 50; clear t2; refine (H2.out _ _ _ R2.out).mono ?_; rintro e w3 ⟨rfl, R9, g9⟩
         have A9 := A2.out.grown g9 n3.out
         have E9 := E2.out.grown g9 n2.out
         have G9 := G2.out.grown g9 G2.out.size (fun j hj => by cases hj; exact n4.out)
         clear a1 a2 a3; obtain ⟨a1, a2, a3⟩ := id A9
         clear c1 c2 c3; obtain ⟨c1, c2, c3⟩ := id E9
         have R3 := toHid (R9.setO (x := w0.heap.size) 2 (.int .i64 z2) n3.out m3.out)
         have A3 := toHid (A9.setS (ys := #[.int .i64 0, .int .i64 z1, .int .i64 z2, .slice none 0 0, .int .i64 0, .int .i64 0, .int .i64 0, .int .i64 0, .int .i64 0, .bool false, .bool false]) 2 (.int .i64 z2) (by simp) (by simp))
         have E3 := toHid (E9.setO w0.heap.size 2 (.int .i64 z2) n5)
         have G3 := toHid (G9.setCell (p := ⟨w0.heap.size, 2, none⟩) n6.out (.int .i64 z2))
         clear R9 g9 A9 E9 G9)
      | (go_at_call 42; refine (wReadIds_any hL hm R3.out).mono ?_; rintro e w4 ⟨p, c, he9, RI, g9⟩
         rw [hIs] at he9 RI
         subst he9
         have A9 := A3.out.grown g9 n3.out
         have E9 := E3.out.grown g9 n2.out
         have G9 := G3.out.grown g9 G3.out.size (fun j hj => by cases hj; exact n4.out)
         have zA := A3.out.1
         have zG := G3.out.size
         clear a1 a2 a3 c1 c2 c3
         obtain ⟨a1, a2, a3⟩ := id A9
         obtain ⟨c1, c2, c3⟩ := id E9
         have A4 := toHid (A9.setS (ys := #[.int .i64 0, .int .i64 z1, .int .i64 z2, .slice p is.length c, .int .i64 0, .int .i64 0, .int .i64 0, .int .i64 0, .int .i64 0, .bool false, .bool false]) 3 (.slice p is.length c) (by simp) (by simp))
         have E4 := toHid (E9.setO w0.heap.size 3 (.slice p is.length c) n5)
         have G4 := toHid (G9.setCell (p := ⟨w0.heap.size, 3, none⟩) n6.out (.slice p is.length c))
         replace RI := toHid ((RI.only ((Only.refl w0.heap.size (w0.heap.size + 1) w4).setCell (b := w0.heap.size) (o := 3) (Nat.le_refl _) (Nat.lt_succ_self _) (.slice p is.length c)) (.inr (by exact zA))).wide (lo' := w.heap.size + 1) (Nat.le_trans (by have := n7.out; omega) (Nat.le_of_lt zA)) (hi' := (w4.setCell ⟨w0.heap.size, 3, none⟩ (.slice p is.length c)).heap.size) (by rw [World.size_setCell]; exact Nat.le_refl _))
         clear g9 A9 E9 G9 zA zG))
  have S9 := E4.out.set11 (.int .i64 0) (.int .i64 z1) (.int .i64 z2) (.slice p is.length c) (.int .i64 0) (.int .i64 0) (.int .i64 0) (.int .i64 0) (.int .i64 0) (.bool false) (.bool false)
  refine bodyPost_ret (v := .agg #[.int .i64 0, .int .i64 z1, .int .i64 z2, .slice p is.length c, .int .i64 0, .int .i64 0, .int .i64 0, .int .i64 0, .int .i64 0, .bool false, .bool false]) (by simp [results, Try.results23, go_sem, c2]) rfl ?_
  exact ⟨_, _, rfl, ((RI.out.only S9.2 (.inr (Nat.le_refl _))).wide (Nat.le_succ _) (by rw [S9.2.size]; exact Nat.le_refl _)), G4.out.trans S9.2.below⟩

set_option maxHeartbeats 4000000 in
theorem wRead1 {L : List Int} (hL : Byts L) (hm : L.length ≤ 140737488355328) {z1 z2 : Int} (e0 : L.getD 0 0 = 1) (e1 : L.getD 1 0 = z1) (e2 : L.getD 2 0 = z2) {tk tc tu tx : Int} {tg : Bool} (hI3 : rdI L 3 = ⟨tk, tc, tu, tx, tg⟩) (w : World) :
    Calls Try.prog 23 #[.string (sb L)] w fun e w' => ∃ p c, e = .returned (.agg #[.int .i64 1, .int .i64 z1, .int .i64 z2, .slice p 0 c, .int .i64 0, .int .i64 tk, .int .i64 tc, .int .i64 tu, .int .i64 tx, .bool tg, .bool false]) ∧ RowI w.heap.size w'.heap.size w' (.slice p 0 c) [] ∧ Below w.heap.size w w' := by
  have H0 := toHid (fun (W : World) (bA bS : Nat) (k : Rd W bA bS L 0) => wNext_any hL hm k)
  rw [e0] at H0
  have H1 := toHid (fun (W : World) (bA bS : Nat) (k : Rd W bA bS L 1) => wNext_any hL hm k)
  rw [e1] at H1
  have H2 := toHid (fun (W : World) (bA bS : Nat) (k : Rd W bA bS L 2) => wNext_any hL hm k)
  rw [e2] at H2
  clear e0 e1 e2
  have t0 := trivial
  have t1 := trivial
  have t2 := trivial
  have t3 := trivial
  go_enter Try.func23, Try.ntmps23
  go_wp2_with (first
      | (go_at_call 41; refine (wReading_any _).mono ?_; rintro e w0 ⟨bA, bS, rfl, R9, hA9, hS9, h9⟩
         have zA := R9.pos.1
         have zS := R9.txt.1
         simp only [World.size_alloc] at hA9 hS9
         have R0 := toHid (R9.alloc (.cells #[.int .i64 0, .int .i64 0, .int .i64 0, .slice none 0 0, .int .i64 0, .int .i64 0, .int .i64 0, .int .i64 0, .int .i64 0, .bool false, .bool false] 28))
         have A0 := toHid (Box.new w0 #[.int .i64 0, .int .i64 0, .int .i64 0, .slice none 0 0, .int .i64 0, .int .i64 0, .int .i64 0, .int .i64 0, .int .i64 0, .bool false, .bool false] 28)
         have E0 := toHid (((Box.new w #[.int .i64 0, .int .i64 0, .int .i64 0, .slice none 0 0, .int .i64 0, .int .i64 0, .int .i64 0, .int .i64 0, .int .i64 0, .bool false, .bool false] 28).below h9).alloc (.cells #[.int .i64 0, .int .i64 0, .int .i64 0, .slice none 0 0, .int .i64 0, .int .i64 0, .int .i64 0, .int .i64 0, .int .i64 0, .bool false, .bool false] 28))
         have G0 := toHid ((((Below.refl _ w).onA (.cells #[.int .i64 0, .int .i64 0, .int .i64 0, .slice none 0 0, .int .i64 0, .int .i64 0, .int .i64 0, .int .i64 0, .int .i64 0, .bool false, .bool false] 28)).on h9).onA (.cells #[.int .i64 0, .int .i64 0, .int .i64 0, .slice none 0 0, .int .i64 0, .int .i64 0, .int .i64 0, .int .i64 0, .int .i64 0, .bool false, .bool false] 28))
         have n2 : Hid (w.heap.size ≠ bA) := toHid (by omega)
         have n3 : Hid (w0.heap.size ≠ bA) := toHid (by omega)
         have m3 : Hid (w0.heap.size ≠ bS) := toHid (by omega)
         have n4 : Hid (w.heap.size ≤ bA) := toHid (by omega)
         have n5 : w0.heap.size ≠ w.heap.size := by omega
         have n5' : w.heap.size ≠ w0.heap.size := by omega
         have n6 : Hid (w.heap.size ≤ w0.heap.size) := toHid (by omega)
         have n7 : Hid (w.heap.size < w0.heap.size) := toHid (by omega)
         clear R9 hA9 hS9 h9 zA zS)
      | (go_at_call 50; clear t0; refine (H0.out _ _ _ R0.out).mono ?_; rintro e w1 ⟨rfl, R9, g9⟩
         have A9 := A0.out.grown g9 n3.out
         have E9 := E0.out.grown g9 n2.out
         have G9 := G0.out.grown g9 G0.out.size (fun j hj => by cases hj; exact n4.out)
         obtain ⟨a1, a2, a3⟩ := id A9
         obtain ⟨c1, c2, c3⟩ := id E9
         have R1 := toHid (R9.setO (x := w0.heap.size) 0 (.int .i64 1) n3.out m3.out)
         have A1 := toHid (A9.setS (ys := #[.int .i64 1, .int .i64 0, .int .i64 0, .slice none 0 0, .int .i64 0, .int .i64 0, .int .i64 0, .int .i64 0, .int .i64 0, .bool false, .bool false]) 0 (.int .i64 1) (by simp) (by simp))
         have E1 := toHid (E9.setO w0.heap.size 0 (.int .i64 1) n5)
         have G1 := toHid (G9.setCell (p := ⟨w0.heap.size, 0, none⟩) n6.out (.int .i64 1))
         clear R9 g9 A9 E9 G9)
      | (go_at_call 50; clear t1; refine (H1.out _ _ _ R1.out).mono ?_; rintro e w2 ⟨rfl, R9, g9⟩
         have A9 := A1.out.grown g9 n3.out
         have E9 := E1.out.grown g9 n2.out
         have G9 := G1.out.grown g9 G1.out.size (fun j hj => by cases hj; exact n4.out)
         clear a1 a2 a3; obtain ⟨a1, a2, a3⟩ := id A9
         clear c1 c2 c3; obtain ⟨c1, c2, c3⟩ := id E9
         have R2 := toHid (R9.setO (x := w0.heap.size) 1 (.int .i64 z1) n3.out m3.out)
         have A2 := toHid (A9.setS (ys := #[.int .i64 1, .int .i64 z1, .int .i64 0, .slice none 0 0, .int .i64 0, .int .i64 0, .int .i64 0, .int .i64 0, .int .i64 0, .bool false, .bool false]) 1 (.int .i64 z1) (by simp) (by simp))
         have E2 := toHid (E9.setO w0.heap.size 1 (.int .i64 z1) n5)
         have G2 := toHid (G9.setCell (p := ⟨w0.heap.size, 1, none⟩) n6.out (.int .i64 z1))
         clear R9 g9 A9 E9 G9)
      | (go_at_call 50; clear t2; refine (H2.out _ _ _ R2.out).mono ?_; rintro e w3 ⟨rfl, R9, g9⟩
         have A9 := A2.out.grown g9 n3.out
         have E9 := E2.out.grown g9 n2.out
         have G9 := G2.out.grown g9 G2.out.size (fun j hj => by cases hj; exact n4.out)
         clear a1 a2 a3; obtain ⟨a1, a2, a3⟩ := id A9
         clear c1 c2 c3; obtain ⟨c1, c2, c3⟩ := id E9
         have R3 := toHid (R9.setO (x := w0.heap.size) 2 (.int .i64 z2) n3.out m3.out)
         have A3 := toHid (A9.setS (ys := #[.int .i64 1, .int .i64 z1, .int .i64 z2, .slice none 0 0, .int .i64 0, .int .i64 0, .int .i64 0, .int .i64 0, .int .i64 0, .bool false, .bool false]) 2 (.int .i64 z2) (by simp) (by simp))
         have E3 := toHid (E9.setO w0.heap.size 2 (.int .i64 z2) n5)
         have G3 := toHid (G9.setCell (p := ⟨w0.heap.size, 2, none⟩) n6.out (.int .i64 z2))
         clear R9 g9 A9 E9 G9)
      | (go_at_call 43; refine (wReadItem_any hL hm R3.out).mono ?_; rintro e w4 ⟨he9, g9⟩
         rw [hI3] at he9
         subst he9
         have A9 := A3.out.grown g9 n3.out
         have E9 := E3.out.grown g9 n2.out
         have G9 := G3.out.grown g9 G3.out.size (fun j hj => by cases hj; exact n4.out)
         clear a1 a2 a3 c1 c2 c3
         obtain ⟨a1, a2, a3⟩ := id A9
         obtain ⟨c1, c2, c3⟩ := id E9
         have S9 := A9.set5 (.int .i64 tk) (.int .i64 tc) (.int .i64 tu) (.int .i64 tx) (.bool tg)
         have A4 := toHid S9.1
         have E4 := toHid (E9.only S9.2 (.inl n7.out))
         have G4 := toHid (G9.trans (S9.2.below.mono n6.out))
         clear g9 A9 E9 G9 S9))
  have S9 := E4.out.set11 (.int .i64 1) (.int .i64 z1) (.int .i64 z2) (.slice none 0 0) (.int .i64 0) (.int .i64 tk) (.int .i64 tc) (.int .i64 tu) (.int .i64 tx) (.bool tg) (.bool false)
  refine bodyPost_ret (v := .agg #[.int .i64 1, .int .i64 z1, .int .i64 z2, .slice none 0 0, .int .i64 0, .int .i64 tk, .int .i64 tc, .int .i64 tu, .int .i64 tx, .bool tg, .bool false]) (by simp [results, Try.results23, go_sem, c2]) rfl ?_
  exact ⟨_, _, rfl, RowI.nil0, G4.out.trans S9.2.below⟩

set_option maxHeartbeats 4000000 in
theorem wRead2 {L : List Int} (hL : Byts L) (hm : L.length ≤ 140737488355328) {z1 z2 z3 : Int} (e0 : L.getD 0 0 = 2) (e1 : L.getD 1 0 = z1) (e2 : L.getD 2 0 = z2) (e3 : L.getD 3 0 = z3) (w : World) :
    Calls Try.prog 23 #[.string (sb L)] w fun e w' => ∃ p c, e = .returned (.agg #[.int .i64 2, .int .i64 z1, .int .i64 z2, .slice p 0 c, .int .i64 z3, .int .i64 0, .int .i64 0, .int .i64 0, .int .i64 0, .bool false, .bool false]) ∧ RowI w.heap.size w'.heap.size w' (.slice p 0 c) [] ∧ Below w.heap.size w w' := by
  have H0 := toHid (fun (W : World) (bA bS : Nat) (k : Rd W bA bS L 0) => wNext_any hL hm k)
  rw [e0] at H0
  have H1 := toHid (fun (W : World) (bA bS : Nat) (k : Rd W bA bS L 1) => wNext_any hL hm k)
  rw [e1] at H1
  have H2 := toHid (fun (W : World) (bA bS : Nat) (k : Rd W bA bS L 2) => wNext_any hL hm k)
  rw [e2] at H2
  have H3 := toHid (fun (W : World) (bA bS : Nat) (k : Rd W bA bS L 3) => wNext_any hL hm k)
  rw [e3] at H3
  clear e0 e1 e2 e3
  have t0 := trivial
  have t1 := trivial
  have t2 := trivial
  have t3 := trivial
  go_enter Try.func23, Try.ntmps23
  go_wp2_with (first
      | (go_at_call 41; refine (wReading_any _).mono ?_; rintro e w0 ⟨bA, bS, rfl, R9, hA9, hS9, h9⟩
         have zA := R9.pos.1
         have zS := R9.txt.1
         simp only [World.size_alloc] at hA9 hS9
         have R0 := toHid (R9.alloc (.cells #[.int .i64 0, .int .i64 0, .int .i64 0, .slice none 0 0, .int .i64 0, .int .i64 0, .int .i64 0, .int .i64 0, .int .i64 0, .bool false, .bool false] 28))
         have A0 := toHid (Box.new w0 #[.int .i64 0, .int .i64 0, .int .i64 0, .slice none 0 0, .int .i64 0, .int .i64 0, .int .i64 0, .int .i64 0, .int .i64 0, .bool false, .bool false] 28)
         have E0 := toHid (((Box.new w #[.int .i64 0, .int .i64 0, .int .i64 0, .slice none 0 0, .int .i64 0, .int .i64 0, .int .i64 0, .int .i64 0, .int .i64 0, .bool false, .bool false] 28).below h9).alloc (.cells #[.int .i64 0, .int .i64 0, .int .i64 0, .slice none 0 0, .int .i64 0, .int .i64 0, .int .i64 0, .int .i64 0, .int .i64 0, .bool false, .bool false] 28))
         have G0 := toHid ((((Below.refl _ w).onA (.cells #[.int .i64 0, .int .i64 0, .int .i64 0, .slice none 0 0, .int .i64 0, .int .i64 0, .int .i64 0, .int .i64 0, .int .i64 0, .bool false, .bool false] 28)).on h9).onA (.cells #[.int .i64 0, .int .i64 0, .int .i64 0, .slice none 0 0, .int .i64 0, .int .i64 0, .int .i64 0, .int .i64 0, .int .i64 0, .bool false, .bool false] 28))
         have n2 : Hid (w.heap.size ≠ bA) := toHid (by omega)
         have n3 : Hid (w0.heap.size ≠ bA) := toHid (by omega)
         have m3 : Hid (w0.heap.size ≠ bS) := toHid (by omega)
         have n4 : Hid (w.heap.size ≤ bA) := toHid (by omega)
         have n5 : w0.heap.size ≠ w.heap.size := by omega
         have n5' : w.heap.size ≠ w0.heap.size := by omega
         have n6 : Hid (w.heap.size ≤ w0.heap.size) := toHid (by omega)
         have n7 : Hid (w.heap.size < w0.heap.size) := toHid (by omega)
         clear R9 hA9 hS9 h9 zA zS)
      | (go_at_call 50; clear t0; refine (H0.out _ _ _ R0.out).mono ?_; rintro e w1 ⟨rfl, R9, g9⟩
         have A9 := A0.out.grown g9 n3.out
         have E9 := E0.out.grown g9 n2.out
         have G9 := G0.out.grown g9 G0.out.size (fun j hj => by cases hj; exact n4.out)
         obtain ⟨a1, a2, a3⟩ := id A9
         obtain ⟨c1, c2, c3⟩ := id E9
         have R1 := toHid (R9.setO (x := w0.heap.size) 0 (.int .i64 2) n3.out m3.out)
         have A1 := toHid (A9.setS (ys := #[.int .i64 2, .int .i64 0, .int .i64 0, .slice none 0 0, .int .i64 0, .int .i64 0, .int .i64 0, .int .i64 0, .int .i64 0, .bool false, .bool false]) 0 (.int .i64 2) (by simp) (by simp))
         have E1 := toHid (E9.setO w0.heap.size 0 (.int .i64 2) n5)
         have G1 := toHid (G9.setCell (p := ⟨w0.heap.size, 0, none⟩) n6.out (.int .i64 2))
         clear R9 g9 A9 E9 G9)
      | (go_at_call 50; clear t1; refine (H1.out _ _ _ R1.out).mono ?_; rintro e w2 ⟨rfl, R9, g9⟩
         have A9 := A1.out.grown g9 n3.out
         have E9 := E1.out.grown g9 n2.out
         have G9 := G1.out.grown g9 G1.out.size (fun j hj => by cases hj; exact n4.out)
         clear a1 a2 a3; obtain ⟨a1, a2, a3⟩ := id A9
         clear c1 c2 c3; obtain ⟨c1, c2, c3⟩ := id E9
         have R2 := toHid (R9.setO (x := w0.heap.size) 1 (.int .i64 z1) n3.out m3.out)
         have A2 := toHid (A9.setS (ys := #[.int .i64 2, .int .i64 z1, .int .i64 0, .slice none 0 0, .int .i64 0, .int .i64 0, .int .i64 0, .int .i64 0, .int .i64 0, .bool false, .bool false]) 1 (.int .i64 z1) (by simp) (by simp))
         have E2 := toHid (E9.setO w0.heap.size 1 (.int .i64 z1) n5)
         have G2 := toHid (G9.setCell (p := ⟨w0.heap.size, 1, none⟩) n6.out (.int .i64 z1))
         clear R9 g9 A9 E9 G9)
      | (go_at_call 50; clear t2; refine (H2.out _ _ _ R2.out).mono ?_; rintro e w3 ⟨rfl, R9, g9⟩
         have A9 := A2.out.grown g9 n3.out
         have E9 := E2.out.grown g9 n2.out
         have G9 := G2.out.grown g9 G2.out.size (fun j hj => by cases hj; exact n4.out)
         clear a1 a2 a3; obtain ⟨a1, a2, a3⟩ := id A9
         clear c1 c2 c3; obtain ⟨c1, c2, c3⟩ := id E9
         have R3 := toHid (R9.setO (x := w0.heap.size) 2 (.int .i64 z2) n3.out m3.out)
         have A3 := toHid (A9.setS (ys := #[.int .i64 2, .int .i64 z1, .int .i64 z2, .slice none 0 0, .int .i64 0, .int .i64 0, .int .i64 0, .int .i64 0, .int .i64 0, .bool false, .bool false]) 2 (.int .i64 z2) (by simp) (by simp))
         have E3 := toHid (E9.setO w0.heap.size 2 (.int .i64 z2) n5)
         have G3 := toHid (G9.setCell (p := ⟨w0.heap.size, 2, none⟩) n6.out (.int .i64 z2))
         clear R9 g9 A9 E9 G9)
      | (go_at_call 50; clear t3; refine (H3.out _ _ _ R3.out).mono ?_; rintro e w4 ⟨rfl, R9, g9⟩
         have A9 := A3.out.grown g9 n3.out
         have E9 := E3.out.grown g9 n2.out
         have G9 := G3.out.grown g9 G3.out.size (fun j hj => by cases hj; exact n4.out)
         clear a1 a2 a3; obtain ⟨a1, a2, a3⟩ := id A9
         clear c1 c2 c3; obtain ⟨c1, c2, c3⟩ := id E9
         have R4 := toHid (R9.setO (x := w0.heap.size) 4 (.int .i64 z3) n3.out m3.out)
         have A4 := toHid (A9.setS (ys := #[.int .i64 2, .int .i64 z1, .int .i64 z2, .slice none 0 0, .int .i64 z3, .int .i64 0, .int .i64 0, .int .i64 0, .int .i64 0, .bool false, .bool false]) 4 (.int .i64 z3) (by simp) (by simp))
         have E4 := toHid (E9.setO w0.heap.size 4 (.int .i64 z3) n5)
         have G4 := toHid (G9.setCell (p := ⟨w0.heap.size, 4, none⟩) n6.out (.int .i64 z3))
         clear R9 g9 A9 E9 G9))
  have S9 := E4.out.set11 (.int .i64 2) (.int .i64 z1) (.int .i64 z2) (.slice none 0 0) (.int .i64 z3) (.int .i64 0) (.int .i64 0) (.int .i64 0) (.int .i64 0) (.bool false) (.bool false)
  refine bodyPost_ret (v := .agg #[.int .i64 2, .int .i64 z1, .int .i64 z2, .slice none 0 0, .int .i64 z3, .int .i64 0, .int .i64 0, .int .i64 0, .int .i64 0, .bool false, .bool false]) (by simp [results, Try.results23, go_sem, c2]) rfl ?_
  exact ⟨_, _, rfl, RowI.nil0, G4.out.trans S9.2.below⟩

set_option maxHeartbeats 4000000 in
theorem wRead3a {L : List Int} (hL : Byts L) (hm : L.length ≤ 140737488355328) {z1 z2 z3 : Int} (e0 : L.getD 0 0 = 3) (e1 : L.getD 1 0 = z1) (e2 : L.getD 2 0 = z2) (e3 : L.getD 3 0 = z3) (e4 : L.getD 4 0 = 1) {tk tc tu tx : Int} {tg : Bool} (hI5 : rdI L 5 = ⟨tk, tc, tu, tx, tg⟩) (w : World) :
    Calls Try.prog 23 #[.string (sb L)] w fun e w' => ∃ p c, e = .returned (.agg #[.int .i64 3, .int .i64 z1, .int .i64 z2, .slice p 0 c, .int .i64 z3, .int .i64 tk, .int .i64 tc, .int .i64 tu, .int .i64 tx, .bool tg, .bool true]) ∧ RowI w.heap.size w'.heap.size w' (.slice p 0 c) [] ∧ Below w.heap.size w w' := by
  have H0 := toHid (fun (W : World) (bA bS : Nat) (k : Rd W bA bS L 0) => wNext_any hL hm k)
  rw [e0] at H0
  have H1 := toHid (fun (W : World) (bA bS : Nat) (k : Rd W bA bS L 1) => wNext_any hL hm k)
  rw [e1] at H1
  have H2 := toHid (fun (W : World) (bA bS : Nat) (k : Rd W bA bS L 2) => wNext_any hL hm k)
  rw [e2] at H2
  have H3 := toHid (fun (W : World) (bA bS : Nat) (k : Rd W bA bS L 3) => wNext_any hL hm k)
  rw [e3] at H3
  have H4 := toHid (fun (W : World) (bA bS : Nat) (k : Rd W bA bS L 4) => wNext_any hL hm k)
  rw [e4] at H4
  clear e0 e1 e2 e3 e4
  have t0 := trivial
  have t1 := trivial
  have t2 := trivial
  have t3 := trivial
  have t4 := trivial
  have t5 := trivial
  go_enter Try.func23, Try.ntmps23
  go_wp2_with (first
      | (go_at_call 41; refine (wReading_any _).mono ?_; rintro e w0 ⟨bA, bS, rfl, R9, hA9, hS9, h9⟩
         have zA := R9.pos.1
         have zS := R9.txt.1
         simp only [World.size_alloc] at hA9 hS9
         have R0 := toHid (R9.alloc (.cells #[.int .i64 0, .int .i64 0, .int .i64 0, .slice none 0 0, .int .i64 0, .int .i64 0, .int .i64 0, .int .i64 0, .int .i64 0, .bool false, .bool false] 28))
         have A0 := toHid (Box.new w0 #[.int .i64 0, .int .i64 0, .int .i64 0, .slice none 0 0, .int .i64 0, .int .i64 0, .int .i64 0, .int .i64 0, .int .i64 0, .bool false, .bool false] 28)
         have E0 := toHid (((Box.new w #[.int .i64 0, .int .i64 0, .int .i64 0, .slice none 0 0, .int .i64 0, .int .i64 0, .int .i64 0, .int .i64 0, .int .i64 0, .bool false, .bool false] 28).below h9).alloc (.cells #[.int .i64 0, .int .i64 0, .int .i64 0, .slice none 0 0, .int .i64 0, .int .i64 0, .int .i64 0, .int .i64 0, .int .i64 0, .bool false, .bool false] 28))
         have G0 := toHid ((((Below.refl _ w).onA (.cells #[.int .i64 0, .int .i64 0, .int .i64 0, .slice none 0 0, .int .i64 0, .int .i64 0, .int .i64 0, .int .i64 0, .int .i64 0, .bool false, .bool false] 28)).on h9).onA (.cells #[.int .i64 0, .int .i64 0, .int .i64 0, .slice none 0 0, .int .i64 0, .int .i64 0, .int .i64 0, .int .i64 0, .int .i64 0, .bool false, .bool false] 28))
         have n2 : Hid (w.heap.size ≠ bA) := toHid (by omega)
         have n3 : Hid (w0.heap.size ≠ bA) := toHid (by omega)
         have m3 : Hid (w0.heap.size ≠ bS) := toHid (by omega)
         have n4 : Hid (w.heap.size ≤ bA) := toHid (by omega)
         have n5 : w0.heap.size ≠ w.heap.size := by omega
         have n5' : w.heap.size ≠ w0.heap.size := by omega
         have n6 : Hid (w.heap.size ≤ w0.heap.size) := toHid (by omega)
         have n7 : Hid (w.heap.size < w0.heap.size) := toHid (by omega)
         clear R9 hA9 hS9 h9 zA zS)
      | (go_at_call 50; clear t0; refine (H0.out _ _ _ R0.out).mono ?_; rintro e w1 ⟨rfl, R9, g9⟩
         have A9 := A0.out.grown g9 n3.out
         have E9 := E0.out.grown g9 n2.out
         have G9 := G0.out.grown g9 G0.out.size (fun j hj => by cases hj; exact n4.out)
         obtain ⟨a1, a2, a3⟩ := id A9
         obtain ⟨c1, c2, c3⟩ := id E9
         have R1 := toHid (R9.setO (x := w0.heap.size) 0 (.int .i64 3) n3.out m3.out)
         have A1 := toHid (A9.setS (ys := #[.int .i64 3, .int .i64 0, .int .i64 0, .slice none 0 0, .int .i64 0, .int .i64 0, .int .i64 0, .int .i64 0, .int .i64 0, .bool false, .bool false]) 0 (.int .i64 3) (by simp) (by simp))
         have E1 := toHid (E9.setO w0.heap.size 0 (.int .i64 3) n5)
         have G1 := toHid (G9.setCell (p := ⟨w0.heap.size, 0, none⟩) n6.out (.int .i64 3))
         clear R9 g9 A9 E9 G9)
      | (go_at_call 50; clear t1; refine (H1.out _ _ _ R1.out).mono ?_; rintro e w2 ⟨rfl, R9, g9⟩
         have A9 := A1.out.grown g9 n3.out
         have E9 := E1.out.grown g9 n2.out
         have G9 := G1.out.grown g9 G1.out.size (fun j hj => by cases hj; exact n4.out)
         clear a1 a2 a3; obtain ⟨a1, a2, a3⟩ := id A9
         clear c1 c2 c3; obtain ⟨c1, c2, c3⟩ := id E9
         have R2 := toHid (R9.setO (x := w0.heap.size) 1 (.int .i64 z1) n3.out m3.out)
         have A2 := toHid (A9.setS (ys := #[.int .i64 3, .int .i64 z1, .int .i64 0, .slice none 0 0, .int .i64 0, .int .i64 0, .int .i64 0, .int .i64 0, .int .i64 0, .bool false, .bool false]) 1 (.int .i64 z1) (by simp) (by simp))
         have E2 := toHid (E9.setO w0.heap.size 1 (.int .i64 z1) n5)
         have G2 := toHid (G9.setCell (p := ⟨w0.heap.size, 1, none⟩) n6.out (.int .i64 z1))
         clear R9 g9 A9 E9 G9)
      | (go_at_call 50; clear t2; refine (H2.out _ _ _ R2.out).mono ?_; rintro e w3 ⟨rfl, R9, g9⟩
         have A9 := A2.out.grown g9 n3.out
         have E9 := E2.out.grown g9 n2.out
         have G9 := G2.out.grown g9 G2.out.size (fun j hj => by cases hj; exact n4.out)
         clear a1 a2 a3; obtain ⟨a1, a2, a3⟩ := id A9
         clear c1 c2 c3; obtain ⟨c1, c2, c3⟩ := id E9
         have R3 := toHid (R9.setO (x := w0.heap.size) 2 (.int .i64 z2) n3.out m3.out)
         have A3 := toHid (A9.setS (ys := #[.int .i64 3, .int .i64 z1, .int .i64 z2, .slice none 0 0, .int .i64 0, .int .i64 0, .int .i64 0, .int .i64 0, .int .i64 0, .bool false, .bool false]) 2 (.int .i64 z2) (by simp) (by simp))
         have E3 := toHid (E9.setO w0.heap.size 2 (.int .i64 z2) n5)
         have G3 := toHid (G9.setCell (p := ⟨w0.heap.size, 2, none⟩) n6.out (.int .i64 z2))
         clear R9 g9 A9 E9 G9)
      | (go_at_call 50; clear t3; refine (H3.out _ _ _ R3.out).mono ?_; rintro e w4 ⟨rfl, R9, g9⟩
         have A9 := A3.out.grown g9 n3.out
         have E9 := E3.out.grown g9 n2.out
         have G9 := G3.out.grown g9 G3.out.size (fun j hj => by cases hj; exact n4.out)
         clear a1 a2 a3; obtain ⟨a1, a2, a3⟩ := id A9
         clear c1 c2 c3; obtain ⟨c1, c2, c3⟩ := id E9
         have R4 := toHid (R9.setO (x := w0.heap.size) 4 (.int .i64 z3) n3.out m3.out)
         have A4 := toHid (A9.setS (ys := #[.int .i64 3, .int .i64 z1, .int .i64 z2, .slice none 0 0, .int .i64 z3, .int .i64 0, .int .i64 0, .int .i64 0, .int .i64 0, .bool false, .bool false]) 4 (.int .i64 z3) (by simp) (by simp))
         have E4 := toHid (E9.setO w0.heap.size 4 (.int .i64 z3) n5)
         have G4 := toHid (G9.setCell (p := ⟨w0.heap.size, 4, none⟩) n6.out (.int .i64 z3))
         clear R9 g9 A9 E9 G9)
      | (go_at_call 50; clear t4; refine (H4.out _ _ _ R4.out).mono ?_; rintro e w5 ⟨rfl, R9, g9⟩
         have A9 := A4.out.grown g9 n3.out
         have E9 := E4.out.grown g9 n2.out
         have G9 := G4.out.grown g9 G4.out.size (fun j hj => by cases hj; exact n4.out)
         clear a1 a2 a3; obtain ⟨a1, a2, a3⟩ := id A9
         clear c1 c2 c3; obtain ⟨c1, c2, c3⟩ := id E9
         have R5 := toHid (R9.setO (x := w0.heap.size) 10 (.bool true) n3.out m3.out)
         have A5 := toHid (A9.setS (ys := #[.int .i64 3, .int .i64 z1, .int .i64 z2, .slice none 0 0, .int .i64 z3, .int .i64 0, .int .i64 0, .int .i64 0, .int .i64 0, .bool false, .bool true]) 10 (.bool true) (by simp) (by simp))
         have E5 := toHid (E9.setO w0.heap.size 10 (.bool true) n5)
         have G5 := toHid (G9.setCell (p := ⟨w0.heap.size, 10, none⟩) n6.out (.bool true))
         clear R9 g9 A9 E9 G9)
      | (go_at_call 43; refine (wReadItem_any hL hm R5.out).mono ?_; rintro e w6 ⟨he9, g9⟩
         rw [hI5] at he9
         subst he9
         have A9 := A5.out.grown g9 n3.out
         have E9 := E5.out.grown g9 n2.out
         have G9 := G5.out.grown g9 G5.out.size (fun j hj => by cases hj; exact n4.out)
         clear a1 a2 a3 c1 c2 c3
         obtain ⟨a1, a2, a3⟩ := id A9
         obtain ⟨c1, c2, c3⟩ := id E9
         have S9 := A9.set5 (.int .i64 tk) (.int .i64 tc) (.int .i64 tu) (.int .i64 tx) (.bool tg)
         have A6 := toHid S9.1
         have E6 := toHid (E9.only S9.2 (.inl n7.out))
         have G6 := toHid (G9.trans (S9.2.below.mono n6.out))
         clear g9 A9 E9 G9 S9))
  have S9 := E6.out.set11 (.int .i64 3) (.int .i64 z1) (.int .i64 z2) (.slice none 0 0) (.int .i64 z3) (.int .i64 tk) (.int .i64 tc) (.int .i64 tu) (.int .i64 tx) (.bool tg) (.bool true)
  refine bodyPost_ret (v := .agg #[.int .i64 3, .int .i64 z1, .int .i64 z2, .slice none 0 0, .int .i64 z3, .int .i64 tk, .int .i64 tc, .int .i64 tu, .int .i64 tx, .bool tg, .bool true]) (by simp [results, Try.results23, go_sem, c2]) rfl ?_
  exact ⟨_, _, rfl, RowI.nil0, G6.out.trans S9.2.below⟩

set_option maxHeartbeats 4000000 in
theorem wRead3b {L : List Int} (hL : Byts L) (hm : L.length ≤ 140737488355328) {z1 z2 z3 z4 : Int} (e0 : L.getD 0 0 = 3) (e1 : L.getD 1 0 = z1) (e2 : L.getD 2 0 = z2) (e3 : L.getD 3 0 = z3) (e4 : L.getD 4 0 = z4) (k4 : ¬ z4 = 1) (w : World) :
    Calls Try.prog 23 #[.string (sb L)] w fun e w' => ∃ p c, e = .returned (.agg #[.int .i64 3, .int .i64 z1, .int .i64 z2, .slice p 0 c, .int .i64 z3, .int .i64 0, .int .i64 0, .int .i64 0, .int .i64 0, .bool false, .bool false]) ∧ RowI w.heap.size w'.heap.size w' (.slice p 0 c) [] ∧ Below w.heap.size w w' := by
  have H0 := toHid (fun (W : World) (bA bS : Nat) (k : Rd W bA bS L 0) => wNext_any hL hm k)
  rw [e0] at H0
  have H1 := toHid (fun (W : World) (bA bS : Nat) (k : Rd W bA bS L 1) => wNext_any hL hm k)
  rw [e1] at H1
  have H2 := toHid (fun (W : World) (bA bS : Nat) (k : Rd W bA bS L 2) => wNext_any hL hm k)
  rw [e2] at H2
  have H3 := toHid (fun (W : World) (bA bS : Nat) (k : Rd W bA bS L 3) => wNext_any hL hm k)
  rw [e3] at H3
  have H4 := toHid (fun (W : World) (bA bS : Nat) (k : Rd W bA bS L 4) => wNext_any hL hm k)
  rw [e4] at H4
  clear e0 e1 e2 e3 e4
  have t0 := trivial
  have t1 := trivial
  have t2 := trivial
  have t3 := trivial
  have t4 := trivial
  go_enter Try.func23, Try.ntmps23
  go_wp2_with (first
      | (go_at_call 41; refine (wReading_any _).mono ?_; rintro e w0 ⟨bA, bS, rfl, R9, hA9, hS9, h9⟩
         have zA := R9.pos.1
         have zS := R9.txt.1
         simp only [World.size_alloc] at hA9 hS9
         have R0 := toHid (R9.alloc (.cells #[.int .i64 0, .int .i64 0, .int .i64 0, .slice none 0 0, .int .i64 0, .int .i64 0, .int .i64 0, .int .i64 0, .int .i64 0, .bool false, .bool false] 28))
         have A0 := toHid (Box.new w0 #[.int .i64 0, .int .i64 0, .int .i64 0, .slice none 0 0, .int .i64 0, .int .i64 0, .int .i64 0, .int .i64 0, .int .i64 0, .bool false, .bool false] 28)
         have E0 := toHid (((Box.new w #[.int .i64 0, .int .i64 0, .int .i64 0, .slice none 0 0, .int .i64 0, .int .i64 0, .int .i64 0, .int .i64 0, .int .i64 0, .bool false, .bool false] 28).below h9).alloc (.cells #[.int .i64 0, .int .i64 0, .int .i64 0, .slice none 0 0, .int .i64 0, .int .i64 0, .int .i64 0, .int .i64 0, .int .i64 0, .bool false, .bool false] 28))
         have G0 := toHid ((((Below.refl _ w).onA (.cells #[.int .i64 0, .int .i64 0, .int .i64 0, .slice none 0 0, .int .i64 0, .int .i64 0, .int .i64 0, .int .i64 0, .int .i64 0, .bool false, .bool false] 28)).on h9).onA (.cells #[.int .i64 0, .int .i64 0, .int .i64 0, .slice none 0 0, .int .i64 0, .int .i64 0, .int .i64 0, .int .i64 0, .int .i64 0, .bool false, .bool false] 28))
         have n2 : Hid (w.heap.size ≠ bA) := toHid (by omega)
         have n3 : Hid (w0.heap.size ≠ bA) := toHid (by omega)
         have m3 : Hid (w0.heap.size ≠ bS) := toHid (by omega)
         have n4 : Hid (w.heap.size ≤ bA) := toHid (by omega)
         have n5 : w0.heap.size ≠ w.heap.size := by omega
         have n5' : w.heap.size ≠ w0.heap.size := by omega
         have n6 : Hid (w.heap.size ≤ w0.heap.size) := toHid (by omega)
         have n7 : Hid (w.heap.size < w0.heap.size) := toHid (by omega)
         clear R9 hA9 hS9 h9 zA zS)
      | (go_at_call 50; clear t0; refine (H0.out _ _ _ R0.out).mono ?_; rintro e w1 ⟨rfl, R9, g9⟩
         have A9 := A0.out.grown g9 n3.out
         have E9 := E0.out.grown g9 n2.out
         have G9 := G0.out.grown g9 G0.out.size (fun j hj => by cases hj; exact n4.out)
         obtain ⟨a1, a2, a3⟩ := id A9
         obtain ⟨c1, c2, c3⟩ := id E9
         have R1 := toHid (R9.setO (x := w0.heap.size) 0 (.int .i64 3) n3.out m3.out)
         have A1 := toHid (A9.setS (ys := #[.int .i64 3, .int .i64 0, .int .i64 0, .slice none 0 0, .int .i64 0, .int .i64 0, .int .i64 0, .int .i64 0, .int .i64 0, .bool false, .bool false]) 0 (.int .i64 3) (by simp) (by simp))
         have E1 := toHid (E9.setO w0.heap.size 0 (.int .i64 3) n5)
         have G1 := toHid (G9.setCell (p := ⟨w0.heap.size, 0, none⟩) n6.out (.int .i64 3))
         clear R9 g9 A9 E9 G9)
      | (go_at_call 50; clear t1; refine (H1.out _ _ _ R1.out).mono ?_; rintro e w2 ⟨rfl, R9, g9⟩
         have A9 := A1.out.grown g9 n3.out
         have E9 := E1.out.grown g9 n2.out
         have G9 := G1.out.grown g9 G1.out.size (fun j hj => by cases hj; exact n4.out)
         clear a1 a2 a3; obtain ⟨a1, a2, a3⟩ := id A9
         clear c1 c2 c3; obtain ⟨c1, c2, c3⟩ := id E9
         have R2 := toHid (R9.setO (x := w0.heap.size) 1 (.int .i64 z1) n3.out m3.out)
         have A2 := toHid (A9.setS (ys := #[.int .i64 3, .int .i64 z1, .int .i64 0, .slice none 0 0, .int .i64 0, .int .i64 0, .int .i64 0, .int .i64 0, .int .i64 0, .bool false, .bool false]) 1 (.int .i64 z1) (by simp) (by simp))
         have E2 := toHid (E9.setO w0.heap.size 1 (.int .i64 z1) n5)
         have G2 := toHid (G9.setCell (p := ⟨w0.heap.size, 1, none⟩) n6.out (.int .i64 z1))
         clear R9 g9 A9 E9 G9)
      | (go_at_call 50; clear t2; refine (H2.out _ _ _ R2.out).mono ?_; rintro e w3 ⟨rfl, R9, g9⟩
         have A9 := A2.out.grown g9 n3.out
         have E9 := E2.out.grown g9 n2.out
         have G9 := G2.out.grown g9 G2.out.size (fun j hj => by cases hj; exact n4.out)
         clear a1 a2 a3; obtain ⟨a1, a2, a3⟩ := id A9
         clear c1 c2 c3; obtain ⟨c1, c2, c3⟩ := id E9
         have R3 := toHid (R9.setO (x := w0.heap.size) 2 (.int .i64 z2) n3.out m3.out)
         have A3 := toHid (A9.setS (ys := #[.int .i64 3, .int .i64 z1, .int .i64 z2, .slice none 0 0, .int .i64 0, .int .i64 0, .int .i64 0, .int .i64 0, .int .i64 0, .bool false, .bool false]) 2 (.int .i64 z2) (by simp) (by simp))
         have E3 := toHid (E9.setO w0.heap.size 2 (.int .i64 z2) n5)
         have G3 := toHid (G9.setCell (p := ⟨w0.heap.size, 2, none⟩) n6.out (.int .i64 z2))
         clear R9 g9 A9 E9 G9)
      | (go_at_call 50; clear t3; refine (H3.out _ _ _ R3.out).mono ?_; rintro e w4 ⟨rfl, R9, g9⟩
         have A9 := A3.out.grown g9 n3.out
         have E9 := E3.out.grown g9 n2.out
         have G9 := G3.out.grown g9 G3.out.size (fun j hj => by cases hj; exact n4.out)
         clear a1 a2 a3; obtain ⟨a1, a2, a3⟩ := id A9
         clear c1 c2 c3; obtain ⟨c1, c2, c3⟩ := id E9
         have R4 := toHid (R9.setO (x := w0.heap.size) 4 (.int .i64 z3) n3.out m3.out)
         have A4 := toHid (A9.setS (ys := #[.int .i64 3, .int .i64 z1, .int .i64 z2, .slice none 0 0, .int .i64 z3, .int .i64 0, .int .i64 0, .int .i64 0, .int .i64 0, .bool false, .bool false]) 4 (.int .i64 z3) (by simp) (by simp))
         have E4 := toHid (E9.setO w0.heap.size 4 (.int .i64 z3) n5)
         have G4 := toHid (G9.setCell (p := ⟨w0.heap.size, 4, none⟩) n6.out (.int .i64 z3))
         clear R9 g9 A9 E9 G9)
      | (go_at_call 50; clear t4; refine (H4.out _ _ _ R4.out).mono ?_; rintro e w5 ⟨rfl, R9, g9⟩
         have A9 := A4.out.grown g9 n3.out
         have E9 := E4.out.grown g9 n2.out
         have G9 := G4.out.grown g9 G4.out.size (fun j hj => by cases hj; exact n4.out)
         clear a1 a2 a3; obtain ⟨a1, a2, a3⟩ := id A9
         clear c1 c2 c3; obtain ⟨c1, c2, c3⟩ := id E9
         have R5 := toHid (R9.setO (x := w0.heap.size) 10 (.bool false) n3.out m3.out)
         have A5 := toHid (A9.setS (ys := #[.int .i64 3, .int .i64 z1, .int .i64 z2, .slice none 0 0, .int .i64 z3, .int .i64 0, .int .i64 0, .int .i64 0, .int .i64 0, .bool false, .bool false]) 10 (.bool false) (by simp) (by simp))
         have E5 := toHid (E9.setO w0.heap.size 10 (.bool false) n5)
         have G5 := toHid (G9.setCell (p := ⟨w0.heap.size, 10, none⟩) n6.out (.bool false))
         clear R9 g9 A9 E9 G9))
  have S9 := E5.out.set11 (.int .i64 3) (.int .i64 z1) (.int .i64 z2) (.slice none 0 0) (.int .i64 z3) (.int .i64 0) (.int .i64 0) (.int .i64 0) (.int .i64 0) (.bool false) (.bool false)
  refine bodyPost_ret (v := .agg #[.int .i64 3, .int .i64 z1, .int .i64 z2, .slice none 0 0, .int .i64 z3, .int .i64 0, .int .i64 0, .int .i64 0, .int .i64 0, .bool false, .bool false]) (by simp [results, Try.results23, go_sem, c2]) rfl ?_
  exact ⟨_, _, rfl, RowI.nil0, G5.out.trans S9.2.below⟩

set_option maxHeartbeats 4000000 in
theorem wRead4 {L : List Int} (hL : Byts L) (hm : L.length ≤ 140737488355328) {z0 z1 z2 : Int} (e0 : L.getD 0 0 = z0) (e1 : L.getD 1 0 = z1) (e2 : L.getD 2 0 = z2) (k0 : ¬ z0 = 0) (k1 : ¬ z0 = 1) (k2 : ¬ z0 = 2) (k3 : ¬ z0 = 3) (w : World) :
    Calls Try.prog 23 #[.string (sb L)] w fun e w' => ∃ p c, e = .returned (.agg #[.int .i64 z0, .int .i64 z1, .int .i64 z2, .slice p 0 c, .int .i64 0, .int .i64 0, .int .i64 0, .int .i64 0, .int .i64 0, .bool false, .bool false]) ∧ RowI w.heap.size w'.heap.size w' (.slice p 0 c) [] ∧ Below w.heap.size w w' := by
  have H0 := toHid (fun (W : World) (bA bS : Nat) (k : Rd W bA bS L 0) => wNext_any hL hm k)
  rw [e0] at H0
  have H1 := toHid (fun (W : World) (bA bS : Nat) (k : Rd W bA bS L 1) => wNext_any hL hm k)
  rw [e1] at H1
  have H2 := toHid (fun (W : World) (bA bS : Nat) (k : Rd W bA bS L 2) => wNext_any hL hm k)
  rw [e2] at H2
  clear e0 e1 e2
  have t0 := trivial
  have t1 := trivial
  have t2 := trivial
  go_enter Try.func23, Try.ntmps23
  go_wp2_with (first
      | (go_at_call 41; refine (wReading_any _).mono ?_; rintro e w0 ⟨bA, bS, rfl, R9, hA9, hS9, h9⟩
         have zA := R9.pos.1
         have zS := R9.txt.1
         simp only [World.size_alloc] at hA9 hS9
         have R0 := toHid (R9.alloc (.cells #[.int .i64 0, .int .i64 0, .int .i64 0, .slice none 0 0, .int .i64 0, .int .i64 0, .int .i64 0, .int .i64 0, .int .i64 0, .bool false, .bool false] 28))
         have A0 := toHid (Box.new w0 #[.int .i64 0, .int .i64 0, .int .i64 0, .slice none 0 0, .int .i64 0, .int .i64 0, .int .i64 0, .int .i64 0, .int .i64 0, .bool false, .bool false] 28)
         have E0 := toHid (((Box.new w #[.int .i64 0, .int .i64 0, .int .i64 0, .slice none 0 0, .int .i64 0, .int .i64 0, .int .i64 0, .int .i64 0, .int .i64 0, .bool false, .bool false] 28).below h9).alloc (.cells #[.int .i64 0, .int .i64 0, .int .i64 0, .slice none 0 0, .int .i64 0, .int .i64 0, .int .i64 0, .int .i64 0, .int .i64 0, .bool false, .bool false] 28))
         have G0 := toHid ((((Below.refl _ w).onA (.cells #[.int .i64 0, .int .i64 0, .int .i64 0, .slice none 0 0, .int .i64 0, .int .i64 0, .int .i64 0, .int .i64 0, .int .i64 0, .bool false, .bool false] 28)).on h9).onA (.cells #[.int .i64 0, .int .i64 0, .int .i64 0, .slice none 0 0, .int .i64 0, .int .i64 0, .int .i64 0, .int .i64 0, .int .i64 0, .bool false, .bool false] 28))
         have n2 : Hid (w.heap.size ≠ bA) := toHid (by omega)
         have n3 : Hid (w0.heap.size ≠ bA) := toHid (by omega)
         have m3 : Hid (w0.heap.size ≠ bS) := toHid (by omega)
         have n4 : Hid (w.heap.size ≤ bA) := toHid (by omega)
         have n5 : w0.heap.size ≠ w.heap.size := by omega
         have n5' : w.heap.size ≠ w0.heap.size := by omega
         have n6 : Hid (w.heap.size ≤ w0.heap.size) := toHid (by omega)
         have n7 : Hid (w.heap.size < w0.heap.size) := toHid (by omega)
         clear R9 hA9 hS9 h9 zA zS)
      | (go_at_call 50; clear t0; refine (H0.out _ _ _ R0.out).mono ?_; rintro e w1 ⟨rfl, R9, g9⟩
         have A9 := A0.out.grown g9 n3.out
         have E9 := E0.out.grown g9 n2.out
         have G9 := G0.out.grown g9 G0.out.size (fun j hj => by cases hj; exact n4.out)
         obtain ⟨a1, a2, a3⟩ := id A9
         obtain ⟨c1, c2, c3⟩ := id E9
         have R1 := toHid (R9.setO (x := w0.heap.size) 0 (.int .i64 z0) n3.out m3.out)
         have A1 := toHid (A9.setS (ys := #[.int .i64 z0, .int .i64 0, .int .i64 0, .slice none 0 0, .int .i64 0, .int .i64 0, .int .i64 0, .int .i64 0, .int .i64 0, .bool false, .bool false]) 0 (.int .i64 z0) (by simp) (by simp))
         have E1 := toHid (E9.setO w0.heap.size 0 (.int .i64 z0) n5)
         have G1 := toHid (G9.setCell (p := ⟨w0.heap.size, 0, none⟩) n6.out (.int .i64 z0))
         clear R9 g9 A9 E9 G9)
      | (go_at_call 50; clear t1; refine (H1.out _ _ _ R1.out).mono ?_; rintro e w2 ⟨rfl, R9, g9⟩
         have A9 := A1.out.grown g9 n3.out
         have E9 := E1.out.grown g9 n2.out
         have G9 := G1.out.grown g9 G1.out.size (fun j hj => by cases hj; exact n4.out)
         clear a1 a2 a3; obtain ⟨a1, a2, a3⟩ := id A9
         clear c1 c2 c3; obtain ⟨c1, c2, c3⟩ := id E9
         have R2 := toHid (R9.setO (x := w0.heap.size) 1 (.int .i64 z1) n3.out m3.out)
         have A2 := toHid (A9.setS (ys := #[.int .i64 z0, .int .i64 z1, .int .i64 0, .slice none 0 0, .int .i64 0, .int .i64 0, .int .i64 0, .int .i64 0, .int .i64 0, .bool false, .bool false]) 1 (.int .i64 z1) (by simp) (by simp))
         have E2 := toHid (E9.setO w0.heap.size 1 (.int .i64 z1) n5)
         have G2 := toHid (G9.setCell (p := ⟨w0.heap.size, 1, none⟩) n6.out (.int .i64 z1))
         clear R9 g9 A9 E9 G9)
      | (go_at_call 50; clear t2; refine (H2.out _ _ _ R2.out).mono ?_; rintro e w3 ⟨rfl, R9, g9⟩
         have A9 := A2.out.grown g9 n3.out
         have E9 := E2.out.grown g9 n2.out
         have G9 := G2.out.grown g9 G2.out.size (fun j hj => by cases hj; exact n4.out)
         clear a1 a2 a3; obtain ⟨a1, a2, a3⟩ := id A9
         clear c1 c2 c3; obtain ⟨c1, c2, c3⟩ := id E9
         have R3 := toHid (R9.setO (x := w0.heap.size) 2 (.int .i64 z2) n3.out m3.out)
         have A3 := toHid (A9.setS (ys := #[.int .i64 z0, .int .i64 z1, .int .i64 z2, .slice none 0 0, .int .i64 0, .int .i64 0, .int .i64 0, .int .i64 0, .int .i64 0, .bool false, .bool false]) 2 (.int .i64 z2) (by simp) (by simp))
         have E3 := toHid (E9.setO w0.heap.size 2 (.int .i64 z2) n5)
         have G3 := toHid (G9.setCell (p := ⟨w0.heap.size, 2, none⟩) n6.out (.int .i64 z2))
         clear R9 g9 A9 E9 G9))
  have S9 := E3.out.set11 (.int .i64 z0) (.int .i64 z1) (.int .i64 z2) (.slice none 0 0) (.int .i64 0) (.int .i64 0) (.int .i64 0) (.int .i64 0) (.int .i64 0) (.bool false) (.bool false)
  refine bodyPost_ret (v := .agg #[.int .i64 z0, .int .i64 z1, .int .i64 z2, .slice none 0 0, .int .i64 0, .int .i64 0, .int .i64 0, .int .i64 0, .int .i64 0, .bool false, .bool false]) (by simp [results, Try.results23, go_sem, c2]) rfl ?_
  exact ⟨_, _, rfl, RowI.nil0, G3.out.trans S9.2.below⟩

end Go.Proofs.Ytkalamplagopnaa
