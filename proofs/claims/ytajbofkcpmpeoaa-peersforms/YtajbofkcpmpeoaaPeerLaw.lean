
/-
  What the statements about peers ask first: that the program answers at some peers at all.
-/
import Derived.Test.YtajbofkcpmpeoaaPeerC
import Derived.Test.YtajbofkcpmpeoaaNum
namespace Go.Proofs.Ytajbofkcpmpeoaa
open Go.ChangeShapes Go.WideShapes Go.ChangeAt Go.RowKit

/-- A block of ints, as a row of them. -/
theorem Box.rowI {w : World} {b n : Nat} {cs : Array Value} (xs : List Int) (h : Box w b cs) (hc : cs.toList = xs.map (Value.int .i64)) (hn : n = xs.length) (hm : n ≤ maxLen) : RowI b (b + 1) w (.slice (some ⟨b, 0, none⟩) n n) xs := by
  subst hn
  refine ⟨_, _, rfl, ⟨Nat.le_refl _, fun h => by cases h⟩, hm, fun _ => ⟨b, 0, rfl, Nat.le_refl _, Nat.lt_succ_self _, fun j hj => ⟨?_, ?_⟩⟩⟩
  · rw [Nat.zero_add, h.2.1 j, ← Array.getElem?_toList, hc, List.getElem?_map, List.getElem?_eq_getElem hj]
    simp [List.getD, List.getElem?_eq_getElem hj]
  · rw [Nat.zero_add]
    exact h.2.2 j
theorem sameI_at {lo hi lo' hi' : Nat} {w : World} {v u : Value} {xs ys : List Int} (hx : RowI lo hi w v xs) (hy : RowI lo' hi' w u ys) {b : Bool} (hB : decide (xs = ys) = b) :
    Calls Try.prog 16 #[v, u] w fun e w' => e = .returned (.bool b) ∧ Below w.heap.size w w' :=
  hB ▸ (sameInts_any hx hy).mono fun _ _ ⟨he, q, hq⟩ => ⟨he, hq ▸ (Below.refl _ w).onD q⟩

set_option maxHeartbeats 4000000 in
theorem awake7_any (w : World) :
    Calls Try.prog 22 #[] w fun e w' => e = .returned (.bool true) ∧ Below w.heap.size w w' := by
  have p1 := trivial
  have p2 := trivial
  have p3 := trivial
  have q1 := trivial
  have q2 := trivial
  have B0 := Box.new w #[.int .i64 101, .int .i64 2, .int .i64 90, .int .i64 1] 43
  have R0 := Box.rowP (n := 2) [⟨101, 2⟩, ⟨90, 1⟩] B0 rfl rfl (by decide)
  have z0 : w.heap.size + 1 ≤ _ := B0.1
  clear B0
  go_enter Try.func22, Try.ntmps22
  go_wp2_with (first
    | (go_at_call 10; clear p1; refine (pHeard_at (ys := [⟨101, 2⟩, ⟨200, 0⟩, ⟨90, 1⟩]) (err := 0) R0 z0 _ _ (by decide +kernel) (by decide +kernel)).mono ?_; rintro e w1 ⟨o1, rfl, r1, h1⟩
       have R1 := R0.below h1 z0
       have z1 := Nat.le_trans z0 h1.size)
    | (go_at_call 10; clear p2; refine (pHeard_at (ys := [⟨101, 2⟩, ⟨90, 0⟩]) (err := 0) R1 z1 _ _ (by decide +kernel) (by decide +kernel)).mono ?_; rintro e w2 ⟨o2, rfl, r2, h2⟩
       have R2 := R1.below h2 z1
       have z2 := Nat.le_trans z1 h2.size)
    | (go_at_call 12; clear q1; refine (pAge_at (ys := [⟨90, 2⟩]) (zs := [101]) (err := 0) R2 z2 _ (by decide +kernel) (by decide +kernel) (by decide +kernel)).mono ?_; rintro e w3 ⟨o3, l3, rfl, r3, s3, h3⟩
       have R3 := R2.below h3 z2
       have z3 := Nat.le_trans z2 h3.size)
    | (go_at_call 10; clear p3; refine (pHeard_at (ys := []) (err := 700) R3 z3 _ _ (by decide +kernel) (by decide +kernel)).mono ?_; rintro e w4 ⟨o4, rfl, r4, h4⟩
       have R4 := R3.below h4 z3
       have z4 := Nat.le_trans z3 h4.size)
    | (go_at_call 12; clear q2; refine (pAge_at (ys := []) (zs := []) (err := 700) R4 z4 _ (by decide +kernel) (by decide +kernel) (by decide +kernel)).mono ?_; rintro e w5 ⟨o5, l5, rfl, r5, s5, h5⟩
       have t1 := trivial
       have t2 := trivial
       clear r4 r5 s5
       have k5 := ((h3.on h4).on h5)
       have R5 := R4.below h5 z4
       have z5 := Nat.le_trans z4 h5.size
       have c1 := toHid (r1.below (h2.on k5) (Nat.le_refl _))
       have c2 := toHid (r2.below k5 (Nat.le_refl _))
       have c3 := toHid (r3.below (h4.on h5) (Nat.le_refl _))
       have d3 := toHid (s3.below (h4.on h5) (Nat.le_refl _))
       have y1 := (h2.on k5).size
       have y2 := k5.size
       have y3 := (h4.on h5).size
       clear r1 r2 r3 s3 R0 R1 R2 R3 R4 z0 z1 z2 z3 z4)
    | (go_at_call 14; clear t1
       have BA := Box.new w5 #[.int .i64 101, .int .i64 2, .int .i64 200, .int .i64 0, .int .i64 90, .int .i64 1] 43
       refine (sameP_at (c1.out.below ((Below.refl _ _).onA _) y1) (Box.rowP (n := 3) [⟨101, 2⟩, ⟨200, 0⟩, ⟨90, 1⟩] BA rfl rfl (by decide)) (b := true) (by decide +kernel)).mono ?_; rintro e w6 ⟨rfl, h6⟩
       clear BA
       have k6 := ((Below.refl _ w5).onA _).on h6
       have z6 := k6.size)
    | (go_at_call 14; clear t2
       have BA := Box.new w6 #[.int .i64 101, .int .i64 2, .int .i64 90, .int .i64 0] 43
       refine (sameP_at (c2.out.below (k6.onA _) y2) (Box.rowP (n := 2) [⟨101, 2⟩, ⟨90, 0⟩] BA rfl rfl (by decide)) (b := true) (by decide +kernel)).mono ?_; rintro e w7 ⟨rfl, h7⟩
       clear BA
       have k7 := (k6.onA _).on h7
       have z7 := k7.size)
    | (go_at_call 14
       have BA := Box.new w7 #[.int .i64 90, .int .i64 2] 43
       refine (sameP_at (c3.out.below (k7.onA _) y3) (Box.rowP (n := 1) [⟨90, 2⟩] BA rfl rfl (by decide)) (b := true) (by decide +kernel)).mono ?_; rintro e w8 ⟨rfl, h8⟩
       clear BA
       have k8 := (k7.onA _).on h8)
    | (go_at_call 16
       have BA := Box.new w8 #[.int .i64 101] 3
       refine (sameI_at (d3.out.below (k8.onA _) y3) (Box.rowI (n := 1) [101] BA rfl rfl (by decide)) (b := true) (by decide +kernel)).mono ?_; rintro e w9 ⟨rfl, h9⟩
       clear BA
       have k9 := (k8.onA _).on h9)
    | (go_at_call 17; refine (pMay_is (r := true) (R5.below k9 z5) (Nat.le_trans z5 k9.size) (by decide +kernel)).mono ?_; rintro e w10 ⟨rfl, h10⟩)
    | (go_at_call 15; refine (num_any _ _).mono ?_; rintro e w' ⟨rfl, hw'⟩; subst w'))
  go_ret
  exact ⟨rfl, (((((Below.refl _ w).onA _).on h1).on h2).on k5).on (k9.on h10)⟩

end Go.Proofs.Ytajbofkcpmpeoaa
