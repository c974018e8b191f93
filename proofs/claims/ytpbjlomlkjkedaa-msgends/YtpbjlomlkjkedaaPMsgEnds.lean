
/-
  The statement MsgEnds: a message whose From and To are turned round may be as before, and with other places too, whenever they differ.
-/
import Derived.Test.YtpbjlomlkjkedaaRows
import Derived.Test.YtpbjlomlkjkedaaOpen
import Derived.Test.YtpbjlomlkjkedaaMsgLaw
import Derived.Test.YtpbjlomlkjkedaaMsgRow
import Derived.Test.YtpbjlomlkjkedaaCalm
import Derived.Test.YtpbjlomlkjkedaaOld
import Derived.Test.YtpbjlomlkjkedaaOpenM
import Derived.Test.YtpbjlomlkjkedaaAnyInv
import Derived.Deep.DeepCutAuto
import Derived.Deep.CutRange
import Derived.Deep.CutBlock
namespace Go.Proofs.Ytpbjlomlkjkedaa.msgEnds
open Go.ChangeShapes Go.WideShapes Go.ChangeAt Go.RowKit
set_option linter.unusedVariables false

/-! ### The walk -/
set_option maxHeartbeats 8000000 in
theorem walk (v0 : Value) (x0 : MgO) (a1 : Int) (a2 : Int) (w : World) (r0 : v0 = .agg #[.int .i64 x0.n, .int .i64 x0.a, .int .i64 x0.b, x0.v, .int .i64 x0.k, .int .i64 x0.t.k, .int .i64 x0.t.c, .int .i64 x0.t.u, .int .i64 x0.t.x, .bool x0.t.g, .bool x0.h]) (h0 : RowI 0 w.heap.size w x0.v x0.is) (s0 : x0.is.length * 8 ≤ 140737488351232) (w1 : (Lit.int .i64 a1).wf = true) (w2 : (Lit.int .i64 a2).wf = true) :
    Calls Try.prog 5 #[v0, .int .i64 a1, .int .i64 a2] w fun e w' => e = .returned (.bool true) ∧ Below w.heap.size w w' := by
  obtain ⟨n, a, b, is, k, ⟨tk, tc, tu, tx, tg⟩, h, v⟩ := x0
  dsimp only at r0 h0 s0
  subst r0
  have B1 := toHid (fun (cs : Array Value) (t : TypeId) => Box.new w cs t)
  have V1 := toHid (fun o : Obj => h0.alloc o)
  obtain ⟨p, c, rfl, -⟩ := h0
  go_enter Try.func5, Try.ntmps5
  go_upto_region 3 with (first
    | (go_at_call 11; refine (awake12_any _).mono ?_; rintro e w1 ⟨rfl, h1⟩
       have BM := toHid ((B1.out _ _).below h1)
       have RM := toHid (((V1.out _).below h1 (by simp)).wide (Nat.le_refl _) (Nat.le_trans (by simp) h1.size))
       have hB := toHid (((Below.refl _ w).onA _).on h1)
       clear h1))
  have HC := toHid (fun (W : World) (hb : Below w1.heap.size w1 W) => copyMsg_any (RM.out.below hb (Nat.le_refl _)) (by omega) n a b k tk tc tu tx tg h)
  clear B1 V1
  go_cut [7, 8] from 12 to 15 (fun v7 v8 wx => ∃ (p2 p3 : Option Addr) (c2 c3 x7 x8 lo2 hi2 lo3 hi3 : Nat), v7 = .pointer (some ⟨x7, 0, none⟩) ∧ v8 = .pointer (some ⟨x8, 0, none⟩) ∧ Below w1.heap.size w1 wx ∧ w1.heap.size ≤ x7 ∧ w1.heap.size ≤ x8 ∧ x7 ≠ x8 ∧
      Box wx x7 #[.int .i64 n, .int .i64 a, .int .i64 b, .slice p2 is.length c2, .int .i64 k, .int .i64 tk, .int .i64 tc, .int .i64 tu, .int .i64 tx, .bool tg, .bool h] ∧ Box wx x8 #[.int .i64 n, .int .i64 a, .int .i64 b, .slice p3 is.length c3, .int .i64 k, .int .i64 tk, .int .i64 tc, .int .i64 tu, .int .i64 tx, .bool tg, .bool h] ∧ RowI lo2 hi2 wx (.slice p2 is.length c2) is ∧ hi2 ≤ wx.heap.size ∧ (x7 < lo2 ∨ hi2 ≤ x7) ∧ (x8 < lo2 ∨ hi2 ≤ x8) ∧ RowI lo3 hi3 wx (.slice p3 is.length c3) is ∧ hi3 ≤ wx.heap.size ∧ (x7 < lo3 ∨ hi3 ≤ x7) ∧ (x8 < lo3 ∨ hi3 ≤ x8))
  case first =>
    refine wp_region_inv (by kernel_rfl) (by kernel_rfl) (fun (f : Nat → Bool) (ac : Act) (w' : World) => ∃ (v12 v13 v14 v15 v7 v8 : Value) (p2 p3 : Option Addr) (c2 c3 lo2 hi2 lo3 hi3 x7 x8 : Nat),
      ac = { tmps := #[.agg #[.int .i64 n, .int .i64 a, .int .i64 b, .slice p is.length c, .int .i64 k, .int .i64 tk, .int .i64 tc, .int .i64 tu, .int .i64 tx, .bool tg, .bool h], .int .i64 a1, .int .i64 a2, .pointer (some ⟨w.heap.size, 0, none⟩), undef, undef, .bool false, v7, v8, undef, .bool true, .bool false, v12, v13, v14, v15, undef, undef, undef, undef, undef, undef, undef, undef, undef, undef, undef, undef, undef, undef, undef, undef, undef, undef, undef, undef, undef, undef, undef, undef, undef, undef, undef, undef, undef, undef, undef, undef, undef, undef, undef, undef], defers := [] } ∧ Below w1.heap.size w1 w' ∧ (f 0 = true → v12 = .agg #[.int .i64 n, .int .i64 a, .int .i64 b, .slice p is.length c, .int .i64 k, .int .i64 tk, .int .i64 tc, .int .i64 tu, .int .i64 tx, .bool tg, .bool h]) ∧ (f 2 = true → v14 = .agg #[.int .i64 n, .int .i64 a, .int .i64 b, .slice p is.length c, .int .i64 k, .int .i64 tk, .int .i64 tc, .int .i64 tu, .int .i64 tx, .bool tg, .bool h]) ∧
      (f 1 = true → v13 = .agg #[.int .i64 n, .int .i64 a, .int .i64 b, .slice p2 is.length c2, .int .i64 k, .int .i64 tk, .int .i64 tc, .int .i64 tu, .int .i64 tx, .bool tg, .bool h] ∧ RowI lo2 hi2 w' (.slice p2 is.length c2) is ∧ w1.heap.size ≤ lo2 ∧ hi2 ≤ w'.heap.size) ∧
      (f 3 = true → v15 = .agg #[.int .i64 n, .int .i64 a, .int .i64 b, .slice p3 is.length c3, .int .i64 k, .int .i64 tk, .int .i64 tc, .int .i64 tu, .int .i64 tx, .bool tg, .bool h] ∧ RowI lo3 hi3 w' (.slice p3 is.length c3) is ∧ w1.heap.size ≤ lo3 ∧ hi3 ≤ w'.heap.size) ∧
      (f 4 = true → v7 = .pointer (some ⟨x7, 0, none⟩) ∧ w1.heap.size ≤ x7 ∧ x7 < w'.heap.size) ∧
      (f 5 = true → v8 = .pointer (some ⟨x8, 0, none⟩) ∧ w1.heap.size ≤ x8 ∧ x8 < w'.heap.size) ∧
      (f 1 = true → f 4 = true → x7 < lo2 ∨ hi2 ≤ x7) ∧ (f 1 = true → f 5 = true → x8 < lo2 ∨ hi2 ≤ x8) ∧ (f 3 = true → f 4 = true → x7 < lo3 ∨ hi3 ≤ x7) ∧ (f 3 = true → f 5 = true → x8 < lo3 ∨ hi3 ≤ x8) ∧
      (f 4 = true → f 5 = true → x7 ≠ x8) ∧
      (f 4 = true → f 6 = false → Box w' x7 #[.int .i64 0, .int .i64 0, .int .i64 0, .slice none 0 0, .int .i64 0, .int .i64 0, .int .i64 0, .int .i64 0, .int .i64 0, .bool false, .bool false]) ∧ (f 5 = true → f 7 = false → Box w' x8 #[.int .i64 0, .int .i64 0, .int .i64 0, .slice none 0 0, .int .i64 0, .int .i64 0, .int .i64 0, .int .i64 0, .int .i64 0, .bool false, .bool false]) ∧
      (f 6 = true → f 4 = true ∧ f 5 = true ∧ f 1 = true ∧ f 3 = true ∧ Box w' x7 #[.int .i64 n, .int .i64 a, .int .i64 b, .slice p2 is.length c2, .int .i64 k, .int .i64 tk, .int .i64 tc, .int .i64 tu, .int .i64 tx, .bool tg, .bool h]) ∧ (f 7 = true → f 4 = true ∧ f 5 = true ∧ f 1 = true ∧ f 3 = true ∧ Box w' x8 #[.int .i64 n, .int .i64 a, .int .i64 b, .slice p3 is.length c3, .int .i64 k, .int .i64 tk, .int .i64 tc, .int .i64 tu, .int .i64 tx, .bool tg, .bool h])) ?_ ?_ ?_
    · exact ⟨undef, undef, undef, undef, undef, undef, none, none, 0, 0, 0, 0, 0, 0, 0, 0, rfl, (Below.refl _ w1).onD 1, nofun, nofun, nofun, nofun, nofun, nofun, nofun, nofun, nofun, nofun, nofun, nofun, nofun, nofun, nofun⟩
    · intro f i o ho hf hd
      match i, ho, hf with
      | 0, ho, hf =>
        simp only [List.getElem?_toArray, List.getElem?_cons_zero, Option.some.injEq] at ho
        subst ho
        rintro ac w' ⟨v12, v13, v14, v15, v7, v8, p2, p3, c2, c3, lo2, hi2, lo3, hi3, x7, x8, rfl, hb, g0, g2, g1, g3, g4, g5, d1, d2, d3, d4, d5, e4, e5, e6, e7⟩ K hK
        replace hK := toHid hK
        obtain ⟨-, m2, m3⟩ := BM.out.below hb
        go_wp2
        exact hK.out _ _ ⟨_, v13, v14, v15, v7, v8, p2, p3, c2, c3, lo2, hi2, lo3, hi3, x7, x8, rfl, hb, fun _ => rfl, g2, g1, g3, g4, g5, d1, d2, d3, d4, d5, e4, e5, e6, e7⟩
      | 1, ho, hf =>
        simp only [List.getElem?_toArray, List.getElem?_cons_zero, List.getElem?_cons_succ, Option.some.injEq] at ho
        subst ho
        have q0 := hd ⟨0, .data⟩ (by simp) (by rfl)
        rintro ac w' ⟨v12, v13, v14, v15, v7, v8, p2, p3, c2, c3, lo2, hi2, lo3, hi3, x7, x8, rfl, hb, g0, g2, g1, g3, g4, g5, d1, d2, d3, d4, d5, e4, e5, e6, e7⟩ K hK
        replace hK := toHid hK
        obtain rfl := g0 q0
        go_wp2_with (go_at_call 6; refine (HC.out _ hb).mono ?_; rintro e w9 ⟨p9, c9, rfl, R9, h9⟩)
        exact hK.out _ _ ⟨_, _, v14, v15, v7, v8, p9, p3, c9, c3, w'.heap.size, w9.heap.size, lo3, hi3, x7, x8, rfl, hb.on h9, (fun _ => rfl), g2, fun _ => ⟨rfl, R9, hb.size, Nat.le_refl _⟩, fun q => ⟨(g3 q).1, (g3 q).2.1.below h9 (g3 q).2.2.2, (g3 q).2.2.1, Nat.le_trans (g3 q).2.2.2 h9.size⟩, fun q => ⟨(g4 q).1, (g4 q).2.1, Nat.lt_of_lt_of_le (g4 q).2.2 h9.size⟩, fun q => ⟨(g5 q).1, (g5 q).2.1, Nat.lt_of_lt_of_le (g5 q).2.2 h9.size⟩, fun _ q => .inl (g4 q).2.2, fun _ q => .inl (g5 q).2.2, d3, d4, d5, fun q r => (e4 q r).below h9, fun q r => (e5 q r).below h9, fun q => absurd (e6 q).2.2.1 (by simp [hf]), fun q => absurd (e7 q).2.2.1 (by simp [hf])⟩
      | 2, ho, hf =>
        simp only [List.getElem?_toArray, List.getElem?_cons_zero, List.getElem?_cons_succ, Option.some.injEq] at ho
        subst ho
        rintro ac w' ⟨v12, v13, v14, v15, v7, v8, p2, p3, c2, c3, lo2, hi2, lo3, hi3, x7, x8, rfl, hb, g0, g2, g1, g3, g4, g5, d1, d2, d3, d4, d5, e4, e5, e6, e7⟩ K hK
        replace hK := toHid hK
        obtain ⟨-, m2, m3⟩ := BM.out.below hb
        go_wp2
        exact hK.out _ _ ⟨v12, v13, _, v15, v7, v8, p2, p3, c2, c3, lo2, hi2, lo3, hi3, x7, x8, rfl, hb, g0, fun _ => rfl, g1, g3, g4, g5, d1, d2, d3, d4, d5, e4, e5, e6, e7⟩
      | 3, ho, hf =>
        simp only [List.getElem?_toArray, List.getElem?_cons_zero, List.getElem?_cons_succ, Option.some.injEq] at ho
        subst ho
        have q0 := hd ⟨2, .data⟩ (by simp) (by rfl)
        rintro ac w' ⟨v12, v13, v14, v15, v7, v8, p2, p3, c2, c3, lo2, hi2, lo3, hi3, x7, x8, rfl, hb, g0, g2, g1, g3, g4, g5, d1, d2, d3, d4, d5, e4, e5, e6, e7⟩ K hK
        replace hK := toHid hK
        obtain rfl := g2 q0
        go_wp2_with (go_at_call 6; refine (HC.out _ hb).mono ?_; rintro e w9 ⟨p9, c9, rfl, R9, h9⟩)
        exact hK.out _ _ ⟨v12, v13, _, _, v7, v8, p2, p9, c2, c9, lo2, hi2, w'.heap.size, w9.heap.size, x7, x8, rfl, hb.on h9, g0, (fun _ => rfl), fun q => ⟨(g1 q).1, (g1 q).2.1.below h9 (g1 q).2.2.2, (g1 q).2.2.1, Nat.le_trans (g1 q).2.2.2 h9.size⟩, fun _ => ⟨rfl, R9, hb.size, Nat.le_refl _⟩, fun q => ⟨(g4 q).1, (g4 q).2.1, Nat.lt_of_lt_of_le (g4 q).2.2 h9.size⟩, fun q => ⟨(g5 q).1, (g5 q).2.1, Nat.lt_of_lt_of_le (g5 q).2.2 h9.size⟩, d1, d2, fun _ q => .inl (g4 q).2.2, fun _ q => .inl (g5 q).2.2, d5, fun q r => (e4 q r).below h9, fun q r => (e5 q r).below h9, fun q => absurd (e6 q).2.2.2.1 (by simp [hf]), fun q => absurd (e7 q).2.2.2.1 (by simp [hf])⟩
      | 4, ho, hf =>
        simp only [List.getElem?_toArray, List.getElem?_cons_zero, List.getElem?_cons_succ, Option.some.injEq] at ho
        subst ho
        rintro ac w' ⟨v12, v13, v14, v15, v7, v8, p2, p3, c2, c3, lo2, hi2, lo3, hi3, x7, x8, rfl, hb, g0, g2, g1, g3, g4, g5, d1, d2, d3, d4, d5, e4, e5, e6, e7⟩ K hK
        replace hK := toHid hK
        go_wp2
        exact hK.out _ _ ⟨v12, v13, v14, v15, _, v8, p2, p3, c2, c3, lo2, hi2, lo3, hi3, w'.heap.size, x8, rfl, hb.onA _, g0, g2, fun q => ⟨(g1 q).1, (g1 q).2.1.alloc _, (g1 q).2.2.1, Nat.le_trans (g1 q).2.2.2 (by simp)⟩, fun q => ⟨(g3 q).1, (g3 q).2.1.alloc _, (g3 q).2.2.1, Nat.le_trans (g3 q).2.2.2 (by simp)⟩, fun _ => ⟨rfl, hb.size, by simp⟩, fun q => ⟨(g5 q).1, (g5 q).2.1, Nat.lt_of_lt_of_le (g5 q).2.2 (by simp)⟩, fun q _ => .inr (g1 q).2.2.2, d2, fun q _ => .inr (g3 q).2.2.2, d4, fun _ q => Nat.ne_of_gt (g5 q).2.2, fun _ _ => Box.new w' _ _, fun q r => (e5 q r).alloc _, fun q => absurd (e6 q).1 (by simp [hf]), fun q => absurd (e7 q).1 (by simp [hf])⟩
      | 5, ho, hf =>
        simp only [List.getElem?_toArray, List.getElem?_cons_zero, List.getElem?_cons_succ, Option.some.injEq] at ho
        subst ho
        rintro ac w' ⟨v12, v13, v14, v15, v7, v8, p2, p3, c2, c3, lo2, hi2, lo3, hi3, x7, x8, rfl, hb, g0, g2, g1, g3, g4, g5, d1, d2, d3, d4, d5, e4, e5, e6, e7⟩ K hK
        replace hK := toHid hK
        go_wp2
        exact hK.out _ _ ⟨v12, v13, v14, v15, v7, _, p2, p3, c2, c3, lo2, hi2, lo3, hi3, x7, w'.heap.size, rfl, hb.onA _, g0, g2, fun q => ⟨(g1 q).1, (g1 q).2.1.alloc _, (g1 q).2.2.1, Nat.le_trans (g1 q).2.2.2 (by simp)⟩, fun q => ⟨(g3 q).1, (g3 q).2.1.alloc _, (g3 q).2.2.1, Nat.le_trans (g3 q).2.2.2 (by simp)⟩, fun q => ⟨(g4 q).1, (g4 q).2.1, Nat.lt_of_lt_of_le (g4 q).2.2 (by simp)⟩, fun _ => ⟨rfl, hb.size, by simp⟩, d1, fun q _ => .inr (g1 q).2.2.2, d3, fun q _ => .inr (g3 q).2.2.2, fun q _ => Nat.ne_of_lt (g4 q).2.2, fun q r => (e4 q r).alloc _, fun _ _ => Box.new w' _ _, fun q => absurd (e6 q).2.1 (by simp [hf]), fun q => absurd (e7 q).2.1 (by simp [hf])⟩
      | 6, ho, hf =>
        simp only [List.getElem?_toArray, List.getElem?_cons_zero, List.getElem?_cons_succ, Option.some.injEq] at ho
        subst ho
        have q1 := hd ⟨1, .data⟩ (by simp) (by rfl)
        have q3 := hd ⟨3, .chain⟩ (by simp) (by rfl)
        have q4 := hd ⟨4, .data⟩ (by simp) (by rfl)
        have q5 := hd ⟨5, .phase⟩ (by simp) (by rfl)
        rintro ac w' ⟨v12, v13, v14, v15, v7, v8, p2, p3, c2, c3, lo2, hi2, lo3, hi3, x7, x8, rfl, hb, g0, g2, g1, g3, g4, g5, d1, d2, d3, d4, d5, e4, e5, e6, e7⟩ K hK
        replace hK := toHid hK
        obtain ⟨rfl, k7, l7⟩ := g4 q4
        obtain ⟨rfl, k8, l8⟩ := g5 q5
        obtain ⟨rfl, R2, k2, l2⟩ := g1 q1
        obtain ⟨rfl, R3, k3, l3⟩ := g3 q3
        clear g1 g3 g4 g5
        have BX := e4 q4 hf
        obtain ⟨bx1, bx2, bx3⟩ := id BX
        obtain ⟨BY, ON⟩ := BX.set11 (.int .i64 n) (.int .i64 a) (.int .i64 b) (.slice p2 is.length c2) (.int .i64 k) (.int .i64 tk) (.int .i64 tc) (.int .i64 tu) (.int .i64 tx) (.bool tg) (.bool h)
        replace BY := toHid BY
        replace ON := toHid ON
        clear BX
        go_wp2
        have hx := d5 q4 q5
        have sz := ON.out.size
        exact hK.out _ _ ⟨v12, _, v14, _, _, _, p2, p3, c2, c3, lo2, hi2, lo3, hi3, x7, x8, rfl, hb.trans (ON.out.below.mono k7), g0, g2, fun _ => ⟨rfl, R2.only ON.out (by have := d1 q1 q4; omega), k2, by omega⟩, fun _ => ⟨rfl, R3.only ON.out (by have := d3 q3 q4; omega), k3, by omega⟩, fun _ => ⟨rfl, k7, by omega⟩, fun _ => ⟨rfl, k8, by omega⟩, d1, d2, d3, d4, d5, (fun _ q => by cases q), fun q r => (e5 q r).only ON.out (by omega), fun _ => ⟨q4, q5, q1, q3, BY.out⟩, fun q => ⟨q4, q5, q1, q3, (e7 q).2.2.2.2.only ON.out (by omega)⟩⟩
      | 7, ho, hf =>
        simp only [List.getElem?_toArray, List.getElem?_cons_zero, List.getElem?_cons_succ, Option.some.injEq] at ho
        subst ho
        have q1 := hd ⟨1, .phase⟩ (by simp) (by rfl)
        have q3 := hd ⟨3, .data⟩ (by simp) (by rfl)
        have q4 := hd ⟨4, .phase⟩ (by simp) (by rfl)
        have q5 := hd ⟨5, .data⟩ (by simp) (by rfl)
        have q6 := hd ⟨6, .chain⟩ (by simp) (by rfl)
        rintro ac w' ⟨v12, v13, v14, v15, v7, v8, p2, p3, c2, c3, lo2, hi2, lo3, hi3, x7, x8, rfl, hb, g0, g2, g1, g3, g4, g5, d1, d2, d3, d4, d5, e4, e5, e6, e7⟩ K hK
        replace hK := toHid hK
        obtain ⟨rfl, k7, l7⟩ := g4 q4
        obtain ⟨rfl, k8, l8⟩ := g5 q5
        obtain ⟨rfl, R2, k2, l2⟩ := g1 q1
        obtain ⟨rfl, R3, k3, l3⟩ := g3 q3
        clear g1 g3 g4 g5
        have BX := e5 q5 hf
        obtain ⟨bx1, bx2, bx3⟩ := id BX
        obtain ⟨BY, ON⟩ := BX.set11 (.int .i64 n) (.int .i64 a) (.int .i64 b) (.slice p3 is.length c3) (.int .i64 k) (.int .i64 tk) (.int .i64 tc) (.int .i64 tu) (.int .i64 tx) (.bool tg) (.bool h)
        replace BY := toHid BY
        replace ON := toHid ON
        clear BX
        go_wp2
        have hx := d5 q4 q5
        have sz := ON.out.size
        exact hK.out _ _ ⟨v12, _, v14, _, _, _, p2, p3, c2, c3, lo2, hi2, lo3, hi3, x7, x8, rfl, hb.trans (ON.out.below.mono k8), g0, g2, fun _ => ⟨rfl, R2.only ON.out (by have := d2 q1 q5; omega), k2, by omega⟩, fun _ => ⟨rfl, R3.only ON.out (by have := d4 q3 q5; omega), k3, by omega⟩, fun _ => ⟨rfl, k7, by omega⟩, fun _ => ⟨rfl, k8, by omega⟩, d1, d2, d3, d4, d5, fun q r => (e4 q r).only ON.out (by omega), (fun _ q => by cases q), fun q => ⟨q4, q5, q1, q3, (e6 q).2.2.2.2.only ON.out (by omega)⟩, fun _ => ⟨q4, q5, q1, q3, BY.out⟩⟩
      | j + 8, ho, hf => simp at ho
    · rintro f ac w' hf ⟨v12, v13, v14, v15, v7, v8, p2, p3, c2, c3, lo2, hi2, lo3, hi3, x7, x8, rfl, hb, g0, g2, g1, g3, g4, g5, d1, d2, d3, d4, d5, e4, e5, e6, e7⟩
      obtain ⟨q4, q5, q1, q3, BX⟩ := e6 (hf 6 (by simp))
      have BY := (e7 (hf 7 (by simp))).2.2.2.2
      obtain ⟨rfl, k7, l7⟩ := g4 q4
      obtain ⟨rfl, k8, l8⟩ := g5 q5
      obtain ⟨rfl, R2, k2, l2⟩ := g1 q1
      obtain ⟨rfl, R3, k3, l3⟩ := g3 q3
      clear g0 g1 g2 g3 g4 g5 e4 e5 e6 e7
      replace hf := toHid hf
      have D := toHid (And.intro (d1 q1 q4) (And.intro (d2 q1 q5) (And.intro (d3 q3 q4) (And.intro (d4 q3 q5) (d5 q4 q5)))))
      clear d1 d2 d3 d4 d5
      go_wp2
      go_meet
      exact ⟨p2, p3, c2, c3, x7, x8, lo2, hi2, lo3, hi3, rfl, rfl, hb, k7, k8, D.out.2.2.2.2, BX, BY, R2, l2, D.out.1, D.out.2.1, R3, l3, D.out.2.2.1, D.out.2.2.2.1⟩
  case rest =>
    obtain ⟨p2, p3, c2, c3, x7, x8, lo2, hi2, lo3, hi3, rfl, rfl, hbc, k7, k8, hx, BX, BY, R2, l2, d1, d2, R3, l3, d3, d4⟩ := hcut
    have BMc := BM.out.below hbc
    have z1 := BM.out.1
    have z2 := BMc.1
    obtain ⟨u1, hu1⟩ : ∃ u, a1 % 256 = u := ⟨_, rfl⟩
    obtain ⟨u2, hu2⟩ : ∃ u, a2 % 256 = u := ⟨_, rfl⟩
    have e1 : bits .and .i64 a1 255 = u1 := (and255 a1).trans hu1
    have e2 : bits .and .i64 a2 255 = u2 := (and255 a2).trans hu2
    have b1 : 0 ≤ u1 ∧ u1 ≤ 255 := by omega
    have b2 : 0 ≤ u2 ∧ u2 ≤ 255 := by omega
    replace b1 := toHid b1
    replace b2 := toHid b2
    clear hu1 hu2
    have n1 : w.heap.size ≠ x7 := by omega
    have n2 : w.heap.size ≠ x8 := by omega
    have n3 : x7 ≠ w.heap.size := by omega
    have n4 : x8 ≠ w.heap.size := by omega
    have n5 : x8 ≠ x7 := by omega
    have B7 := toHid ((((BX.setS (ys := #[.int .i64 n, .int .i64 b, .int .i64 b, .slice p2 is.length c2, .int .i64 k, .int .i64 tk, .int .i64 tc, .int .i64 tu, .int .i64 tx, .bool tg, .bool h]) 1 (.int .i64 b) (by simp) (by simp)).setS (ys := #[.int .i64 n, .int .i64 b, .int .i64 a, .slice p2 is.length c2, .int .i64 k, .int .i64 tk, .int .i64 tc, .int .i64 tu, .int .i64 tx, .bool tg, .bool h]) 2 (.int .i64 a) (by simp) (by simp)).setO x8 1 (.int .i64 u1) n5).setO x8 2 (.int .i64 u2) n5)
    have B8 := toHid ((((BY.setO x7 1 (.int .i64 b) hx).setO x7 2 (.int .i64 a) hx).setS (ys := #[.int .i64 n, .int .i64 u1, .int .i64 b, .slice p3 is.length c3, .int .i64 k, .int .i64 tk, .int .i64 tc, .int .i64 tu, .int .i64 tx, .bool tg, .bool h]) 1 (.int .i64 u1) (by simp) (by simp)).setS (ys := #[.int .i64 n, .int .i64 u1, .int .i64 u2, .slice p3 is.length c3, .int .i64 k, .int .i64 tk, .int .i64 tc, .int .i64 tu, .int .i64 tx, .bool tg, .bool h]) 2 (.int .i64 u2) (by simp) (by simp))
    have B0 := toHid ((((BMc.setO x7 1 (.int .i64 b) n3).setO x7 2 (.int .i64 a) n3).setO x8 1 (.int .i64 u1) n4).setO x8 2 (.int .i64 u2) n4)
    have O7 := ((Only.refl x7 (x7 + 1) wc).setCell (b := x7) (o := 1) (Nat.le_refl _) (Nat.lt_succ_self _) (.int .i64 b)).setCell (b := x7) (o := 2) (Nat.le_refl _) (Nat.lt_succ_self _) (.int .i64 a)
    have O8 := ((Only.refl x8 (x8 + 1) ((wc.setCell ⟨x7, 1, none⟩ (.int .i64 b)).setCell ⟨x7, 2, none⟩ (.int .i64 a))).setCell (b := x8) (o := 1) (Nat.le_refl _) (Nat.lt_succ_self _) (.int .i64 u1)).setCell (b := x8) (o := 2) (Nat.le_refl _) (Nat.lt_succ_self _) (.int .i64 u2)
    have Q2 := toHid ((R2.only O7 (by omega)).only O8 (by omega))
    have Q3 := toHid ((R3.only O7 (by omega)).only O8 (by omega))
    have hN := toHid ((hbc.trans (O7.below.mono k7)).trans (O8.below.mono k8))
    have sz := toHid (show _ = wc.heap.size from O8.size.trans O7.size)
    obtain ⟨-, m2, m3⟩ := BMc
    obtain ⟨-, s2, s3⟩ := BX
    obtain ⟨-, t2, t3⟩ := BY
    clear O7 O8 R2 R3
    go_upto_region 8 with (fail)
    generalize (((wc.setCell ⟨x7, 1, none⟩ (.int .i64 b)).setCell ⟨x7, 2, none⟩ (.int .i64 a)).setCell ⟨x8, 1, none⟩ (.int .i64 u1)).setCell ⟨x8, 2, none⟩ (.int .i64 u2) = wy at B7 B8 B0 Q2 Q3 hN sz ⊢
    clear m2 m3 s2 s3 t2 t3 hbc z2 HC n1 n2 n3 n4 n5 hx d1 d2 d3 d4 e1 e2 k7 k8
    replace Q2 := toHid (Q2.out.wide (Nat.zero_le _) (show hi2 ≤ wy.heap.size by have := sz.out; omega))
    replace Q3 := toHid (Q3.out.wide (Nat.zero_le _) (show hi3 ≤ wy.heap.size by have := sz.out; omega))
    have QM := toHid (RM.out.below hN.out (Nat.le_refl _))
    have zM := hN.out.size
    clear l2 l3 sz RM BM
    obtain ⟨r, E0⟩ : ∃ r, mgB n a b is k ⟨tk, tc, tu, tx, tg⟩ h = r := ⟨_, rfl⟩
    have E1 : Hid (mgB n b a is k ⟨tk, tc, tu, tx, tg⟩ h = r) := toHid (by rw [← E0, mgB, mgB, end_turn])
    replace E0 := toHid E0
    obtain ⟨m1, m2, m3⟩ := B0.out
    cases r with
    | false =>
      go_upto_region 9 with (first
        | (go_at_call 7; refine (mMay_is QM.out E0.out).mono ?_; rintro e w4 ⟨rfl, h4⟩))
      clear m1 m2 m3
      obtain ⟨s1, s2, s3⟩ := B7.out.below h4
      obtain ⟨t1, t2, t3⟩ := B8.out.below h4
      refine wp_region_below (by kernel_rfl) (by kernel_rfl) ?_
      repeat (first
        | go_big_quiet_skip
        | (go_big_quiet_want; go_big_quiet_op; go_big_quiet_on)
        | (refine wpQuiet_step (fun K hK => ?_)
           go_simp
           first
             | (refine hK _ ?_; clear hK K)
             | (refine ⟨_, fun w' hw' => rfl, hK _ ?_⟩; clear hK K)
             | (apply Exists.intro
                refine ⟨fun w' hw' => ?_, hK _ ?_⟩
                · (obtain ⟨hc', hf'⟩ := bcell hw'
                   first
                     | (go_simp; rfl)
                     | (go_at_call 10; refine (num_any _ _).mono ?_; rintro e w9 ⟨rfl, hw9⟩; subst w9; exact ⟨rfl, hw'⟩)
                     | (go_at_call 7; refine (mMay_any (lo := 0) (hi := wy.heap.size) (is := is) ?_ _ _ _ _ _ _ _ _ _ _).mono ?_; exact (Q2.out.below h4 (Nat.le_refl _)).below hw' h4.size; rintro e w9 ⟨rfl, h9⟩; exact ⟨ret_eq E1.out, hw'.on h9⟩))
                clear hK K)))
      refine wpQuiet_nil ?_
      intro wc hc0
      go_wp2
      go_ret
      exact ⟨rfl, ((hB.out.on hN.out).on h4).on hc0⟩
    | true =>
      have E2 : Hid (mgB n u1 u2 is k ⟨tk, tc, tu, tx, tg⟩ h = decide (u1 ≠ u2)) := toHid (by
        have := E0.out
        simp only [mgB, Bool.and_eq_true] at this
        have h1 := b1.out
        have h2 := b2.out
        rw [mgB, this.2, endB, plB_mk h1.1 (by omega), plB_mk h2.1 (by omega)]
        simp)
      by_cases hu : u1 = u2
      · subst hu
        replace E2 : Hid (mgB n u1 u1 is k ⟨tk, tc, tu, tx, tg⟩ h = false) := toHid (by rw [E2.out]; simp)
        go_upto_region 9 with (first
          | (go_at_call 7; refine (mMay_is QM.out E0.out).mono ?_; rintro e w4 ⟨rfl, h4⟩))
        clear m1 m2 m3
        obtain ⟨s1, s2, s3⟩ := B7.out.below h4
        obtain ⟨t1, t2, t3⟩ := B8.out.below h4
        refine wp_region_below (by kernel_rfl) (by kernel_rfl) ?_
        repeat (first
          | go_big_quiet_skip
          | (go_big_quiet_want; go_big_quiet_op; go_big_quiet_on)
          | (refine wpQuiet_step (fun K hK => ?_)
             go_simp
             first
               | (refine hK _ ?_; clear hK K)
               | (refine ⟨_, fun w' hw' => rfl, hK _ ?_⟩; clear hK K)
               | (apply Exists.intro
                  refine ⟨fun w' hw' => ?_, hK _ ?_⟩
                  · (obtain ⟨hc', hf'⟩ := bcell hw'
                     first
                       | (go_simp; rfl)
                       | (go_at_call 10; refine (num_any _ _).mono ?_; rintro e w9 ⟨rfl, hw9⟩; subst w9; exact ⟨rfl, hw'⟩)
                       | (go_at_call 7; refine (mMay_any (lo := 0) (hi := wy.heap.size) (is := is) ?_ _ _ _ _ _ _ _ _ _ _).mono ?_; (first | exact (Q2.out.below h4 (Nat.le_refl _)).below hw' h4.size | exact (Q3.out.below h4 (Nat.le_refl _)).below hw' h4.size); rintro e w9 ⟨rfl, h9⟩; first | exact ⟨ret_eq E1.out, hw'.on h9⟩ | exact ⟨ret_eq E2.out, hw'.on h9⟩))
                  clear hK K)))
        refine wpQuiet_nil ?_
        intro wc hc0
        go_wp2
        go_ret
        exact ⟨rfl, ((hB.out.on hN.out).on h4).on hc0⟩
      · have hu2 : (u1 == u2) = false := by simpa using hu
        have hu3 : (u1 != u2) = true := by simpa using hu
        replace E2 : Hid (mgB n u1 u2 is k ⟨tk, tc, tu, tx, tg⟩ h = true) := toHid (by rw [E2.out]; simpa using hu)
        go_upto_region 9 with (first
          | (go_at_call 7; refine (mMay_is QM.out E0.out).mono ?_; rintro e w4 ⟨rfl, h4⟩))
        clear m1 m2 m3
        obtain ⟨s1, s2, s3⟩ := B7.out.below h4
        obtain ⟨t1, t2, t3⟩ := B8.out.below h4
        refine wp_region_below (by kernel_rfl) (by kernel_rfl) ?_
        repeat (first
          | go_big_quiet_skip
          | (go_big_quiet_want; go_big_quiet_op; go_big_quiet_on)
          | (refine wpQuiet_step (fun K hK => ?_)
             go_simp
             first
               | (refine hK _ ?_; clear hK K)
               | (refine ⟨_, fun w' hw' => rfl, hK _ ?_⟩; clear hK K)
               | (apply Exists.intro
                  refine ⟨fun w' hw' => ?_, hK _ ?_⟩
                  · (obtain ⟨hc', hf'⟩ := bcell hw'
                     first
                       | (go_simp; rfl)
                       | (go_at_call 10; refine (num_any _ _).mono ?_; rintro e w9 ⟨rfl, hw9⟩; subst w9; exact ⟨rfl, hw'⟩)
                       | (go_at_call 7; refine (mMay_any (lo := 0) (hi := wy.heap.size) (is := is) ?_ _ _ _ _ _ _ _ _ _ _).mono ?_; (first | exact (Q2.out.below h4 (Nat.le_refl _)).below hw' h4.size | exact (Q3.out.below h4 (Nat.le_refl _)).below hw' h4.size); rintro e w9 ⟨rfl, h9⟩; first | exact ⟨ret_eq E1.out, hw'.on h9⟩ | exact ⟨ret_eq E2.out, hw'.on h9⟩))
                  clear hK K)))
        refine wpQuiet_nil ?_
        intro wc hc0
        go_wp2
        go_ret
        exact ⟨rfl, ((hB.out.on hN.out).on h4).on hc0⟩

/-! ### The row's step -/
set_option maxRecDepth 100000 in
theorem lifted (os : Os) (started : os.Started) (H : Type) (enc : TypeId × Value → H) :
    ReturnsInHanded {} Try.checked os 5 .any (Rows.msgEndsSpec.pre6 enc Try.prog Try.f5 Rows.msgEndsRow.domain false) (Rows.msgEndsSpec.post enc Try.prog Try.f5 false true false false) := by
  refine returnsInHanded_of_change_sized (C := Try.checked) ownK started (by kernel_rfl) Try.func5
    (ChangeSpec.witness6 (enc := enc) (C := Try.checked) false ⟨#[], #[.agg #[.int .i64 0, .int .i64 0, .int .i64 0, .slice none 0 0, .int .i64 0, .int .i64 0, .int .i64 0, .int .i64 0, .int .i64 0, .bool false, .bool false], .int .i64 0, .int .i64 0], []⟩ 8 (by kernel_rfl) (by kernel_rfl) (by kernel_rfl) (by kernel_rfl)) ?_
  intro W base args ds gs before hval0 hW hcnd hsz0 _
  have hsz : (DataW.weightsEach Try.prog (Try.f5.params.toList ++ Rows.msgEndsSpec.plain.varTypes Try.prog) (ds ++ gs)).all (· ≤ reachBytes) = true := hsz0
  have hval : ∀ (j : Nat) t v, Try.f5.params[j]? = some t → args[j]? = some v → Value.okWide Try.prog W .any base t v := hval0
  have hW' := hW
  obtain ⟨p, q, hA0, hV, rfl, hfz, hnd⟩ := hW
  have hA : DataW.TrodAll enc Try.prog W 0 (fun _ => true) true Try.f5.params.toList args.toList ds p := hA0
  rw [Try.params5] at hA hval hsz
  obtain ⟨v0, vs0, d0, ds0, p0, q0, hargs, rfl, rfl, h0, r0⟩ := trodAll_cons hA
  obtain ⟨v1, vs1, d1, ds1, p1, q1, rfl, rfl, rfl, h1, r1⟩ := trodAll_cons r0
  obtain ⟨v2, vs2, d2, ds2, p2, q2, rfl, rfl, rfl, h2, r2⟩ := trodAll_cons r1
  obtain ⟨rfl, rfl, rfl⟩ := trodAll_nil r2
  obtain rfl : args = #[v0, v1, v2] := by cases args; simp_all
  obtain ⟨rfl, rfl⟩ := trodVars_none hV
  clear r0 r1 r2
  have k0 := h0
  have lt0 : ∀ x ∈ p0, x.block < W.heap.size := by obtain ⟨m, hm⟩ := k0; exact DataW.trod_lt m _ _ _ hm
  have z0 : ∀ n ∈ d0.weights Try.prog 28, n ≤ reachBytes := fun n hn => by simpa using List.all_eq_true.1 hsz _ (DataW.weights_mem_each (j := 0) rfl rfl n hn)
  have f0 : W.noneFrozen p0 := fun b off hm => hfz b off (by simp [hm])
  have k1 := h1
  have lt1 : ∀ x ∈ p1, x.block < W.heap.size := by obtain ⟨m, hm⟩ := k1; exact DataW.trod_lt m _ _ _ hm
  have k2 := h2
  have lt2 : ∀ x ∈ p2, x.block < W.heap.size := by obtain ⟨m, hm⟩ := k2; exact DataW.trod_lt m _ _ _ hm
  obtain ⟨x0, r0, h0, s0⟩ := open_msg (hval 0 28 v0 rfl rfl) h0 f0 z0
  obtain ⟨a1, rfl, rfl, rfl, w1⟩ := open_int Try.underlying3 (hval 1 3 v1 rfl rfl) h1
  obtain ⟨a2, rfl, rfl, rfl, w2⟩ := open_int Try.underlying3 (hval 2 3 v2 rfl rfl) h2
  clear hA0 hval0
  refine (walk v0 x0 a1 a2 W r0 h0 s0 w1 w2).mono fun e W' ⟨he, bel⟩ => ?_
  subst he
  exact ⟨_, rfl, _, _, _, [], _, [], hW', trodAll_mk1 (shut_bool Try.underlying4 _), (trodAll_cons_mk (Below.trod laidOut (by kernel_rfl) (of_decide_eq_true (by kernel_rfl)) k0 bel lt0) (trodAll_cons_mk (Below.trod laidOut (by kernel_rfl) (of_decide_eq_true (by kernel_rfl)) k1 bel lt1) (trodAll_cons_mk (Below.trod laidOut (by kernel_rfl) (of_decide_eq_true (by kernel_rfl)) k2 bel lt2) trodAll_mk0))), rfl, bel.frame _, fun h => by cases h⟩

theorem over : Rows.msgEndsRow.holds Try.pinned (OpenSpec.ofChange Rows.msgEndsSpec) :=
  OpenClaim.holds_of_wide 5 Try.f5 rfl rfl rfl rfl rfl rfl rfl ⟨rfl, rfl, rfl, rfl, rfl⟩ rfl rfl rfl rfl rfl (by kernel_rfl) Try.func5 (by kernel_rfl)
    (of_decide_eq_true (by kernel_rfl)) (by unfold Func.isWrapper; first | (rw [if_pos (by decide +kernel)]; kernel_rfl) | (rw [if_neg (by decide +kernel)]; exact ⟨rfl, rfl⟩))
    (fun os started H enc _ => lifted os started H enc)

end Go.Proofs.Ytpbjlomlkjkedaa.msgEnds

namespace Go.Proofs.Ytpbjlomlkjkedaa
/-- The statement, by its short name. -/
theorem msgEnds_holds : Rows.MsgEndsSaid := msgEnds.over
#print axioms msgEnds_holds
end Go.Proofs.Ytpbjlomlkjkedaa
