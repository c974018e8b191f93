
/-
  The statement Queues, for all messages, any one and any place: Add, Take and May answer as the document does, no memory of what they answer is memory that came in, and nothing that came in has turned.
-/
import Derived.Test.YtnnhnidefjhakaaRows
import Derived.Test.YtnnhnidefjhakaaOpen
import Derived.Test.YtnnhnidefjhakaaQueueAw
import Derived.Test.YtnnhnidefjhakaaMsgsOff
import Derived.Test.YtnnhnidefjhakaaOpenMs
import Derived.Test.YtnnhnidefjhakaaAnyInv
import Derived.Deep.DeepCutAuto
import Derived.Deep.CutRange
import Derived.Deep.CutBlock
namespace Go.Proofs.Ytnnhnidefjhakaa.queues
open Go.ChangeShapes Go.WideShapes Go.ChangeAt Go.RowKit
set_option linter.unusedVariables false

/-! ### The walk -/
theorem rAdd_at {lo hi lo' hi' : Nat} {w : World} {v u : Value} {ms : List Mg} {is : List Int} (h : RowM lo hi w v ms) (hh : hi ≤ w.heap.size) (hu : RowI lo' hi' w u is) (hh' : hi' ≤ w.heap.size) (n a b k tk tc tu tx : Int) (tg g : Bool) {L : List Mg} {E : Int}
    (hE : adE ms ⟨n, a, b, is, k, ⟨tk, tc, tu, tx, tg⟩, g⟩ = E) (hL : adL ms ⟨n, a, b, is, k, ⟨tk, tc, tu, tx, tg⟩, g⟩ = L) :
    Calls Try.prog 10 #[v, .agg #[.int .i64 n, .int .i64 a, .int .i64 b, u, .int .i64 k, .int .i64 tk, .int .i64 tc, .int .i64 tu, .int .i64 tx, .bool tg, .bool g]] w fun e w' =>
      ∃ v', e = .returned (.tuple #[v', .int .i64 E]) ∧ OwnM w.heap.size w' v' L ∧ Below w.heap.size w w' := hE ▸ hL ▸ rAddQueue_any h hh hu hh' n a b k tk tc tu tx tg g
theorem rQueueMay_is {lo hi : Nat} {w : World} {v : Value} {ms : List Mg} {r : Bool} (h : RowM lo hi w v ms) (hh : hi ≤ w.heap.size) (hr : quB ms = r) :
    Calls Try.prog 17 #[v] w fun e w' => e = .returned (.bool r) ∧ Below w.heap.size w w' := hr ▸ rQueueMay_any h hh

set_option maxHeartbeats 8000000 in
theorem walk (v0 : Value) (x0 : List Mg) (v1 : Value) (x1 : MgO) (a2 : Int) (w : World) (r0 : RowM 0 w.heap.size w v0 x0) (s0 : x0.length * 104 ≤ 140737488351232) (u0 : ∀ m ∈ x0, m.is.length * 8 ≤ 140737488351232) (r1 : v1 = .agg #[.int .i64 x1.n, .int .i64 x1.a, .int .i64 x1.b, x1.v, .int .i64 x1.k, .int .i64 x1.t.k, .int .i64 x1.t.c, .int .i64 x1.t.u, .int .i64 x1.t.x, .bool x1.t.g, .bool x1.h]) (h1 : RowI 0 w.heap.size w x1.v x1.is) (s1 : x1.is.length * 8 ≤ 140737488351232) (w2 : (Lit.int .i64 a2).wf = true) :
    Calls Try.prog 3 #[v0, v1, .int .i64 a2] w fun e w' => e = .returned (.bool true) ∧ Below w.heap.size w w' := by
  obtain ⟨n, a, b, is, k, ⟨tk, tc, tu, tx, tg⟩, h, v⟩ := x1
  dsimp only at r1 h1 s1
  subst r1
  clear w2
  obtain ⟨p, c, rfl, -⟩ := h1.cap
  obtain ⟨p0, c0, e0, hn0, -⟩ := r0.at
  subst e0
  have BM := toHid (Box.new w #[.int .i64 n, .int .i64 a, .int .i64 b, .slice p is.length c, .int .i64 k, .int .i64 tk, .int .i64 tc, .int .i64 tu, .int .i64 tx, .bool tg, .bool h] 29)
  have R0 := toHid ((r0.alloc (.cells #[.int .i64 n, .int .i64 a, .int .i64 b, .slice p is.length c, .int .i64 k, .int .i64 tk, .int .i64 tc, .int .i64 tu, .int .i64 tx, .bool tg, .bool h] 29)).wide (Nat.le_refl _) (hi' := (w.alloc (.cells #[.int .i64 n, .int .i64 a, .int .i64 b, .slice p is.length c, .int .i64 k, .int .i64 tk, .int .i64 tc, .int .i64 tu, .int .i64 tx, .bool tg, .bool h] 29)).heap.size) (by simp))
  have V1 := toHid ((h1.alloc (.cells #[.int .i64 n, .int .i64 a, .int .i64 b, .slice p is.length c, .int .i64 k, .int .i64 tk, .int .i64 tc, .int .i64 tu, .int .i64 tx, .bool tg, .bool h] 29)).wide (Nat.le_refl _) (hi' := (w.alloc (.cells #[.int .i64 n, .int .i64 a, .int .i64 b, .slice p is.length c, .int .i64 k, .int .i64 tk, .int .i64 tc, .int .i64 tu, .int .i64 tx, .bool tg, .bool h] 29)).heap.size) (by simp))
  have hB := toHid ((Below.refl _ w).onA (.cells #[.int .i64 n, .int .i64 a, .int .i64 b, .slice p is.length c, .int .i64 k, .int .i64 tk, .int .i64 tc, .int .i64 tu, .int .i64 tx, .bool tg, .bool h] 29))
  clear r0 h1
  go_enter Try.func3, Try.ntmps3
  go_upto_region 1 with (fail)
  generalize w.alloc (.cells #[.int .i64 n, .int .i64 a, .int .i64 b, .slice p is.length c, .int .i64 k, .int .i64 tk, .int .i64 tc, .int .i64 tu, .int .i64 tx, .bool tg, .bool h] 29) = wA at BM R0 V1 hB ⊢
  have HC0 := toHid (fun (W : World) (hb : Below wA.heap.size wA W) => copyMsgs_any (R0.out.below hb (Nat.le_refl _)) hb.size (by omega) (fun m hm => by have := u0 m hm; omega))
  have HC1 := toHid (fun (W : World) (hb : Below wA.heap.size wA W) => copyMsg_any (V1.out.below hb (Nat.le_refl _)) (by omega) n a b k tk tc tu tx tg h)
  clear u0
  go_cut [7, 8] from 19 to 22 (fun v7 v8 wx => ∃ (p2 : Option Addr) (c2 lo1 hi1 lo2 hi2 x8 : Nat), v8 = .pointer (some ⟨x8, 0, none⟩) ∧ Below wA.heap.size wA wx ∧
      Box wx x8 #[.int .i64 n, .int .i64 a, .int .i64 b, .slice p2 is.length c2, .int .i64 k, .int .i64 tk, .int .i64 tc, .int .i64 tu, .int .i64 tx, .bool tg, .bool h] ∧ RowM lo1 hi1 wx v7 x0 ∧ hi1 ≤ wx.heap.size ∧ RowI lo2 hi2 wx (.slice p2 is.length c2) is ∧ hi2 ≤ wx.heap.size)
  case first =>
    refine wp_region_inv (by kernel_rfl) (by kernel_rfl) (fun (f : Nat → Bool) (ac : Act) (w' : World) => ∃ (v19 v20 v21 v22 v7 v8 X : Value) (p2 : Option Addr) (c2 lo1 hi1 lo2 hi2 x8 : Nat),
      ac = { tmps := #[.slice p0 x0.length c0, .agg #[.int .i64 n, .int .i64 a, .int .i64 b, .slice p is.length c, .int .i64 k, .int .i64 tk, .int .i64 tc, .int .i64 tu, .int .i64 tx, .bool tg, .bool h], .int .i64 a2, undef, .pointer (some ⟨w.heap.size, 0, none⟩), undef, .bool false, v7, v8, undef, undef, undef, undef, undef, undef, undef, undef, undef, undef, v19, v20, v21, v22, undef, undef, undef, undef, undef, undef, undef, undef, undef, undef, undef, undef, undef, undef, undef, undef, undef, undef, undef, undef, undef, undef, undef, undef, undef, undef, undef, undef, undef, undef, undef, undef, undef, undef, undef, undef, undef, undef, undef, undef, undef, undef, undef, undef, undef, undef, undef, undef, undef, undef, undef, undef, undef, undef, undef, undef, undef, undef, undef, undef, undef, undef, undef, undef, undef, undef, undef, undef, undef, undef, undef, undef, undef, undef, undef, undef, undef, undef, undef], defers := [] } ∧ Below wA.heap.size wA w' ∧ (f 0 = true → v19 = .slice p0 x0.length c0) ∧ (f 2 = true → v21 = .agg #[.int .i64 n, .int .i64 a, .int .i64 b, .slice p is.length c, .int .i64 k, .int .i64 tk, .int .i64 tc, .int .i64 tu, .int .i64 tx, .bool tg, .bool h]) ∧
      (f 1 = true → v20 = X ∧ RowM lo1 hi1 w' X x0 ∧ wA.heap.size ≤ lo1 ∧ hi1 ≤ w'.heap.size) ∧
      (f 3 = true → v22 = .agg #[.int .i64 n, .int .i64 a, .int .i64 b, .slice p2 is.length c2, .int .i64 k, .int .i64 tk, .int .i64 tc, .int .i64 tu, .int .i64 tx, .bool tg, .bool h] ∧ RowI lo2 hi2 w' (.slice p2 is.length c2) is ∧ wA.heap.size ≤ lo2 ∧ hi2 ≤ w'.heap.size) ∧
      (f 4 = true → v8 = .pointer (some ⟨x8, 0, none⟩) ∧ wA.heap.size ≤ x8 ∧ x8 < w'.heap.size) ∧
      (f 5 = true → f 1 = true ∧ v7 = X) ∧
      (f 1 = true → f 4 = true → x8 < lo1 ∨ hi1 ≤ x8) ∧ (f 3 = true → f 4 = true → x8 < lo2 ∨ hi2 ≤ x8) ∧
      (f 4 = true → f 6 = false → Box w' x8 #[.int .i64 0, .int .i64 0, .int .i64 0, .slice none 0 0, .int .i64 0, .int .i64 0, .int .i64 0, .int .i64 0, .int .i64 0, .bool false, .bool false]) ∧ (f 6 = true → f 3 = true ∧ f 4 = true ∧ Box w' x8 #[.int .i64 n, .int .i64 a, .int .i64 b, .slice p2 is.length c2, .int .i64 k, .int .i64 tk, .int .i64 tc, .int .i64 tu, .int .i64 tx, .bool tg, .bool h])) ?_ ?_ ?_
    · exact ⟨undef, undef, undef, undef, undef, undef, undef, none, 0, 0, 0, 0, 0, 0, rfl, (Below.refl _ wA).onD 1, nofun, nofun, nofun, nofun, nofun, nofun, nofun, nofun, nofun, nofun⟩
    · intro f i o ho hf hd
      match i, ho, hf with
      | 0, ho, hf =>
        simp only [List.getElem?_toArray, List.getElem?_cons_zero, Option.some.injEq] at ho
        subst ho
        rintro ac w' ⟨v19, v20, v21, v22, v7, v8, X, p2, c2, lo1, hi1, lo2, hi2, x8, rfl, hb, g0, g2, g1, g3, g4, g5, d1, d2, e4, e6⟩ K hK
        replace hK := toHid hK
        go_wp2
        exact hK.out _ _ ⟨_, v20, v21, v22, v7, v8, X, p2, c2, lo1, hi1, lo2, hi2, x8, rfl, hb, fun _ => rfl, g2, g1, g3, g4, g5, d1, d2, e4, e6⟩
      | 1, ho, hf =>
        simp only [List.getElem?_toArray, List.getElem?_cons_zero, List.getElem?_cons_succ, Option.some.injEq] at ho
        subst ho
        have q0 := hd ⟨0, .data⟩ (by simp) (by rfl)
        rintro ac w' ⟨v19, v20, v21, v22, v7, v8, X, p2, c2, lo1, hi1, lo2, hi2, x8, rfl, hb, g0, g2, g1, g3, g4, g5, d1, d2, e4, e6⟩ K hK
        replace hK := toHid hK
        obtain rfl := g0 q0
        go_wp2_with (go_at_call 7; refine (HC0.out _ hb).mono ?_; rintro e w9 ⟨v9, rfl, O9, h9⟩)
        exact hK.out _ _ ⟨_, _, v21, v22, v7, v8, v9, p2, c2, w'.heap.size, w9.heap.size, lo2, hi2, x8, rfl, hb.on h9, (fun _ => rfl), g2, fun _ => ⟨rfl, O9.row, hb.size, Nat.le_refl _⟩, fun q => ⟨(g3 q).1, (g3 q).2.1.below h9 (g3 q).2.2.2, (g3 q).2.2.1, Nat.le_trans (g3 q).2.2.2 h9.size⟩, fun q => ⟨(g4 q).1, (g4 q).2.1, Nat.lt_of_lt_of_le (g4 q).2.2 h9.size⟩, fun q => absurd (g5 q).1 (by simp [hf]), fun _ q => .inl (g4 q).2.2, d2, fun q r => (e4 q r).below h9, fun q => ⟨(e6 q).1, (e6 q).2.1, (e6 q).2.2.below h9⟩⟩
      | 2, ho, hf =>
        simp only [List.getElem?_toArray, List.getElem?_cons_zero, List.getElem?_cons_succ, Option.some.injEq] at ho
        subst ho
        rintro ac w' ⟨v19, v20, v21, v22, v7, v8, X, p2, c2, lo1, hi1, lo2, hi2, x8, rfl, hb, g0, g2, g1, g3, g4, g5, d1, d2, e4, e6⟩ K hK
        replace hK := toHid hK
        obtain ⟨-, m2, m3⟩ := BM.out.below hb
        go_wp2
        exact hK.out _ _ ⟨v19, v20, _, v22, v7, v8, X, p2, c2, lo1, hi1, lo2, hi2, x8, rfl, hb, g0, fun _ => rfl, g1, g3, g4, g5, d1, d2, e4, e6⟩
      | 3, ho, hf =>
        simp only [List.getElem?_toArray, List.getElem?_cons_zero, List.getElem?_cons_succ, Option.some.injEq] at ho
        subst ho
        have q0 := hd ⟨2, .data⟩ (by simp) (by rfl)
        rintro ac w' ⟨v19, v20, v21, v22, v7, v8, X, p2, c2, lo1, hi1, lo2, hi2, x8, rfl, hb, g0, g2, g1, g3, g4, g5, d1, d2, e4, e6⟩ K hK
        replace hK := toHid hK
        obtain rfl := g2 q0
        go_wp2_with (go_at_call 8; refine (HC1.out _ hb).mono ?_; rintro e w9 ⟨p9, c9, rfl, R9, h9⟩)
        exact hK.out _ _ ⟨v19, v20, _, _, v7, v8, X, p9, c9, lo1, hi1, w'.heap.size, w9.heap.size, x8, rfl, hb.on h9, g0, (fun _ => rfl), fun q => ⟨(g1 q).1, (g1 q).2.1.below h9 (g1 q).2.2.2, (g1 q).2.2.1, Nat.le_trans (g1 q).2.2.2 h9.size⟩, fun _ => ⟨rfl, R9, hb.size, Nat.le_refl _⟩, fun q => ⟨(g4 q).1, (g4 q).2.1, Nat.lt_of_lt_of_le (g4 q).2.2 h9.size⟩, g5, d1, fun _ q => .inl (g4 q).2.2, fun q r => (e4 q r).below h9, fun q => absurd (e6 q).1 (by simp [hf])⟩
      | 4, ho, hf =>
        simp only [List.getElem?_toArray, List.getElem?_cons_zero, List.getElem?_cons_succ, Option.some.injEq] at ho
        subst ho
        rintro ac w' ⟨v19, v20, v21, v22, v7, v8, X, p2, c2, lo1, hi1, lo2, hi2, x8, rfl, hb, g0, g2, g1, g3, g4, g5, d1, d2, e4, e6⟩ K hK
        replace hK := toHid hK
        go_wp2
        exact hK.out _ _ ⟨v19, v20, v21, v22, v7, _, X, p2, c2, lo1, hi1, lo2, hi2, w'.heap.size, rfl, hb.onA _, g0, g2, fun q => ⟨(g1 q).1, (g1 q).2.1.alloc _, (g1 q).2.2.1, Nat.le_trans (g1 q).2.2.2 (by simp)⟩, fun q => ⟨(g3 q).1, (g3 q).2.1.alloc _, (g3 q).2.2.1, Nat.le_trans (g3 q).2.2.2 (by simp)⟩, fun _ => ⟨rfl, hb.size, by simp⟩, g5, fun q _ => .inr (g1 q).2.2.2, fun q _ => .inr (g3 q).2.2.2, fun _ _ => Box.new w' _ _, fun q => absurd (e6 q).2.1 (by simp [hf])⟩
      | 5, ho, hf =>
        simp only [List.getElem?_toArray, List.getElem?_cons_zero, List.getElem?_cons_succ, Option.some.injEq] at ho
        subst ho
        have q1 := hd ⟨1, .data⟩ (by simp) (by rfl)
        rintro ac w' ⟨v19, v20, v21, v22, v7, v8, X, p2, c2, lo1, hi1, lo2, hi2, x8, rfl, hb, g0, g2, g1, g3, g4, g5, d1, d2, e4, e6⟩ K hK
        replace hK := toHid hK
        obtain ⟨rfl, R1, k1, l1⟩ := g1 q1
        replace R1 := toHid R1
        clear g1
        go_wp2
        exact hK.out _ _ ⟨v19, _, v21, v22, _, v8, v20, p2, c2, lo1, hi1, lo2, hi2, x8, rfl, hb, g0, g2, fun _ => ⟨rfl, R1.out, k1, l1⟩, g3, g4, fun _ => ⟨q1, rfl⟩, d1, d2, e4, e6⟩
      | 6, ho, hf =>
        simp only [List.getElem?_toArray, List.getElem?_cons_zero, List.getElem?_cons_succ, Option.some.injEq] at ho
        subst ho
        have q1 := hd ⟨1, .phase⟩ (by simp) (by rfl)
        have q3 := hd ⟨3, .data⟩ (by simp) (by rfl)
        have q4 := hd ⟨4, .data⟩ (by simp) (by rfl)
        rintro ac w' ⟨v19, v20, v21, v22, v7, v8, X, p2, c2, lo1, hi1, lo2, hi2, x8, rfl, hb, g0, g2, g1, g3, g4, g5, d1, d2, e4, e6⟩ K hK
        replace hK := toHid hK
        obtain ⟨rfl, k8, l8⟩ := g4 q4
        obtain ⟨rfl, R3, k3, l3⟩ := g3 q3
        obtain ⟨rfl, R1, k1, l1⟩ := g1 q1
        replace R1 := toHid R1
        clear g3 g4 g1
        have BX := e4 q4 hf
        obtain ⟨bx1, bx2, bx3⟩ := id BX
        obtain ⟨BY, ON⟩ := BX.set11 (.int .i64 n) (.int .i64 a) (.int .i64 b) (.slice p2 is.length c2) (.int .i64 k) (.int .i64 tk) (.int .i64 tc) (.int .i64 tu) (.int .i64 tx) (.bool tg) (.bool h)
        replace BY := toHid BY
        replace ON := toHid ON
        clear BX
        go_wp2
        have sz := ON.out.size
        exact hK.out _ _ ⟨v19, _, v21, _, v7, _, v20, p2, c2, lo1, hi1, lo2, hi2, x8, rfl, hb.trans (ON.out.below.mono k8), g0, g2, fun _ => ⟨rfl, R1.out.only ON.out (by have := d1 q1 q4; omega), k1, by omega⟩, fun _ => ⟨rfl, R3.only ON.out (by have := d2 q3 q4; omega), k3, by omega⟩, fun _ => ⟨rfl, k8, by omega⟩, g5, d1, d2, (fun _ q => by cases q), fun _ => ⟨q3, q4, BY.out⟩⟩
      | j + 7, ho, hf => simp at ho
    · rintro f ac w' hf ⟨v19, v20, v21, v22, v7, v8, X, p2, c2, lo1, hi1, lo2, hi2, x8, rfl, hb, g0, g2, g1, g3, g4, g5, d1, d2, e4, e6⟩
      have BX := (e6 (hf 6 (by simp))).2.2
      obtain ⟨rfl, k8, l8⟩ := g4 (hf 4 (by simp))
      obtain rfl := (g5 (hf 5 (by simp))).2
      obtain ⟨rfl, R1, k1, l1⟩ := g1 (hf 1 (by simp))
      obtain ⟨rfl, R3, k3, l3⟩ := g3 (hf 3 (by simp))
      clear g0 g1 g2 g3 g4 g5 e4 e6 d1 d2
      replace hf := toHid hf
      replace BX := toHid BX
      replace R1 := toHid R1
      replace R3 := toHid R3
      go_wp2
      go_meet
      exact ⟨p2, c2, lo1, hi1, lo2, hi2, x8, rfl, hb, BX.out, R1.out, l1, R3.out, l3⟩
  case rest =>
    obtain ⟨p2, c2, lo1, hi1, lo2, hi2, x8, rfl, hbc, B8, RX, l1, V2, l2⟩ := hcut
    clear HC0 HC1
    replace BM := toHid (BM.out.below hbc)
    replace R0 := toHid (R0.out.fwd hbc)
    replace V1 := toHid (V1.out.fwd hbc)
    replace RX := toHid (RX.wide (Nat.zero_le _) l1)
    replace V2 := toHid (V2.wide (Nat.zero_le _) l2)
    replace B8 := toHid B8
    replace hB := toHid (hB.out.on hbc)
    clear hbc l1 l2
    obtain ⟨E, hE⟩ : ∃ E, adE x0 ⟨n, a, b, is, k, ⟨tk, tc, tu, tx, tg⟩, h⟩ = E := ⟨_, rfl⟩
    obtain ⟨L, hL⟩ : ∃ L, adL x0 ⟨n, a, b, is, k, ⟨tk, tc, tu, tx, tg⟩, h⟩ = L := ⟨_, rfl⟩
    obtain ⟨⟨n', a', b', is', k', ⟨tk', tc', tu', tx', tg'⟩, h'⟩, hM⟩ : ∃ D, tqM x0 a2 = D := ⟨_, rfl⟩
    obtain ⟨E2, hE2⟩ : ∃ E, tqE x0 a2 = E := ⟨_, rfl⟩
    obtain ⟨L2, hL2⟩ : ∃ L, tqL x0 a2 = L := ⟨_, rfl⟩
    obtain ⟨r, hr⟩ : ∃ r, quB x0 = r := ⟨_, rfl⟩
    have HA1 := toHid (fun (W : World) (v u : Value) (lo hi hi' : Nat) (R : RowM lo hi W v x0) (hh : hi ≤ W.heap.size) (V : RowI 0 hi' W u is) (hh' : hi' ≤ W.heap.size) => qAdd_at R hh V hh' n a b k tk tc tu tx tg h hE hL)
    have HA2 := toHid (fun (W : World) (v u : Value) (lo hi hi' : Nat) (R : RowM lo hi W v x0) (hh : hi ≤ W.heap.size) (V : RowI 0 hi' W u is) (hh' : hi' ≤ W.heap.size) => rAdd_at R hh V hh' n a b k tk tc tu tx tg h hE hL)
    have HT1 := toHid (fun (W : World) (v : Value) (lo hi : Nat) (R : RowM lo hi W v x0) (hh : hi ≤ W.heap.size) => qTake_any R hh a2 hM hL2 hE2)
    have HT2 := toHid (fun (W : World) (v : Value) (lo hi : Nat) (R : RowM lo hi W v x0) (hh : hi ≤ W.heap.size) => rTake_any R hh a2 hM hL2 hE2)
    clear hE hL hM hE2 hL2
    have kc := toHid (Below.refl wc.heap.size wc)
    have t1 := trivial
    have t2 := trivial
    have t3 := trivial
    have t4 := trivial
    obtain ⟨f1, f2, f3⟩ := B8.out
    go_wp2_with (first
      | (go_at_call 9; refine (HA1.out _ _ _ _ _ _ RX.out (Nat.le_refl _) V2.out (Nat.le_refl _)).mono ?_; rintro e w2 ⟨va, rfl, O2, h2⟩
         have RA := toHid (O2.row.wide (Nat.zero_le _) (Nat.le_refl _))
         have SA := toHid (SpM.of_own O2)
         replace kc := toHid h2
         have za := h2.size
         clear O2 h2 f1 f2 f3
         obtain ⟨m1, m2, m3⟩ := BM.out.below kc.out)
      | (go_at_call 10; refine (HA2.out _ _ _ _ _ _ (R0.out.fwd kc.out) (Nat.le_refl _) (V1.out.fwd kc.out) (Nat.le_refl _)).mono ?_; rintro e w3 ⟨vb, rfl, O3, h3⟩
         have RB := toHid (O3.row.wide (Nat.zero_le _) (Nat.le_refl _))
         replace RA := toHid (RA.out.fwd h3)
         replace SA := toHid (SA.out.below h3)
         replace kc := toHid (kc.out.on h3)
         have zb := h3.size
         clear O3 h3 m1 m2 m3)
      | (go_at_call 11; refine (HT1.out _ _ _ _ (RX.out.fwd kc.out) (Nat.le_refl _)).mono ?_; rintro e w4 ⟨p4, c4, vc, rfl, own4, O4, h4⟩
         have zd := h4.size
         have b4 := (Below.refl _ w4).onA (.cells #[.int .i64 n', .int .i64 a', .int .i64 b', .slice p4 is'.length c4, .int .i64 k', .int .i64 tk', .int .i64 tc', .int .i64 tu', .int .i64 tx', .bool tg', .bool h'] 29)
         have RC := toHid ((O4.row.wide (Nat.zero_le _) (Nat.le_refl _)).fwd b4)
         have SC := toHid ((SpM.of_own O4).below b4)
         have RP := toHid (((RowI.of_owns own4).wide (Nat.zero_le _) (Nat.le_refl _)).fwd b4)
         have IP := toHid ((IntsAt.of_own own4).below b4)
         have B13 := toHid (Box.new w4 #[.int .i64 n', .int .i64 a', .int .i64 b', .slice p4 is'.length c4, .int .i64 k', .int .i64 tk', .int .i64 tc', .int .i64 tu', .int .i64 tx', .bool tg', .bool h'] 29)
         have hb4 := h4.onA (.cells #[.int .i64 n', .int .i64 a', .int .i64 b', .slice p4 is'.length c4, .int .i64 k', .int .i64 tk', .int .i64 tc', .int .i64 tu', .int .i64 tx', .bool tg', .bool h'] 29)
         replace RA := toHid (RA.out.fwd hb4)
         replace SA := toHid (SA.out.below hb4)
         replace RB := toHid (RB.out.fwd hb4)
         replace kc := toHid (kc.out.on hb4)
         clear own4 O4 h4 b4 hb4)
      | (go_at_call 12; refine (HT2.out _ _ _ _ (R0.out.fwd kc.out) (Nat.le_refl _)).mono ?_; rintro e w5 ⟨p5, c5, vd, rfl, own5, O5, h5⟩
         have b5 := (Below.refl _ w5).onA (.cells #[.int .i64 n', .int .i64 a', .int .i64 b', .slice p5 is'.length c5, .int .i64 k', .int .i64 tk', .int .i64 tc', .int .i64 tu', .int .i64 tx', .bool tg', .bool h'] 29)
         have RD := toHid ((O5.row.wide (Nat.zero_le _) (Nat.le_refl _)).fwd b5)
         have RQ := toHid (((RowI.of_owns own5).wide (Nat.zero_le _) (Nat.le_refl _)).fwd b5)
         have B16 := toHid (Box.new w5 #[.int .i64 n', .int .i64 a', .int .i64 b', .slice p5 is'.length c5, .int .i64 k', .int .i64 tk', .int .i64 tc', .int .i64 tu', .int .i64 tx', .bool tg', .bool h'] 29)
         have hb5 := h5.onA (.cells #[.int .i64 n', .int .i64 a', .int .i64 b', .slice p5 is'.length c5, .int .i64 k', .int .i64 tk', .int .i64 tc', .int .i64 tu', .int .i64 tx', .bool tg', .bool h'] 29)
         replace RA := toHid (RA.out.fwd hb5)
         replace SA := toHid (SA.out.below hb5)
         replace RB := toHid (RB.out.fwd hb5)
         replace RC := toHid (RC.out.fwd hb5)
         replace SC := toHid (SC.out.below hb5)
         replace RP := toHid (RP.out.fwd hb5)
         replace IP := toHid (IP.out.below hb5)
         replace B13 := toHid (B13.out.below hb5)
         replace kc := toHid (kc.out.on hb5)
         clear own5 O5 h5 b5 hb5)
      | (go_at_call 13; clear t1; refine (sameMsgs_at RA.out (Nat.le_refl _) RB.out (Nat.le_refl _) (r := true) (by simp)).mono ?_; rintro e w6 ⟨rfl, h6⟩
         replace SA := toHid (SA.out.below h6)
         replace RC := toHid (RC.out.fwd h6)
         replace SC := toHid (SC.out.below h6)
         replace RD := toHid (RD.out.fwd h6)
         replace RP := toHid (RP.out.fwd h6)
         replace IP := toHid (IP.out.below h6)
         replace RQ := toHid (RQ.out.fwd h6)
         replace B13 := toHid (B13.out.below h6)
         replace B16 := toHid (B16.out.below h6)
         replace kc := toHid (kc.out.on h6)
         clear h6 RA RB
         obtain ⟨m1, m2, m3⟩ := B13.out
         obtain ⟨f1, f2, f3⟩ := B16.out)
      | (go_at_call 14; refine (num_any _ _).mono ?_; rintro e w20 ⟨rfl, hw20⟩; subst w20)
      | (go_at_call 15; clear t2; refine (sameMsg_same RP.out RQ.out n' a' b' k' tk' tc' tu' tx' tg' h').mono ?_; rintro e w7 ⟨rfl, h7⟩
         replace SA := toHid (SA.out.below h7)
         replace RC := toHid (RC.out.fwd h7)
         replace SC := toHid (SC.out.below h7)
         replace RD := toHid (RD.out.fwd h7)
         replace IP := toHid (IP.out.below h7)
         replace B13 := toHid (B13.out.below h7)
         replace kc := toHid (kc.out.on h7)
         clear h7 RP RQ B16 m1 m2 m3 f1 f2 f3)
      | (go_at_call 13; clear t3; refine (sameMsgs_at RC.out (Nat.le_refl _) RD.out (Nat.le_refl _) (r := true) (by simp)).mono ?_; rintro e w8 ⟨rfl, h8⟩
         replace SA := toHid (SA.out.below h8)
         replace SC := toHid (SC.out.below h8)
         replace IP := toHid (IP.out.below h8)
         replace B13 := toHid (B13.out.below h8)
         replace kc := toHid (kc.out.on h8)
         clear h8 RC RD)
      | (go_at_call 16; refine (qMay_is (RX.out.fwd kc.out) (Nat.le_refl _) hr).mono ?_; rintro e w9 ⟨rfl, h9⟩
         replace SA := toHid (SA.out.below h9)
         replace SC := toHid (SC.out.below h9)
         replace IP := toHid (IP.out.below h9)
         replace B13 := toHid (B13.out.below h9)
         replace kc := toHid (kc.out.on h9)
         clear h9)
      | (go_at_call 17; refine (rQueueMay_is (R0.out.fwd kc.out) (Nat.le_refl _) hr).mono ?_; rintro e w10 ⟨rfl, h10⟩
         replace SA := toHid (SA.out.below h10)
         replace SC := toHid (SC.out.below h10)
         replace IP := toHid (IP.out.below h10)
         replace B13 := toHid (B13.out.below h10)
         replace kc := toHid (kc.out.on h10)
         have zk := kc.out.size
         clear h10)
      | (go_at_call 18; clear t4; refine (spoilMsgs_at SA.out kc.out.size).mono ?_; rintro e w11 ⟨rfl, s11⟩
         replace SC := toHid (SC.out.spoilt s11 (.inr zb))
         replace IP := toHid (IP.out.spoilt s11)
         replace B13 := toHid (B13.out.spoilt s11 (.inr (Nat.le_trans zb zd)))
         replace kc := toHid (kc.out.trans s11.below)
         have z11 := s11.below.size
         clear s11 SA)
      | (go_at_call 18; refine (spoilMsgs_at SC.out (by have := B13.out.1; omega)).mono ?_; rintro e w12 ⟨rfl, s12⟩
         replace IP := toHid (IP.out.spoilt s12)
         replace B13 := toHid (B13.out.spoilt s12 (.inr (Nat.le_refl _)))
         replace kc := toHid (kc.out.trans (s12.below.mono (Nat.le_trans za zb)))
         obtain ⟨m1, m2, m3⟩ := B13.out
         clear s12 SC)
      | (go_at_call 19; refine (spoilInts_at IP.out (by have := B13.out.1; omega)).mono ?_; rintro e w13 ⟨rfl, h13⟩
         replace kc := toHid (kc.out.trans (h13.mono (Nat.le_trans za zb)))
         clear h13 IP B13 m1 m2 m3)
      | (go_at_call 13; refine (sameMsgs_at (RX.out.fwd kc.out) (Nat.le_refl _) (R0.out.fwd kc.out) (Nat.le_refl _) (r := true) (by simp)).mono ?_; rintro e w14 ⟨rfl, h14⟩
         replace kc := toHid (kc.out.on h14)
         clear h14
         obtain ⟨m1, m2, m3⟩ := BM.out.below kc.out
         obtain ⟨f1, f2, f3⟩ := B8.out.below kc.out)
      | (go_at_call 15; refine (sameMsg_same (V2.out.fwd kc.out) (V1.out.fwd kc.out) n a b k tk tc tu tx tg h).mono ?_; rintro e w15 ⟨rfl, h15⟩
         replace kc := toHid (kc.out.on h15)
         clear h15 m1 m2 m3 f1 f2 f3)
      | (go_at_call 20; refine (awake14_any _).mono ?_; rintro e w16 ⟨rfl, h16⟩))
    go_ret
    exact ⟨rfl, hB.out.on (kc.out.on h16)⟩

/-! ### The row's step -/
set_option maxRecDepth 100000 in
theorem lifted (os : Os) (started : os.Started) (H : Type) (enc : TypeId × Value → H) :
    ReturnsInHanded {} Try.checked os 3 .any (Rows.queuesSpec.pre6 enc Try.prog Try.f3 Rows.queuesRow.domain false) (Rows.queuesSpec.post enc Try.prog Try.f3 false true false false) := by
  refine returnsInHanded_of_change_sized (C := Try.checked) ownK started (by kernel_rfl) Try.func3
    (ChangeSpec.witness6 (enc := enc) (C := Try.checked) false ⟨#[], #[.slice none 0 0, .agg #[.int .i64 0, .int .i64 0, .int .i64 0, .slice none 0 0, .int .i64 0, .int .i64 0, .int .i64 0, .int .i64 0, .int .i64 0, .bool false, .bool false], .int .i64 0], []⟩ 8 (by kernel_rfl) (by kernel_rfl) (by kernel_rfl) (by kernel_rfl)) ?_
  intro W base args ds gs before hval0 hW hcnd hsz0 _
  have hsz : (DataW.weightsEach Try.prog (Try.f3.params.toList ++ Rows.queuesSpec.plain.varTypes Try.prog) (ds ++ gs)).all (· ≤ reachBytes) = true := hsz0
  have hval : ∀ (j : Nat) t v, Try.f3.params[j]? = some t → args[j]? = some v → Value.okWide Try.prog W .any base t v := hval0
  have hW' := hW
  obtain ⟨p, q, hA0, hV, rfl, hfz, hnd⟩ := hW
  have hA : DataW.TrodAll enc Try.prog W 0 (fun _ => true) true Try.f3.params.toList args.toList ds p := hA0
  rw [Try.params3] at hA hval hsz
  obtain ⟨v0, vs0, d0, ds0, p0, q0, hargs, rfl, rfl, h0, r0⟩ := trodAll_cons hA
  obtain ⟨v1, vs1, d1, ds1, p1, q1, rfl, rfl, rfl, h1, r1⟩ := trodAll_cons r0
  obtain ⟨v2, vs2, d2, ds2, p2, q2, rfl, rfl, rfl, h2, r2⟩ := trodAll_cons r1
  obtain ⟨rfl, rfl, rfl⟩ := trodAll_nil r2
  obtain rfl : args = #[v0, v1, v2] := by cases args; simp_all
  obtain ⟨rfl, rfl⟩ := trodVars_none hV
  clear r0 r1 r2
  have k0 := h0
  have lt0 : ∀ x ∈ p0, x.block < W.heap.size := by obtain ⟨m, hm⟩ := k0; exact DataW.trod_lt m _ _ _ hm
  have z0 : ∀ n ∈ d0.weights Try.prog 22, n ≤ reachBytes := fun n hn => by simpa using List.all_eq_true.1 hsz _ (DataW.weights_mem_each (j := 0) rfl rfl n hn)
  have f0 : W.noneFrozen p0 := fun b off hm => hfz b off (by simp [hm])
  have k1 := h1
  have lt1 : ∀ x ∈ p1, x.block < W.heap.size := by obtain ⟨m, hm⟩ := k1; exact DataW.trod_lt m _ _ _ hm
  have z1 : ∀ n ∈ d1.weights Try.prog 29, n ≤ reachBytes := fun n hn => by simpa using List.all_eq_true.1 hsz _ (DataW.weights_mem_each (j := 1) rfl rfl n hn)
  have f1 : W.noneFrozen p1 := fun b off hm => hfz b off (by simp [hm])
  have k2 := h2
  have lt2 : ∀ x ∈ p2, x.block < W.heap.size := by obtain ⟨m, hm⟩ := k2; exact DataW.trod_lt m _ _ _ hm
  obtain ⟨x0, r0, s0, u0⟩ := open_rowM (hval 0 22 v0 rfl rfl) h0 f0 z0
  obtain ⟨x1, r1, h1, s1⟩ := open_msg (hval 1 29 v1 rfl rfl) h1 f1 z1
  obtain ⟨a2, rfl, rfl, rfl, w2⟩ := open_int Try.underlying3 (hval 2 3 v2 rfl rfl) h2
  clear hA0 hval0
  refine (walk v0 x0 v1 x1 a2 W r0 s0 u0 r1 h1 s1 w2).mono fun e W' ⟨he, bel⟩ => ?_
  subst he
  exact ⟨_, rfl, _, _, _, [], _, [], hW', trodAll_mk1 (shut_bool Try.underlying4 _), (trodAll_cons_mk (Below.trod laidOut (by kernel_rfl) (of_decide_eq_true (by kernel_rfl)) k0 bel lt0) (trodAll_cons_mk (Below.trod laidOut (by kernel_rfl) (of_decide_eq_true (by kernel_rfl)) k1 bel lt1) (trodAll_cons_mk (Below.trod laidOut (by kernel_rfl) (of_decide_eq_true (by kernel_rfl)) k2 bel lt2) trodAll_mk0))), rfl, bel.frame _, fun h => by cases h⟩

theorem over : Rows.queuesRow.holds Try.pinned (OpenSpec.ofChange Rows.queuesSpec) :=
  OpenClaim.holds_of_wide 3 Try.f3 rfl rfl rfl rfl rfl rfl rfl ⟨rfl, rfl, rfl, rfl, rfl⟩ rfl rfl rfl rfl rfl (by kernel_rfl) Try.func3 (by kernel_rfl)
    (of_decide_eq_true (by kernel_rfl)) (by unfold Func.isWrapper; first | (rw [if_pos (by decide +kernel)]; kernel_rfl) | (rw [if_neg (by decide +kernel)]; exact ⟨rfl, rfl⟩))
    (fun os started H enc _ => lifted os started H enc)

end Go.Proofs.Ytnnhnidefjhakaa.queues

namespace Go.Proofs.Ytnnhnidefjhakaa
/-- The statement, by its short name. -/
theorem queues_holds : Rows.QueuesSaid := queues.over
#print axioms queues_holds
end Go.Proofs.Ytnnhnidefjhakaa
