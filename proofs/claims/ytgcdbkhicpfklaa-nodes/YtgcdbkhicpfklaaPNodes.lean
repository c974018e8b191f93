
/-
  The statement Nodes, for any place, any places and any node: New and May answer as the document does, no memory of what New answers is memory that came in, and nothing that came in has turned.
-/
import Derived.Test.YtgcdbkhicpfklaaRows
import Derived.Test.YtgcdbkhicpfklaaOpen
import Derived.Test.YtgcdbkhicpfklaaNodeLaw
import Derived.Test.YtgcdbkhicpfklaaNodeLend
import Derived.Test.YtgcdbkhicpfklaaNodeSpoil
import Derived.Test.YtgcdbkhicpfklaaAnyInv
import Derived.Test.YtgcdbkhicpfklaaOpenN
import Derived.Deep.DeepCutAuto
import Derived.Deep.CutRange
import Derived.Deep.CutBlock
namespace Go.Proofs.Ytgcdbkhicpfklaa.nodes
open Go.ChangeShapes Go.WideShapes Go.ChangeAt Go.RowKit
set_option linter.unusedVariables false

/-! ### The walk -/
set_option maxHeartbeats 8000000 in
theorem walk (a0 : Int) (v1 : Value) (x1 : List Int) (v2 : Value) (x2 : NdO) (w : World) (w0 : (Lit.int .i64 a0).wf = true) (r1 : RowI 0 w.heap.size w v1 x1) (s1 : x1.length * 8 ≤ 140737488351232) (w1 : ∀ x ∈ x1, (Lit.int .i64 x).wf = true) (r2 : v2 = .agg #[.bool x2.up, .int .i64 x2.v.i, x2.v.p, x2.v.q, x2.r, x2.s]) (h2 : NdAt 0 w.heap.size w x2.v.p x2.v.q x2.r x2.s x2.v.ps x2.v.is x2.ts x2.ls) (s2 : x2.v.ps.length * 16 ≤ 140737488351232) (t2 : x2.v.is.length * 8 ≤ 140737488351232) (u2 : x2.ts.length * 40 ≤ 140737488351232) (y2 : x2.ls.length * 24 ≤ 140737488351232) (w2 : (Lit.int .i64 x2.v.i).wf = true) (i2 : ∀ y ∈ x2.v.ps, PeW y) (j2 : ∀ y ∈ x2.v.is, (Lit.int .i64 y).wf = true) (m2 : ∀ y ∈ x2.ts, ItW y) (n2 : ∀ y ∈ x2.ls, TeW y) :
    Calls Try.prog 3 #[.int .i64 a0, v1, v2] w fun e w' => e = .returned (.bool true) ∧ Below w.heap.size w w' := by
  obtain ⟨up, ⟨ni, ps, is, p, q⟩, ts, ls, r, s⟩ := x2
  dsimp only at r2 h2 s2 t2 u2 y2
  subst r2
  clear w0 w1 w2 i2 j2 m2 n2
  obtain ⟨a, c, a', c', a2, c2, a3, c3, rfl, rfl, rfl, rfl⟩ := h2.shape
  obtain ⟨p0, c0, e0, -⟩ := r1.cap
  subst e0
  have BM := toHid (Box.new w #[.bool up, .int .i64 ni, .slice a ps.length c, .slice a' is.length c', .slice a2 ts.length c2, .slice a3 ls.length c3] 29)
  have R0 := toHid ((r1.alloc (.cells #[.bool up, .int .i64 ni, .slice a ps.length c, .slice a' is.length c', .slice a2 ts.length c2, .slice a3 ls.length c3] 29)).wide (Nat.le_refl _) (hi' := (w.alloc (.cells #[.bool up, .int .i64 ni, .slice a ps.length c, .slice a' is.length c', .slice a2 ts.length c2, .slice a3 ls.length c3] 29)).heap.size) (by simp))
  have N0 := toHid ((h2.alloc (.cells #[.bool up, .int .i64 ni, .slice a ps.length c, .slice a' is.length c', .slice a2 ts.length c2, .slice a3 ls.length c3] 29)).wide (Nat.le_refl _) (hi' := (w.alloc (.cells #[.bool up, .int .i64 ni, .slice a ps.length c, .slice a' is.length c', .slice a2 ts.length c2, .slice a3 ls.length c3] 29)).heap.size) (by simp))
  have hB := toHid ((Below.refl _ w).onA (.cells #[.bool up, .int .i64 ni, .slice a ps.length c, .slice a' is.length c', .slice a2 ts.length c2, .slice a3 ls.length c3] 29))
  have hxA : w.heap.size < (w.alloc (.cells #[.bool up, .int .i64 ni, .slice a ps.length c, .slice a' is.length c', .slice a2 ts.length c2, .slice a3 ls.length c3] 29)).heap.size := by simp
  clear r1 h2
  go_enter Try.func3, Try.ntmps3
  go_upto_region 1 with (fail)
  generalize w.alloc (.cells #[.bool up, .int .i64 ni, .slice a ps.length c, .slice a' is.length c', .slice a2 ts.length c2, .slice a3 ls.length c3] 29) = wA at BM R0 N0 hB hxA ⊢
  have HC0 := toHid (fun (W : World) (hb : Below wA.heap.size wA W) => lendInts_any (R0.out.below hb (Nat.le_refl _)) (by omega))
  have HC1 := toHid (fun (W : World) (hb : Below wA.heap.size wA W) => copyNode_any up ni (N0.out.below hb (Nat.le_refl _)) hb.size (by omega) (by omega) (by omega) (by omega))
  go_cut [7, 8] from 13 to 16 (fun v7 v8 wx => ∃ (b b' b2 b3 : Option Addr) (d d' d2 d3 x8 : Nat), v8 = .pointer (some ⟨x8, 0, none⟩) ∧ Below wA.heap.size wA wx ∧
      Box wx x8 #[.bool up, .int .i64 ni, .slice b ps.length d, .slice b' is.length d', .slice b2 ts.length d2, .slice b3 ls.length d3] ∧ LentI 0 wx.heap.size wx v7 x1 ∧ NdAt 0 wx.heap.size wx (.slice b ps.length d) (.slice b' is.length d') (.slice b2 ts.length d2) (.slice b3 ls.length d3) ps is ts ls)
  case first =>
    refine wp_region_inv (by kernel_rfl) (by kernel_rfl) (fun (f : Nat → Bool) (ac : Act) (w' : World) => ∃ (v13 v14 v15 v16 v7 v8 X : Value) (b b' b2 b3 : Option Addr) (d d' d2 d3 lo1 hi1 lo2 hi2 x8 : Nat),
      ac = { tmps := #[.int .i64 a0, .slice p0 x1.length c0, .agg #[.bool up, .int .i64 ni, .slice a ps.length c, .slice a' is.length c', .slice a2 ts.length c2, .slice a3 ls.length c3], undef, undef, .pointer (some ⟨w.heap.size, 0, none⟩), .bool false, v7, v8, undef, undef, undef, undef, v13, v14, v15, v16, undef, undef, undef, undef, undef, undef, undef, undef, undef, undef, undef, undef, undef, undef, undef, undef, undef, undef, undef, undef, undef, undef, undef, undef, undef, undef, undef, undef, undef, undef, undef, undef, undef, undef, undef, undef, undef, undef, undef, undef, undef, undef], defers := [] } ∧ Below wA.heap.size wA w' ∧ (f 0 = true → v13 = .slice p0 x1.length c0) ∧ (f 2 = true → v15 = .agg #[.bool up, .int .i64 ni, .slice a ps.length c, .slice a' is.length c', .slice a2 ts.length c2, .slice a3 ls.length c3]) ∧
      (f 1 = true → v14 = X ∧ LentI lo1 hi1 w' X x1 ∧ wA.heap.size ≤ lo1 ∧ hi1 ≤ w'.heap.size) ∧
      (f 3 = true → v16 = .agg #[.bool up, .int .i64 ni, .slice b ps.length d, .slice b' is.length d', .slice b2 ts.length d2, .slice b3 ls.length d3] ∧ NdAt lo2 hi2 w' (.slice b ps.length d) (.slice b' is.length d') (.slice b2 ts.length d2) (.slice b3 ls.length d3) ps is ts ls ∧ wA.heap.size ≤ lo2 ∧ hi2 ≤ w'.heap.size) ∧
      (f 4 = true → v8 = .pointer (some ⟨x8, 0, none⟩) ∧ wA.heap.size ≤ x8 ∧ x8 < w'.heap.size) ∧
      (f 5 = true → f 1 = true ∧ v7 = X) ∧
      (f 1 = true → f 4 = true → x8 < lo1 ∨ hi1 ≤ x8) ∧ (f 3 = true → f 4 = true → x8 < lo2 ∨ hi2 ≤ x8) ∧
      (f 4 = true → f 6 = false → Box w' x8 #[.bool false, .int .i64 0, .slice none 0 0, .slice none 0 0, .slice none 0 0, .slice none 0 0]) ∧ (f 6 = true → f 3 = true ∧ f 4 = true ∧ Box w' x8 #[.bool up, .int .i64 ni, .slice b ps.length d, .slice b' is.length d', .slice b2 ts.length d2, .slice b3 ls.length d3])) ?_ ?_ ?_
    · exact ⟨undef, undef, undef, undef, undef, undef, undef, none, none, none, none, 0, 0, 0, 0, 0, 0, 0, 0, 0, rfl, (Below.refl _ wA).onD 1, nofun, nofun, nofun, nofun, nofun, nofun, nofun, nofun, nofun, nofun⟩
    · intro f i o ho hf hd
      match i, ho, hf with
      | 0, ho, hf =>
        simp only [List.getElem?_toArray, List.getElem?_cons_zero, Option.some.injEq] at ho
        subst ho
        rintro ac w' ⟨v13, v14, v15, v16, v7, v8, X, b, b', b2, b3, d, d', d2, d3, lo1, hi1, lo2, hi2, x8, rfl, hb, g0, g2, g1, g3, g4, g5, d1, d22, e4, e6⟩ K hK
        replace hK := toHid hK
        go_wp2
        exact hK.out _ _ ⟨_, v14, v15, v16, v7, v8, X, b, b', b2, b3, d, d', d2, d3, lo1, hi1, lo2, hi2, x8, rfl, hb, fun _ => rfl, g2, g1, g3, g4, g5, d1, d22, e4, e6⟩
      | 1, ho, hf =>
        simp only [List.getElem?_toArray, List.getElem?_cons_zero, List.getElem?_cons_succ, Option.some.injEq] at ho
        subst ho
        have q0 := hd ⟨0, .data⟩ (by simp) (by rfl)
        rintro ac w' ⟨v13, v14, v15, v16, v7, v8, X, b, b', b2, b3, d, d', d2, d3, lo1, hi1, lo2, hi2, x8, rfl, hb, g0, g2, g1, g3, g4, g5, d1, d22, e4, e6⟩ K hK
        replace hK := toHid hK
        obtain rfl := g0 q0
        go_wp2_with (go_at_call 7; refine (HC0.out _ hb).mono ?_; rintro e w9 ⟨v9, rfl, O9, h9⟩)
        exact hK.out _ _ ⟨_, _, v15, v16, v7, v8, v9, b, b', b2, b3, d, d', d2, d3, w'.heap.size, w9.heap.size, lo2, hi2, x8, rfl, hb.on h9, (fun _ => rfl), g2, fun _ => ⟨rfl, O9, hb.size, Nat.le_refl _⟩, fun q => ⟨(g3 q).1, (g3 q).2.1.below h9 (g3 q).2.2.2, (g3 q).2.2.1, Nat.le_trans (g3 q).2.2.2 h9.size⟩, fun q => ⟨(g4 q).1, (g4 q).2.1, Nat.lt_of_lt_of_le (g4 q).2.2 h9.size⟩, fun q => absurd (g5 q).1 (by simp [hf]), fun _ q => .inl (g4 q).2.2, d22, fun q r => (e4 q r).below h9, fun q => ⟨(e6 q).1, (e6 q).2.1, (e6 q).2.2.below h9⟩⟩
      | 2, ho, hf =>
        simp only [List.getElem?_toArray, List.getElem?_cons_zero, List.getElem?_cons_succ, Option.some.injEq] at ho
        subst ho
        rintro ac w' ⟨v13, v14, v15, v16, v7, v8, X, b, b', b2, b3, d, d', d2, d3, lo1, hi1, lo2, hi2, x8, rfl, hb, g0, g2, g1, g3, g4, g5, d1, d22, e4, e6⟩ K hK
        replace hK := toHid hK
        obtain ⟨-, m2, m3⟩ := BM.out.below hb
        go_wp2
        exact hK.out _ _ ⟨v13, v14, _, v16, v7, v8, X, b, b', b2, b3, d, d', d2, d3, lo1, hi1, lo2, hi2, x8, rfl, hb, g0, fun _ => rfl, g1, g3, g4, g5, d1, d22, e4, e6⟩
      | 3, ho, hf =>
        simp only [List.getElem?_toArray, List.getElem?_cons_zero, List.getElem?_cons_succ, Option.some.injEq] at ho
        subst ho
        have q0 := hd ⟨2, .data⟩ (by simp) (by rfl)
        rintro ac w' ⟨v13, v14, v15, v16, v7, v8, X, b, b', b2, b3, d, d', d2, d3, lo1, hi1, lo2, hi2, x8, rfl, hb, g0, g2, g1, g3, g4, g5, d1, d22, e4, e6⟩ K hK
        replace hK := toHid hK
        obtain rfl := g2 q0
        go_wp2_with (go_at_call 8; refine (HC1.out _ hb).mono ?_; rintro e w9 ⟨pp, qq, rr, ss, rfl, R9, h9⟩; obtain ⟨y, f, y', f', y2, f2, y3, f3, rfl, rfl, rfl, rfl⟩ := R9.shape)
        exact hK.out _ _ ⟨v13, v14, _, _, v7, v8, X, y, y', y2, y3, f, f', f2, f3, lo1, hi1, w'.heap.size, w9.heap.size, x8, rfl, hb.on h9, g0, (fun _ => rfl), fun q => ⟨(g1 q).1, (g1 q).2.1.below h9 (g1 q).2.2.2, (g1 q).2.2.1, Nat.le_trans (g1 q).2.2.2 h9.size⟩, fun _ => ⟨rfl, R9, hb.size, Nat.le_refl _⟩, fun q => ⟨(g4 q).1, (g4 q).2.1, Nat.lt_of_lt_of_le (g4 q).2.2 h9.size⟩, g5, d1, fun _ q => .inl (g4 q).2.2, fun q r => (e4 q r).below h9, fun q => absurd (e6 q).1 (by simp [hf])⟩
      | 4, ho, hf =>
        simp only [List.getElem?_toArray, List.getElem?_cons_zero, List.getElem?_cons_succ, Option.some.injEq] at ho
        subst ho
        rintro ac w' ⟨v13, v14, v15, v16, v7, v8, X, b, b', b2, b3, d, d', d2, d3, lo1, hi1, lo2, hi2, x8, rfl, hb, g0, g2, g1, g3, g4, g5, d1, d22, e4, e6⟩ K hK
        replace hK := toHid hK
        go_wp2
        exact hK.out _ _ ⟨v13, v14, v15, v16, v7, _, X, b, b', b2, b3, d, d', d2, d3, lo1, hi1, lo2, hi2, w'.heap.size, rfl, hb.onA _, g0, g2, fun q => ⟨(g1 q).1, (g1 q).2.1.below ((Below.refl _ w').onA _) (g1 q).2.2.2, (g1 q).2.2.1, Nat.le_trans (g1 q).2.2.2 (by simp)⟩, fun q => ⟨(g3 q).1, (g3 q).2.1.alloc _, (g3 q).2.2.1, Nat.le_trans (g3 q).2.2.2 (by simp)⟩, fun _ => ⟨rfl, hb.size, by simp⟩, g5, fun q _ => .inr (g1 q).2.2.2, fun q _ => .inr (g3 q).2.2.2, fun _ _ => Box.new w' _ _, fun q => absurd (e6 q).2.1 (by simp [hf])⟩
      | 5, ho, hf =>
        simp only [List.getElem?_toArray, List.getElem?_cons_zero, List.getElem?_cons_succ, Option.some.injEq] at ho
        subst ho
        have q1 := hd ⟨1, .data⟩ (by simp) (by rfl)
        rintro ac w' ⟨v13, v14, v15, v16, v7, v8, X, b, b', b2, b3, d, d', d2, d3, lo1, hi1, lo2, hi2, x8, rfl, hb, g0, g2, g1, g3, g4, g5, d1, d22, e4, e6⟩ K hK
        replace hK := toHid hK
        obtain ⟨rfl, R1, k1, l1⟩ := g1 q1
        replace R1 := toHid R1
        clear g1
        go_wp2
        exact hK.out _ _ ⟨v13, _, v15, v16, _, v8, v14, b, b', b2, b3, d, d', d2, d3, lo1, hi1, lo2, hi2, x8, rfl, hb, g0, g2, fun _ => ⟨rfl, R1.out, k1, l1⟩, g3, g4, fun _ => ⟨q1, rfl⟩, d1, d22, e4, e6⟩
      | 6, ho, hf =>
        simp only [List.getElem?_toArray, List.getElem?_cons_zero, List.getElem?_cons_succ, Option.some.injEq] at ho
        subst ho
        have q1 := hd ⟨1, .phase⟩ (by simp) (by rfl)
        have q3 := hd ⟨3, .data⟩ (by simp) (by rfl)
        have q4 := hd ⟨4, .data⟩ (by simp) (by rfl)
        rintro ac w' ⟨v13, v14, v15, v16, v7, v8, X, b, b', b2, b3, d, d', d2, d3, lo1, hi1, lo2, hi2, x8, rfl, hb, g0, g2, g1, g3, g4, g5, d1, d22, e4, e6⟩ K hK
        replace hK := toHid hK
        obtain ⟨rfl, k8, l8⟩ := g4 q4
        obtain ⟨rfl, R3, k3, l3⟩ := g3 q3
        obtain ⟨rfl, R1, k1, l1⟩ := g1 q1
        replace R1 := toHid R1
        replace R3 := toHid R3
        clear g3 g4 g1
        have BX := e4 q4 hf
        obtain ⟨bx1, bx2, bx3⟩ := id BX
        obtain ⟨BY, ON⟩ := BX.set6 (.bool up) (.int .i64 ni) (.slice b ps.length d) (.slice b' is.length d') (.slice b2 ts.length d2) (.slice b3 ls.length d3)
        replace BY := toHid BY
        replace ON := toHid ON
        replace d1 := toHid d1
        replace d22 := toHid d22
        replace e6 := toHid e6
        replace e4 := toHid e4
        replace hb := toHid hb
        replace g0 := toHid g0
        replace g2 := toHid g2
        replace g5 := toHid g5
        replace hd := toHid hd
        have q1h := toHid q1
        have q3h := toHid q3
        have q4h := toHid q4
        replace k1 := toHid k1
        replace l1 := toHid l1
        replace k3 := toHid k3
        replace l3 := toHid l3
        replace k8 := toHid k8
        clear BX q1 q3 q4 s1 s2 t2 u2 y2 HC0 HC1
        go_wp2
        have sz := ON.out.size
        have k1 := k1.out
        have l1 := l1.out
        have k3 := k3.out
        have l3 := l3.out
        have k8 := k8.out
        have q1 := q1h.out
        have q3 := q3h.out
        have q4 := q4h.out
        exact hK.out _ _ ⟨v13, _, v15, _, v7, _, v14, b, b', b2, b3, d, d', d2, d3, lo1, hi1, lo2, hi2, x8, rfl, hb.out.trans (ON.out.below.mono k8), g0.out, g2.out, fun _ => ⟨rfl, R1.out.only ON.out (by have := d1.out q1 q4; omega), k1, by omega⟩, fun _ => ⟨rfl, R3.out.only ON.out (by have := d22.out q3 q4; omega), k3, by omega⟩, fun _ => ⟨rfl, k8, by omega⟩, g5.out, d1.out, d22.out, (fun _ q => by cases q), fun _ => ⟨q3, q4, BY.out⟩⟩
      | j + 7, ho, hf => simp at ho
    · rintro f ac w' hf ⟨v13, v14, v15, v16, v7, v8, X, b, b', b2, b3, d, d', d2, d3, lo1, hi1, lo2, hi2, x8, rfl, hb, g0, g2, g1, g3, g4, g5, d1, d22, e4, e6⟩
      have BX := (e6 (hf 6 (by simp))).2.2
      obtain ⟨rfl, k8, l8⟩ := g4 (hf 4 (by simp))
      obtain rfl := (g5 (hf 5 (by simp))).2
      obtain ⟨rfl, R1, k1, l1⟩ := g1 (hf 1 (by simp))
      obtain ⟨rfl, R3, k3, l3⟩ := g3 (hf 3 (by simp))
      clear g0 g1 g2 g3 g4 g5 e4 e6 d1 d22
      replace hf := toHid hf
      replace BX := toHid BX
      replace R1 := toHid (R1.all l1)
      replace R3 := toHid (R3.wide (Nat.zero_le _) l3)
      go_wp2
      go_meet
      exact ⟨b, b', b2, b3, d, d', d2, d3, x8, rfl, hb, BX.out, R1.out, R3.out⟩
  case rest =>
    obtain ⟨b, b', b2, b3, d, d', d2, d3, x8, rfl, hbc, B8, L1, N2⟩ := hcut
    clear HC0 HC1
    have hx8 : Hid (x8 < wc.heap.size) := toHid B8.1
    have hxc : Hid (w.heap.size < wc.heap.size) := toHid (Nat.lt_of_lt_of_le hxA hbc.size)
    replace BM := toHid (BM.out.below hbc)
    replace R0 := toHid (R0.out.up hbc)
    replace N0 := toHid (N0.out.up hbc)
    replace B8 := toHid B8
    replace L1 := toHid L1
    replace N2 := toHid N2
    replace hB := toHid (hB.out.on hbc)
    clear hbc hxA
    obtain ⟨bR, hbR⟩ : ∃ x, (nnR a0 x1).isSome = x := ⟨_, rfl⟩
    obtain ⟨iR, hiR⟩ : ∃ x, nnI a0 (nnR a0 x1) = x := ⟨_, rfl⟩
    obtain ⟨E, hE⟩ : ∃ x, nnE (nnR a0 x1) = x := ⟨_, rfl⟩
    obtain ⟨L, hL⟩ : ∃ x, (nnR a0 x1).getD [] = x := ⟨_, rfl⟩
    obtain ⟨mB, hm⟩ : ∃ x, ndB ⟨up, ni, ps, is, ts, ls⟩ = x := ⟨_, rfl⟩
    have HA := toHid (fun (W : World) (v : Value) (lo hi : Nat) (R : RowI lo hi W v x1) (hh : hi ≤ W.heap.size) => nNew_at R hh a0 hbR hiR hE hL)
    have HR := toHid (fun (W : World) (v : Value) (lo hi : Nat) (R : RowI lo hi W v x1) (hh : hi ≤ W.heap.size) => rNewNode_at R hh a0 hbR hiR hE hL)
    have HM := toHid (fun (W : World) (p q r s : Value) (lo hi : Nat) (N : NdAt lo hi W p q r s ps is ts ls) (hh : hi ≤ W.heap.size) => nMay_is N hh hm)
    have HN := toHid (fun (W : World) (p q r s : Value) (lo hi : Nat) (N : NdAt lo hi W p q r s ps is ts ls) (hh : hi ≤ W.heap.size) => rNodeMay_is N hh s2 t2 u2 y2 hm)
    clear hbR hiR hE hL hm s1 s2 t2 u2 y2
    go_upto_region 4 with (first
      | (go_at_call 9; refine (HA.out _ _ _ _ L1.out.row (Nat.le_refl _)).mono ?_; rintro e w2 ⟨ua, rfl, RA, h2⟩
         obtain ⟨qa, da, rfl, -⟩ := id RA.cap
         have A2 := toHid (fun (cs : Array Value) (t : TypeId) => Box.new w2 cs t)
         have RA2 := toHid (fun o : Obj => RA.alloc o)
         have k2 := toHid h2
         clear RA h2)
      | (go_at_call 10; refine (HR.out _ _ _ _ (R0.out.up (k2.out.onA _)) (Nat.le_refl _)).mono ?_; rintro e w3 ⟨ub, rfl, RB, h3⟩
         obtain ⟨qb, db, rfl, -⟩ := id RB.cap
         have A3 := toHid ((A2.out _ _).below h3)
         have RA3 := toHid ((RA2.out _).below h3 (by simp))
         have RB3 := toHid (fun o : Obj => RB.alloc o)
         have z2 : Hid (wc.heap.size ≤ w2.heap.size) := toHid k2.out.size
         have z3 : Hid (w2.heap.size ≤ w3.heap.size) := toHid (Nat.le_trans (by simp) h3.size)
         have k3 := toHid ((k2.out.onA _).on h3)
         clear RB h3 A2 RA2 k2))
    have k4 := k3.out.onA (.cells #[.bool bR, .int .i64 iR, .slice none 0 0, .slice qb L.length db, .slice none 0 0, .slice none 0 0] 29)
    have A4 := A3.out.alloc (.cells #[.bool bR, .int .i64 iR, .slice none 0 0, .slice qb L.length db, .slice none 0 0, .slice none 0 0] 29)
    have B4 := Box.new w3 #[.bool bR, .int .i64 iR, .slice none 0 0, .slice qb L.length db, .slice none 0 0, .slice none 0 0] 29
    have RA4 := RA3.out.alloc (.cells #[.bool bR, .int .i64 iR, .slice none 0 0, .slice qb L.length db, .slice none 0 0, .slice none 0 0] 29)
    have RB4 := RB3.out (.cells #[.bool bR, .int .i64 iR, .slice none 0 0, .slice qb L.length db, .slice none 0 0, .slice none 0 0] 29)
    have z4 : w3.heap.size ≤ (w3.alloc (.cells #[.bool bR, .int .i64 iR, .slice none 0 0, .slice qb L.length db, .slice none 0 0, .slice none 0 0] 29)).heap.size := by simp
    generalize w3.alloc (.cells #[.bool bR, .int .i64 iR, .slice none 0 0, .slice qb L.length db, .slice none 0 0, .slice none 0 0] 29) = w4 at k4 A4 B4 RA4 RB4 z4 ⊢
    have X4 := BM.out.below k4
    have Y4 := B8.out.below k4
    replace N0 := toHid (N0.out.below k4 (Nat.le_refl _))
    replace N2 := toHid (N2.out.below k4 (Nat.le_refl _))
    replace L1 := toHid (L1.out.below k4 (Nat.le_refl _))
    replace R0 := toHid (R0.out.below k4 (Nat.le_refl _))
    have zc : Hid (wc.heap.size ≤ w4.heap.size) := toHid k4.size
    have y4 : Hid (w2.heap.size ≤ w4.heap.size) := toHid (Nat.le_trans z3.out z4)
    have HX := toHid X4
    have HY := toHid Y4
    have HAx := toHid A4
    replace RA4 := toHid RA4
    replace RB4 := toHid RB4
    replace k4 := toHid k4
    have z4h := toHid z4
    clear k3 A3 RA3 RB3 BM B8 z3 z4
    obtain ⟨a1', a2', a3'⟩ := A4
    obtain ⟨b1', b2', b3'⟩ := B4
    obtain ⟨x1', x2', x3'⟩ := X4
    obtain ⟨y1', y2', y3'⟩ := Y4
    refine wp_region_below (by kernel_rfl) (by kernel_rfl) ?_
    repeat (first
      | go_big_quiet_skip
      | (go_big_quiet_want; go_big_quiet_op; go_big_quiet_on)
      | (refine wpQuiet_step (fun K hK => ?_)
         go_simp
         first
           | (refine hK _ ?_; clear hK K)
           | (refine ⟨_, fun w' hw' => rfl, hK _ ?_⟩; clear hK K)
           | (apply Exists.intro
              refine ⟨fun w' hw' => ?_, hK _ ?_⟩
              · (obtain ⟨hc', hf'⟩ := bcell hw'
                 first
                   | (go_simp; rfl)
                   | (go_at_call 11; refine (sameNode_same bR iR (NdAt.ofI (RA4.out.below hw' y4.out)) (NdAt.ofI (RB4.out.below hw' z4h.out)) (Nat.le_trans y4.out hw'.size) (Nat.le_trans z4h.out hw'.size)).mono ?_; rintro e w9 ⟨rfl, h9⟩; exact ⟨rfl, hw'.on h9⟩)
                   | (go_at_call 12; refine (num_any _ _).mono ?_; rintro e w9 ⟨rfl, hw9⟩; subst w9; exact ⟨rfl, hw'⟩)
                   | (go_at_call 13; refine (HM.out _ _ _ _ _ _ _ (N2.out.below hw' zc.out) (Nat.le_trans zc.out hw'.size)).mono ?_; rintro e w9 ⟨rfl, h9⟩; exact ⟨rfl, hw'.on h9⟩)
                   | (go_at_call 14; refine (HN.out _ _ _ _ _ _ _ (N0.out.below hw' zc.out) (Nat.le_trans zc.out hw'.size)).mono ?_; rintro e w9 ⟨rfl, h9⟩; exact ⟨rfl, hw'.on h9⟩))
              clear hK K)))
    refine wpQuiet_nil ?_
    intro w5 h5
    clear a1' a2' a3' b1' b2' b3' x1' x2' x3' y1' y2' y3'
    obtain ⟨a1', a2', a3'⟩ := HAx.out.below h5
    have X5 := toHid (HX.out.below h5)
    have Y5 := toHid (HY.out.below h5)
    have N05 := toHid (N0.out.below h5 zc.out)
    have N25 := toHid (N2.out.below h5 zc.out)
    have L5 := toHid (L1.out.below h5 zc.out)
    have R5 := toHid (R0.out.below h5 zc.out)
    have RA5 := toHid (RA4.out.below h5 y4.out)
    have k5 := toHid (k4.out.on h5)
    have zw : Hid (wc.heap.size ≤ w5.heap.size) := toHid k5.out.size
    have z2w : Hid (w2.heap.size ≤ w5.heap.size) := toHid (Nat.le_trans y4.out h5.size)
    clear h5 HX HY HAx N0 N2 L1 R0 RA4 RB4
    go_wp2_with (first
      | (go_at_call 15; refine (spoilNode_at bR iR (NdAt.ofI RA5.out) zw.out z2w.out).mono ?_; rintro e w6 ⟨rfl, s6⟩
         clear a1' a2' a3'
         have X6 := toHid (X5.out.spl s6 (.inl hxc.out))
         have Y6 := toHid (Y5.out.spl s6 (.inl hx8.out))
         have N06 := toHid (N05.out.below s6.below (Nat.le_refl _))
         have N26 := toHid (N25.out.below s6.below (Nat.le_refl _))
         have L6 := toHid (L5.out.below s6.below (Nat.le_refl _))
         have R6 := toHid (R5.out.below s6.below (Nat.le_refl _))
         have k6 := toHid (k5.out.trans s6.below)
         have z6 : Hid (wc.heap.size ≤ w6.heap.size) := toHid k6.out.size
         clear s6 X5 Y5 N05 N25 L5 R5 RA5 k5)
      | (go_at_call 16; refine (keptInts_any L6.out R6.out).mono ?_; rintro e w7 ⟨rfl, n7, hw7⟩
         have h7 : Below w6.heap.size w6 w7 := hw7 ▸ (Below.refl _ w6).onD n7
         clear hw7
         obtain ⟨x1', x2', x3'⟩ := X6.out.below h7
         obtain ⟨y1', y2', y3'⟩ := Y6.out.below h7
         have N07 := toHid (N06.out.below h7 z6.out)
         have N27 := toHid (N26.out.below h7 z6.out)
         have k7 := toHid (k6.out.on h7)
         have z7 : Hid (wc.heap.size ≤ w7.heap.size) := toHid k7.out.size
         clear h7 X6 Y6 N06 N26 L6 R6 k6)
      | (go_at_call 11; refine (sameNode_same up ni N27.out N07.out z7.out z7.out).mono ?_; rintro e w8 ⟨rfl, h8⟩
         have k8 := toHid (k7.out.on h8)
         clear x1' x2' x3' y1' y2' y3' h8 N07 N27 k7)
      | (go_at_call 17; refine (awake16_any _).mono ?_; rintro e w9 ⟨rfl, h9⟩))
    go_ret
    exact ⟨rfl, hB.out.on (k8.out.on h9)⟩

/-! ### The row's step -/
set_option maxRecDepth 100000 in
theorem lifted (os : Os) (started : os.Started) (H : Type) (enc : TypeId × Value → H) :
    ReturnsInHanded {} Try.checked os 3 .any (Rows.nodesSpec.pre6 enc Try.prog Try.f3 Rows.nodesRow.domain false) (Rows.nodesSpec.post enc Try.prog Try.f3 false true false false) := by
  refine returnsInHanded_of_change_sized (C := Try.checked) ownK started (by kernel_rfl) Try.func3
    (ChangeSpec.witness6 (enc := enc) (C := Try.checked) false ⟨#[], #[.int .i64 0, .slice none 0 0, .agg #[.bool false, .int .i64 0, .slice none 0 0, .slice none 0 0, .slice none 0 0, .slice none 0 0]], []⟩ 8 (by kernel_rfl) (by kernel_rfl) (by kernel_rfl) (by kernel_rfl)) ?_
  intro W base args ds gs before hval0 hW hcnd hsz0 _
  have hsz : (DataW.weightsEach Try.prog (Try.f3.params.toList ++ Rows.nodesSpec.plain.varTypes Try.prog) (ds ++ gs)).all (· ≤ reachBytes) = true := hsz0
  have hval : ∀ (j : Nat) t v, Try.f3.params[j]? = some t → args[j]? = some v → Value.okWide Try.prog W .any base t v := hval0
  have hW' := hW
  obtain ⟨p, q, hA0, hV, rfl, hfz, hnd⟩ := hW
  have hA : DataW.TrodAll enc Try.prog W 0 (fun _ => true) true Try.f3.params.toList args.toList ds p := hA0
  rw [Try.params3] at hA hval hsz
  obtain ⟨v0, vs0, d0, ds0, p0, q0, hargs, rfl, rfl, h0, r0⟩ := trodAll_cons hA
  obtain ⟨v1, vs1, d1, ds1, p1, q1, rfl, rfl, rfl, h1, r1⟩ := trodAll_cons r0
  obtain ⟨v2, vs2, d2, ds2, p2, q2, rfl, rfl, rfl, h2, r2⟩ := trodAll_cons r1
  obtain ⟨rfl, rfl, rfl⟩ := trodAll_nil r2
  obtain rfl : args = #[v0, v1, v2] := by cases args; simp_all
  obtain ⟨rfl, rfl⟩ := trodVars_none hV
  clear r0 r1 r2
  have k0 := h0
  have lt0 : ∀ x ∈ p0, x.block < W.heap.size := by obtain ⟨m, hm⟩ := k0; exact DataW.trod_lt m _ _ _ hm
  have k1 := h1
  have lt1 : ∀ x ∈ p1, x.block < W.heap.size := by obtain ⟨m, hm⟩ := k1; exact DataW.trod_lt m _ _ _ hm
  have z1 : ∀ n ∈ d1.weights Try.prog 22, n ≤ reachBytes := fun n hn => by simpa using List.all_eq_true.1 hsz _ (DataW.weights_mem_each (j := 1) rfl rfl n hn)
  have f1 : W.noneFrozen p1 := fun b off hm => hfz b off (by simp [hm])
  have k2 := h2
  have lt2 : ∀ x ∈ p2, x.block < W.heap.size := by obtain ⟨m, hm⟩ := k2; exact DataW.trod_lt m _ _ _ hm
  have z2 : ∀ n ∈ d2.weights Try.prog 29, n ≤ reachBytes := fun n hn => by simpa using List.all_eq_true.1 hsz _ (DataW.weights_mem_each (j := 2) rfl rfl n hn)
  have f2 : W.noneFrozen p2 := fun b off hm => hfz b off (by simp [hm])
  obtain ⟨a0, rfl, rfl, rfl, w0⟩ := open_int Try.underlying3 (hval 0 3 v0 rfl rfl) h0
  obtain ⟨x1, r1, s1, w1⟩ := open_rowI (hval 1 22 v1 rfl rfl) h1 f1 z1
  obtain ⟨x2, r2, h2, s2, t2, u2, y2, w2, i2, j2, m2, n2⟩ := open_node (hval 2 29 v2 rfl rfl) h2 f2 z2
  clear hA0 hval0
  refine (walk a0 v1 x1 v2 x2 W w0 r1 s1 w1 r2 h2 s2 t2 u2 y2 w2 i2 j2 m2 n2).mono fun e W' ⟨he, bel⟩ => ?_
  subst he
  exact ⟨_, rfl, _, _, _, [], _, [], hW', trodAll_mk1 (shut_bool Try.underlying4 _), (trodAll_cons_mk (Below.trod laidOut (by kernel_rfl) (of_decide_eq_true (by kernel_rfl)) k0 bel lt0) (trodAll_cons_mk (Below.trod laidOut (by kernel_rfl) (of_decide_eq_true (by kernel_rfl)) k1 bel lt1) (trodAll_cons_mk (Below.trod laidOut (by kernel_rfl) (of_decide_eq_true (by kernel_rfl)) k2 bel lt2) trodAll_mk0))), rfl, bel.frame _, fun h => by cases h⟩

theorem over : Rows.nodesRow.holds Try.pinned (OpenSpec.ofChange Rows.nodesSpec) :=
  OpenClaim.holds_of_wide 3 Try.f3 rfl rfl rfl rfl rfl rfl rfl ⟨rfl, rfl, rfl, rfl, rfl⟩ rfl rfl rfl rfl rfl (by kernel_rfl) Try.func3 (by kernel_rfl)
    (of_decide_eq_true (by kernel_rfl)) (by unfold Func.isWrapper; first | (rw [if_pos (by decide +kernel)]; kernel_rfl) | (rw [if_neg (by decide +kernel)]; exact ⟨rfl, rfl⟩))
    (fun os started H enc _ => lifted os started H enc)

end Go.Proofs.Ytgcdbkhicpfklaa.nodes

namespace Go.Proofs.Ytgcdbkhicpfklaa
/-- The statement, by its short name. -/
theorem nodes_holds : Rows.NodesSaid := nodes.over
#print axioms nodes_holds
end Go.Proofs.Ytgcdbkhicpfklaa
