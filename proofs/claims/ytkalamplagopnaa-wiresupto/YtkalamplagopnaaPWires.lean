
/-
  The statement Wires, for messages and texts whose bulk together is at most 1,048,576: Put and Get answer as the document does, what comes back comes back, and nothing that came in has turned.
-/
import Derived.Test.YtkalamplagopnaaRows
import Derived.Test.YtkalamplagopnaaOpen
import Derived.Test.YtkalamplagopnaaWireLaw
import Derived.Test.YtkalamplagopnaaWireGet
import Derived.Test.YtkalamplagopnaaOpenM
import Derived.Test.YtkalamplagopnaaOpenSU
import Derived.JoinedCond
import Derived.Deep.CondSized
namespace Go.Proofs.Ytkalamplagopnaa.wires
open Go.ChangeShapes Go.WideShapes Go.ChangeAt Go.RowKit
set_option linter.unusedVariables false

/-! ### The walk -/
set_option maxHeartbeats 8000000 in
theorem walk (v0 : Value) (x0 : MgO) (v1 : Value) (x1 : List Int) (w : World) (r0 : v0 = .agg #[.int .i64 x0.n, .int .i64 x0.a, .int .i64 x0.b, x0.v, .int .i64 x0.k, .int .i64 x0.t.k, .int .i64 x0.t.c, .int .i64 x0.t.u, .int .i64 x0.t.x, .bool x0.t.g, .bool x0.h]) (h0 : RowI 0 w.heap.size w x0.v x0.is) (s0 : x0.is.length * 8 ≤ 140737488351232) (r1 : v1 = .string (sb x1)) (b1 : Byts x1) (s1 : x1.length ≤ 1048576) :
    Calls Try.prog 3 #[v0, v1] w fun e w' => e = .returned (.bool true) ∧ Below w.heap.size w w' := by
  obtain ⟨n, a, b, is, k, ⟨tk, tc, tu, tx, tg⟩, h, v⟩ := x0
  dsimp only at r0 h0 s0
  subst r0 r1
  obtain ⟨L, hL⟩ : ∃ L, x1 = L := ⟨_, rfl⟩
  rw [hL] at b1 s1 ⊢
  clear hL
  have HP1 := fun (W : World) (v : Value) (lo hi : Nat) (R : RowI lo hi W v is) (hh : hi ≤ W.heap.size) => wPut_any R hh n a b k tk tc tu tx tg h
  have HP2 := fun (W : World) (v : Value) (lo hi : Nat) (R : RowI lo hi W v is) (hh : hi ≤ W.heap.size) => rPutMsg_any R hh n a b k tk tc tu tx tg h
  have HG1 := fun (W : World) => wGet_any b1 (by omega) W
  have HG2 := fun (W : World) => rGetMsg_any b1 (by omega) W
  have qT : getB L = true → putL (getM L) = L ∧ putE (getM L) = 0 ∧ getE L = 0 := fun q => ⟨by rw [putL, if_pos (put_get q).1, (put_get q).2], by rw [putE, if_pos (put_get q).1], by rw [getE, if_pos q]⟩
  have qF : getB L = false → putL (getM L) = [] ∧ putE (getM L) = 1300 ∧ getE L = 1300 := fun q => by
    have e : getM L = zeroM := by rw [getM, if_neg (by simp [q])]
    rw [e]
    exact ⟨by decide +kernel, by decide +kernel, by rw [getE, if_neg (by simp [q])]⟩
  obtain ⟨⟨n', a', b', is', k', ⟨tk', tc', tu', tx', tg'⟩, h'⟩, hD⟩ : ∃ D, getM L = D := ⟨_, rfl⟩
  rw [hD] at HG1 HG2 qT qF
  have HP3 := fun (W : World) (v : Value) (lo hi : Nat) (R : RowI lo hi W v is') (hh : hi ≤ W.heap.size) => wPut_any R hh n' a' b' k' tk' tc' tu' tx' tg' h'
  clear hD
  dsimp only at HG1 HG2
  have B1 := toHid (fun (cs : Array Value) (t : TypeId) => Box.new w cs t)
  have V1 := toHid (fun o : Obj => h0.alloc o)
  obtain ⟨p, c, rfl, -⟩ := h0
  have t1 := trivial
  have t2 := trivial
  have t3 := trivial
  have t4 := trivial
  cases qa : mayB ⟨n, a, b, is, k, ⟨tk, tc, tu, tx, tg⟩, h⟩ with
  | false =>
    have e1 : putL ⟨n, a, b, is, k, ⟨tk, tc, tu, tx, tg⟩, h⟩ = [] := by simp [putL, qa]
    have e2 : putE ⟨n, a, b, is, k, ⟨tk, tc, tu, tx, tg⟩, h⟩ = 1300 := by simp [putE, qa]
    rw [e1, e2] at HP1 HP2
    have HG3 := fun (W : World) => wGet_any (L := []) (by intro x hx; cases hx) (by decide) W
    rw [show getM [] = zeroM by decide +kernel, show getE [] = 1300 by decide +kernel] at HG3
    dsimp only [zeroM, zeroI] at HG3
    replace HP1 := toHid HP1
    replace HP2 := toHid HP2
    replace HG1 := toHid HG1
    replace HG2 := toHid HG2
    replace HG3 := toHid HG3
    clear e1 e2 qa
    cases ql : getB L with
    | false =>
      obtain ⟨u1, u2, u3⟩ := qF ql
      rw [u1, u2] at HP3
      rw [u3] at HG1 HG2
      replace HP3 := toHid HP3
      clear u1 u2 u3 qF qT ql
      go_enter Try.func3, Try.ntmps3
      go_upto_region 2 with (first
        | (go_at_call 8; refine (copyMsg_any (V1.out _) (by omega) _ _ _ _ _ _ _ _ _ _).mono ?_; rintro e w1 ⟨p1, c1, rfl, X1, h1⟩
           have BM := toHid (((B1.out _ _).below h1).alloc (.cells #[.int .i64 n, .int .i64 a, .int .i64 b, .slice p1 is.length c1, .int .i64 k, .int .i64 tk, .int .i64 tc, .int .i64 tu, .int .i64 tx, .bool tg, .bool h] 28))
           have BX := toHid (Box.new w1 #[.int .i64 n, .int .i64 a, .int .i64 b, .slice p1 is.length c1, .int .i64 k, .int .i64 tk, .int .i64 tc, .int .i64 tu, .int .i64 tx, .bool tg, .bool h] 28)
           have RX := toHid ((X1.alloc (.cells #[.int .i64 n, .int .i64 a, .int .i64 b, .slice p1 is.length c1, .int .i64 k, .int .i64 tk, .int .i64 tc, .int .i64 tu, .int .i64 tx, .bool tg, .bool h] 28)).wide (Nat.zero_le _) (hi' := (w1.alloc (.cells #[.int .i64 n, .int .i64 a, .int .i64 b, .slice p1 is.length c1, .int .i64 k, .int .i64 tk, .int .i64 tc, .int .i64 tu, .int .i64 tx, .bool tg, .bool h] 28)).heap.size) (by simp))
           have RM := toHid ((((V1.out _).below h1 (by simp)).alloc (.cells #[.int .i64 n, .int .i64 a, .int .i64 b, .slice p1 is.length c1, .int .i64 k, .int .i64 tk, .int .i64 tc, .int .i64 tu, .int .i64 tx, .bool tg, .bool h] 28)).wide (Nat.zero_le _) (hi' := (w1.alloc (.cells #[.int .i64 n, .int .i64 a, .int .i64 b, .slice p1 is.length c1, .int .i64 k, .int .i64 tk, .int .i64 tc, .int .i64 tu, .int .i64 tx, .bool tg, .bool h] 28)).heap.size) (Nat.le_trans (by simp) (Nat.le_trans h1.size (by simp))))
           have hB := toHid ((((Below.refl _ w).onA _).on h1).onA (.cells #[.int .i64 n, .int .i64 a, .int .i64 b, .slice p1 is.length c1, .int .i64 k, .int .i64 tk, .int .i64 tc, .int .i64 tu, .int .i64 tx, .bool tg, .bool h] 28))
           clear X1 h1))
      generalize w1.alloc (.cells #[.int .i64 n, .int .i64 a, .int .i64 b, .slice p1 is.length c1, .int .i64 k, .int .i64 tk, .int .i64 tc, .int .i64 tu, .int .i64 tx, .bool tg, .bool h] 28) = wA at BM BX RX RM hB ⊢
      generalize w1.heap.size = bx at BX ⊢
      clear V1 B1
      have hk := toHid (Below.refl wA.heap.size wA)
      obtain ⟨d1, d2, d3⟩ := BX.out
      go_wp2_with (first
        | (go_at_call 9; clear t1; refine (HP1.out _ _ _ _ RX.out (Nat.le_refl _)).mono ?_; rintro e w2 ⟨rfl, h2⟩
           replace hk := toHid (hk.out.on h2)
           clear d1 d2 d3 h2
           obtain ⟨d1, d2, d3⟩ := BM.out.below hk.out)
        | (go_at_call 10; refine (HP2.out _ _ _ _ (RM.out.below hk.out (Nat.le_refl _)) hk.out.size).mono ?_; rintro e w3 ⟨rfl, h3⟩
           replace hk := toHid (hk.out.on h3)
           replace BM := toHid (BM.out.below hk.out)
           replace BX := toHid (BX.out.below hk.out)
           replace RM := toHid ((RM.out.below hk.out (Nat.le_refl _)).wide (Nat.le_refl _) hk.out.size)
           replace RX := toHid ((RX.out.below hk.out (Nat.le_refl _)).wide (Nat.le_refl _) hk.out.size)
           replace hB := toHid (hB.out.on hk.out)
           replace hk := toHid (Below.refl w3.heap.size w3)
           clear d1 d2 d3 h3)
        | (go_at_call 11; clear t2; refine (HG1.out _).mono ?_; rintro e w4 ⟨p4, c4, rfl, R4, h4⟩
           replace hk := toHid ((hk.out.on h4).onA (.cells #[.int .i64 n', .int .i64 a', .int .i64 b', .slice p4 is'.length c4, .int .i64 k', .int .i64 tk', .int .i64 tc', .int .i64 tu', .int .i64 tx', .bool tg', .bool h'] 28))
           have BC := toHid (Box.new w4 #[.int .i64 n', .int .i64 a', .int .i64 b', .slice p4 is'.length c4, .int .i64 k', .int .i64 tk', .int .i64 tc', .int .i64 tu', .int .i64 tx', .bool tg', .bool h'] 28)
           have RC := toHid (R4.alloc (.cells #[.int .i64 n', .int .i64 a', .int .i64 b', .slice p4 is'.length c4, .int .i64 k', .int .i64 tk', .int .i64 tc', .int .i64 tu', .int .i64 tx', .bool tg', .bool h'] 28))
           have kC := toHid (Below.refl (w4.alloc (.cells #[.int .i64 n', .int .i64 a', .int .i64 b', .slice p4 is'.length c4, .int .i64 k', .int .i64 tk', .int .i64 tc', .int .i64 tu', .int .i64 tx', .bool tg', .bool h'] 28)).heap.size (w4.alloc (.cells #[.int .i64 n', .int .i64 a', .int .i64 b', .slice p4 is'.length c4, .int .i64 k', .int .i64 tk', .int .i64 tc', .int .i64 tu', .int .i64 tx', .bool tg', .bool h'] 28)))
           clear R4 h4)
        | (go_at_call 12; refine (HG2.out _).mono ?_; rintro e w5 ⟨p5, c5, rfl, R5, h5⟩
           replace hk := toHid ((hk.out.on h5).onA (.cells #[.int .i64 n', .int .i64 a', .int .i64 b', .slice p5 is'.length c5, .int .i64 k', .int .i64 tk', .int .i64 tc', .int .i64 tu', .int .i64 tx', .bool tg', .bool h'] 28))
           replace kC := toHid ((kC.out.on h5).onA (.cells #[.int .i64 n', .int .i64 a', .int .i64 b', .slice p5 is'.length c5, .int .i64 k', .int .i64 tk', .int .i64 tc', .int .i64 tu', .int .i64 tx', .bool tg', .bool h'] 28))
           have BD := toHid (Box.new w5 #[.int .i64 n', .int .i64 a', .int .i64 b', .slice p5 is'.length c5, .int .i64 k', .int .i64 tk', .int .i64 tc', .int .i64 tu', .int .i64 tx', .bool tg', .bool h'] 28)
           have RD := toHid (R5.alloc (.cells #[.int .i64 n', .int .i64 a', .int .i64 b', .slice p5 is'.length c5, .int .i64 k', .int .i64 tk', .int .i64 tc', .int .i64 tu', .int .i64 tx', .bool tg', .bool h'] 28))
           have kD := toHid (Below.refl (w5.alloc (.cells #[.int .i64 n', .int .i64 a', .int .i64 b', .slice p5 is'.length c5, .int .i64 k', .int .i64 tk', .int .i64 tc', .int .i64 tu', .int .i64 tx', .bool tg', .bool h'] 28)).heap.size (w5.alloc (.cells #[.int .i64 n', .int .i64 a', .int .i64 b', .slice p5 is'.length c5, .int .i64 k', .int .i64 tk', .int .i64 tc', .int .i64 tu', .int .i64 tx', .bool tg', .bool h'] 28)))
           clear R5 h5)
        | (go_at_call 11; refine (HG3.out _).mono ?_; rintro e w6 ⟨p6, c6, rfl, R6, h6⟩
           replace hk := toHid ((hk.out.on h6).onA (.cells #[.int .i64 0, .int .i64 0, .int .i64 0, .slice p6 0 c6, .int .i64 0, .int .i64 0, .int .i64 0, .int .i64 0, .int .i64 0, .bool false, .bool false] 28))
           replace kC := toHid ((kC.out.on h6).onA (.cells #[.int .i64 0, .int .i64 0, .int .i64 0, .slice p6 0 c6, .int .i64 0, .int .i64 0, .int .i64 0, .int .i64 0, .int .i64 0, .bool false, .bool false] 28))
           replace kD := toHid ((kD.out.on h6).onA (.cells #[.int .i64 0, .int .i64 0, .int .i64 0, .slice p6 0 c6, .int .i64 0, .int .i64 0, .int .i64 0, .int .i64 0, .int .i64 0, .bool false, .bool false] 28))
           have BY := toHid (Box.new w6 #[.int .i64 0, .int .i64 0, .int .i64 0, .slice p6 0 c6, .int .i64 0, .int .i64 0, .int .i64 0, .int .i64 0, .int .i64 0, .bool false, .bool false] 28)
           have RY := toHid (R6.alloc (.cells #[.int .i64 0, .int .i64 0, .int .i64 0, .slice p6 0 c6, .int .i64 0, .int .i64 0, .int .i64 0, .int .i64 0, .int .i64 0, .bool false, .bool false] 28))
           have kY := toHid (Below.refl (w6.alloc (.cells #[.int .i64 0, .int .i64 0, .int .i64 0, .slice p6 0 c6, .int .i64 0, .int .i64 0, .int .i64 0, .int .i64 0, .int .i64 0, .bool false, .bool false] 28)).heap.size (w6.alloc (.cells #[.int .i64 0, .int .i64 0, .int .i64 0, .slice p6 0 c6, .int .i64 0, .int .i64 0, .int .i64 0, .int .i64 0, .int .i64 0, .bool false, .bool false] 28)))
           obtain ⟨d1, d2, d3⟩ := BC.out.below kC.out
           have zC := toHid (Nat.le_trans (show w4.heap.size ≤ (w4.alloc (.cells #[.int .i64 n', .int .i64 a', .int .i64 b', .slice p4 is'.length c4, .int .i64 k', .int .i64 tk', .int .i64 tc', .int .i64 tu', .int .i64 tx', .bool tg', .bool h'] 28)).heap.size by simp) kC.out.size)
           clear R6 h6)
        | (go_at_call 9; refine (HP3.out _ _ _ _ (RC.out.below kC.out (by simp)) zC.out).mono ?_; rintro e w7 ⟨rfl, h7⟩
           replace hk := toHid (hk.out.on h7)
           replace kC := toHid (kC.out.on h7)
           replace kD := toHid (kD.out.on h7)
           replace kY := toHid (kY.out.on h7)
           clear d1 d2 d3 h7
           obtain ⟨d1, d2, d3⟩ := BC.out.below kC.out
           obtain ⟨f1, f2, f3⟩ := BD.out.below kD.out)
        | (go_at_call 14; clear t3; refine (sameMsg_same (RC.out.below kC.out (by simp)) (RD.out.below kD.out (by simp)) n' a' b' k' tk' tc' tu' tx' tg' h').mono ?_; rintro e w8 ⟨rfl, h8⟩
           replace hk := toHid (hk.out.on h8)
           replace kC := toHid (kC.out.on h8)
           replace kD := toHid (kD.out.on h8)
           replace kY := toHid (kY.out.on h8)
           clear d1 d2 d3 f1 f2 f3 h8
           obtain ⟨d1, d2, d3⟩ := BC.out.below kC.out
           have f1 := trivial
           have f2 := trivial
           have f3 := trivial)
        | (go_at_call 15; refine (spoilInts_any (RC.out.below kC.out (by simp))).mono ?_; rintro e w10 ⟨rfl, h10⟩
           replace hk := toHid (hk.out.trans h10)
           clear d1 d2 d3 f1 f2 f3 h10
           obtain ⟨d1, d2, d3⟩ := BX.out.below hk.out
           obtain ⟨f1, f2, f3⟩ := BM.out.below hk.out)
        | (go_at_call 14; refine (sameMsg_same (RX.out.below hk.out (Nat.le_refl _)) (RM.out.below hk.out (Nat.le_refl _)) n a b k tk tc tu tx tg h).mono ?_; rintro e w11 ⟨rfl, h11⟩
           replace hk := toHid (hk.out.on h11)
           clear d1 d2 d3 f1 f2 f3 h11)
        | (go_at_call 16; refine (awake13_any _).mono ?_; rintro e w12 ⟨rfl, h12⟩
           replace hk := toHid (hk.out.on h12))
        | (go_at_call 13; refine (num_any _ _).mono ?_; rintro e w13 ⟨rfl, hw13⟩; subst w13))
      go_ret
      exact ⟨rfl, hB.out.on hk.out⟩
    | true =>
      obtain ⟨u1, u2, u3⟩ := qT ql
      rw [u1, u2] at HP3
      rw [u3] at HG1 HG2
      replace HP3 := toHid HP3
      clear u1 u2 u3 qF qT ql
      go_enter Try.func3, Try.ntmps3
      go_upto_region 2 with (first
        | (go_at_call 8; refine (copyMsg_any (V1.out _) (by omega) _ _ _ _ _ _ _ _ _ _).mono ?_; rintro e w1 ⟨p1, c1, rfl, X1, h1⟩
           have BM := toHid (((B1.out _ _).below h1).alloc (.cells #[.int .i64 n, .int .i64 a, .int .i64 b, .slice p1 is.length c1, .int .i64 k, .int .i64 tk, .int .i64 tc, .int .i64 tu, .int .i64 tx, .bool tg, .bool h] 28))
           have BX := toHid (Box.new w1 #[.int .i64 n, .int .i64 a, .int .i64 b, .slice p1 is.length c1, .int .i64 k, .int .i64 tk, .int .i64 tc, .int .i64 tu, .int .i64 tx, .bool tg, .bool h] 28)
           have RX := toHid ((X1.alloc (.cells #[.int .i64 n, .int .i64 a, .int .i64 b, .slice p1 is.length c1, .int .i64 k, .int .i64 tk, .int .i64 tc, .int .i64 tu, .int .i64 tx, .bool tg, .bool h] 28)).wide (Nat.zero_le _) (hi' := (w1.alloc (.cells #[.int .i64 n, .int .i64 a, .int .i64 b, .slice p1 is.length c1, .int .i64 k, .int .i64 tk, .int .i64 tc, .int .i64 tu, .int .i64 tx, .bool tg, .bool h] 28)).heap.size) (by simp))
           have RM := toHid ((((V1.out _).below h1 (by simp)).alloc (.cells #[.int .i64 n, .int .i64 a, .int .i64 b, .slice p1 is.length c1, .int .i64 k, .int .i64 tk, .int .i64 tc, .int .i64 tu, .int .i64 tx, .bool tg, .bool h] 28)).wide (Nat.zero_le _) (hi' := (w1.alloc (.cells #[.int .i64 n, .int .i64 a, .int .i64 b, .slice p1 is.length c1, .int .i64 k, .int .i64 tk, .int .i64 tc, .int .i64 tu, .int .i64 tx, .bool tg, .bool h] 28)).heap.size) (Nat.le_trans (by simp) (Nat.le_trans h1.size (by simp))))
           have hB := toHid ((((Below.refl _ w).onA _).on h1).onA (.cells #[.int .i64 n, .int .i64 a, .int .i64 b, .slice p1 is.length c1, .int .i64 k, .int .i64 tk, .int .i64 tc, .int .i64 tu, .int .i64 tx, .bool tg, .bool h] 28))
           clear X1 h1))
      generalize w1.alloc (.cells #[.int .i64 n, .int .i64 a, .int .i64 b, .slice p1 is.length c1, .int .i64 k, .int .i64 tk, .int .i64 tc, .int .i64 tu, .int .i64 tx, .bool tg, .bool h] 28) = wA at BM BX RX RM hB ⊢
      generalize w1.heap.size = bx at BX ⊢
      clear V1 B1
      have hk := toHid (Below.refl wA.heap.size wA)
      obtain ⟨d1, d2, d3⟩ := BX.out
      go_wp2_with (first
        | (go_at_call 9; clear t1; refine (HP1.out _ _ _ _ RX.out (Nat.le_refl _)).mono ?_; rintro e w2 ⟨rfl, h2⟩
           replace hk := toHid (hk.out.on h2)
           clear d1 d2 d3 h2
           obtain ⟨d1, d2, d3⟩ := BM.out.below hk.out)
        | (go_at_call 10; refine (HP2.out _ _ _ _ (RM.out.below hk.out (Nat.le_refl _)) hk.out.size).mono ?_; rintro e w3 ⟨rfl, h3⟩
           replace hk := toHid (hk.out.on h3)
           replace BM := toHid (BM.out.below hk.out)
           replace BX := toHid (BX.out.below hk.out)
           replace RM := toHid ((RM.out.below hk.out (Nat.le_refl _)).wide (Nat.le_refl _) hk.out.size)
           replace RX := toHid ((RX.out.below hk.out (Nat.le_refl _)).wide (Nat.le_refl _) hk.out.size)
           replace hB := toHid (hB.out.on hk.out)
           replace hk := toHid (Below.refl w3.heap.size w3)
           clear d1 d2 d3 h3)
        | (go_at_call 11; clear t2; refine (HG1.out _).mono ?_; rintro e w4 ⟨p4, c4, rfl, R4, h4⟩
           replace hk := toHid ((hk.out.on h4).onA (.cells #[.int .i64 n', .int .i64 a', .int .i64 b', .slice p4 is'.length c4, .int .i64 k', .int .i64 tk', .int .i64 tc', .int .i64 tu', .int .i64 tx', .bool tg', .bool h'] 28))
           have BC := toHid (Box.new w4 #[.int .i64 n', .int .i64 a', .int .i64 b', .slice p4 is'.length c4, .int .i64 k', .int .i64 tk', .int .i64 tc', .int .i64 tu', .int .i64 tx', .bool tg', .bool h'] 28)
           have RC := toHid (R4.alloc (.cells #[.int .i64 n', .int .i64 a', .int .i64 b', .slice p4 is'.length c4, .int .i64 k', .int .i64 tk', .int .i64 tc', .int .i64 tu', .int .i64 tx', .bool tg', .bool h'] 28))
           have kC := toHid (Below.refl (w4.alloc (.cells #[.int .i64 n', .int .i64 a', .int .i64 b', .slice p4 is'.length c4, .int .i64 k', .int .i64 tk', .int .i64 tc', .int .i64 tu', .int .i64 tx', .bool tg', .bool h'] 28)).heap.size (w4.alloc (.cells #[.int .i64 n', .int .i64 a', .int .i64 b', .slice p4 is'.length c4, .int .i64 k', .int .i64 tk', .int .i64 tc', .int .i64 tu', .int .i64 tx', .bool tg', .bool h'] 28)))
           clear R4 h4)
        | (go_at_call 12; refine (HG2.out _).mono ?_; rintro e w5 ⟨p5, c5, rfl, R5, h5⟩
           replace hk := toHid ((hk.out.on h5).onA (.cells #[.int .i64 n', .int .i64 a', .int .i64 b', .slice p5 is'.length c5, .int .i64 k', .int .i64 tk', .int .i64 tc', .int .i64 tu', .int .i64 tx', .bool tg', .bool h'] 28))
           replace kC := toHid ((kC.out.on h5).onA (.cells #[.int .i64 n', .int .i64 a', .int .i64 b', .slice p5 is'.length c5, .int .i64 k', .int .i64 tk', .int .i64 tc', .int .i64 tu', .int .i64 tx', .bool tg', .bool h'] 28))
           have BD := toHid (Box.new w5 #[.int .i64 n', .int .i64 a', .int .i64 b', .slice p5 is'.length c5, .int .i64 k', .int .i64 tk', .int .i64 tc', .int .i64 tu', .int .i64 tx', .bool tg', .bool h'] 28)
           have RD := toHid (R5.alloc (.cells #[.int .i64 n', .int .i64 a', .int .i64 b', .slice p5 is'.length c5, .int .i64 k', .int .i64 tk', .int .i64 tc', .int .i64 tu', .int .i64 tx', .bool tg', .bool h'] 28))
           have kD := toHid (Below.refl (w5.alloc (.cells #[.int .i64 n', .int .i64 a', .int .i64 b', .slice p5 is'.length c5, .int .i64 k', .int .i64 tk', .int .i64 tc', .int .i64 tu', .int .i64 tx', .bool tg', .bool h'] 28)).heap.size (w5.alloc (.cells #[.int .i64 n', .int .i64 a', .int .i64 b', .slice p5 is'.length c5, .int .i64 k', .int .i64 tk', .int .i64 tc', .int .i64 tu', .int .i64 tx', .bool tg', .bool h'] 28)))
           clear R5 h5)
        | (go_at_call 11; refine (HG3.out _).mono ?_; rintro e w6 ⟨p6, c6, rfl, R6, h6⟩
           replace hk := toHid ((hk.out.on h6).onA (.cells #[.int .i64 0, .int .i64 0, .int .i64 0, .slice p6 0 c6, .int .i64 0, .int .i64 0, .int .i64 0, .int .i64 0, .int .i64 0, .bool false, .bool false] 28))
           replace kC := toHid ((kC.out.on h6).onA (.cells #[.int .i64 0, .int .i64 0, .int .i64 0, .slice p6 0 c6, .int .i64 0, .int .i64 0, .int .i64 0, .int .i64 0, .int .i64 0, .bool false, .bool false] 28))
           replace kD := toHid ((kD.out.on h6).onA (.cells #[.int .i64 0, .int .i64 0, .int .i64 0, .slice p6 0 c6, .int .i64 0, .int .i64 0, .int .i64 0, .int .i64 0, .int .i64 0, .bool false, .bool false] 28))
           have BY := toHid (Box.new w6 #[.int .i64 0, .int .i64 0, .int .i64 0, .slice p6 0 c6, .int .i64 0, .int .i64 0, .int .i64 0, .int .i64 0, .int .i64 0, .bool false, .bool false] 28)
           have RY := toHid (R6.alloc (.cells #[.int .i64 0, .int .i64 0, .int .i64 0, .slice p6 0 c6, .int .i64 0, .int .i64 0, .int .i64 0, .int .i64 0, .int .i64 0, .bool false, .bool false] 28))
           have kY := toHid (Below.refl (w6.alloc (.cells #[.int .i64 0, .int .i64 0, .int .i64 0, .slice p6 0 c6, .int .i64 0, .int .i64 0, .int .i64 0, .int .i64 0, .int .i64 0, .bool false, .bool false] 28)).heap.size (w6.alloc (.cells #[.int .i64 0, .int .i64 0, .int .i64 0, .slice p6 0 c6, .int .i64 0, .int .i64 0, .int .i64 0, .int .i64 0, .int .i64 0, .bool false, .bool false] 28)))
           obtain ⟨d1, d2, d3⟩ := BC.out.below kC.out
           have zC := toHid (Nat.le_trans (show w4.heap.size ≤ (w4.alloc (.cells #[.int .i64 n', .int .i64 a', .int .i64 b', .slice p4 is'.length c4, .int .i64 k', .int .i64 tk', .int .i64 tc', .int .i64 tu', .int .i64 tx', .bool tg', .bool h'] 28)).heap.size by simp) kC.out.size)
           clear R6 h6)
        | (go_at_call 9; refine (HP3.out _ _ _ _ (RC.out.below kC.out (by simp)) zC.out).mono ?_; rintro e w7 ⟨rfl, h7⟩
           replace hk := toHid (hk.out.on h7)
           replace kC := toHid (kC.out.on h7)
           replace kD := toHid (kD.out.on h7)
           replace kY := toHid (kY.out.on h7)
           clear d1 d2 d3 h7
           obtain ⟨d1, d2, d3⟩ := BC.out.below kC.out
           obtain ⟨f1, f2, f3⟩ := BD.out.below kD.out)
        | (go_at_call 14; clear t3; refine (sameMsg_same (RC.out.below kC.out (by simp)) (RD.out.below kD.out (by simp)) n' a' b' k' tk' tc' tu' tx' tg' h').mono ?_; rintro e w8 ⟨rfl, h8⟩
           replace hk := toHid (hk.out.on h8)
           replace kC := toHid (kC.out.on h8)
           replace kD := toHid (kD.out.on h8)
           replace kY := toHid (kY.out.on h8)
           clear d1 d2 d3 f1 f2 f3 h8
           obtain ⟨d1, d2, d3⟩ := BC.out.below kC.out
           have f1 := trivial
           have f2 := trivial
           have f3 := trivial)
        | (go_at_call 15; refine (spoilInts_any (RC.out.below kC.out (by simp))).mono ?_; rintro e w10 ⟨rfl, h10⟩
           replace hk := toHid (hk.out.trans h10)
           clear d1 d2 d3 f1 f2 f3 h10
           obtain ⟨d1, d2, d3⟩ := BX.out.below hk.out
           obtain ⟨f1, f2, f3⟩ := BM.out.below hk.out)
        | (go_at_call 14; refine (sameMsg_same (RX.out.below hk.out (Nat.le_refl _)) (RM.out.below hk.out (Nat.le_refl _)) n a b k tk tc tu tx tg h).mono ?_; rintro e w11 ⟨rfl, h11⟩
           replace hk := toHid (hk.out.on h11)
           clear d1 d2 d3 f1 f2 f3 h11)
        | (go_at_call 16; refine (awake13_any _).mono ?_; rintro e w12 ⟨rfl, h12⟩
           replace hk := toHid (hk.out.on h12))
        | (go_at_call 13; refine (num_any _ _).mono ?_; rintro e w13 ⟨rfl, hw13⟩; subst w13))
      go_ret
      exact ⟨rfl, hB.out.on hk.out⟩
  | true =>
    have e1 : putL ⟨n, a, b, is, k, ⟨tk, tc, tu, tx, tg⟩, h⟩ = encM ⟨n, a, b, is, k, ⟨tk, tc, tu, tx, tg⟩, h⟩ := by simp [putL, qa]
    have e2 : putE ⟨n, a, b, is, k, ⟨tk, tc, tu, tx, tg⟩, h⟩ = 0 := by simp [putE, qa]
    have bX := encM_byts ⟨n, a, b, is, k, ⟨tk, tc, tu, tx, tg⟩, h⟩
    have lX : (encM ⟨n, a, b, is, k, ⟨tk, tc, tu, tx, tg⟩, h⟩).length ≤ 140737488355328 := by
      rw [enc_len, rest_len]
      dsimp only
      have := s0
      split
      · omega
      · split
        · omega
        · split
          · omega
          · split <;> omega
    obtain ⟨g1, g2⟩ := get_put qa
    have g3 : getE (encM ⟨n, a, b, is, k, ⟨tk, tc, tu, tx, tg⟩, h⟩) = 0 := by rw [getE, if_pos g1]
    have HG3 := fun (W : World) => wGet_any bX lX W
    rw [g2, g3] at HG3
    dsimp only at HG3
    rw [e1, e2] at HP1 HP2
    obtain ⟨X, hX⟩ : ∃ X, encM ⟨n, a, b, is, k, ⟨tk, tc, tu, tx, tg⟩, h⟩ = X := ⟨_, rfl⟩
    rw [hX] at HP1 HP2 HG3
    replace HP1 := toHid HP1
    replace HP2 := toHid HP2
    replace HG1 := toHid HG1
    replace HG2 := toHid HG2
    replace HG3 := toHid HG3
    clear e1 e2 qa bX lX g1 g2 g3 hX
    cases ql : getB L with
    | false =>
      obtain ⟨u1, u2, u3⟩ := qF ql
      rw [u1, u2] at HP3
      rw [u3] at HG1 HG2
      replace HP3 := toHid HP3
      clear u1 u2 u3 qF qT ql
      go_enter Try.func3, Try.ntmps3
      go_upto_region 2 with (first
        | (go_at_call 8; refine (copyMsg_any (V1.out _) (by omega) _ _ _ _ _ _ _ _ _ _).mono ?_; rintro e w1 ⟨p1, c1, rfl, X1, h1⟩
           have BM := toHid (((B1.out _ _).below h1).alloc (.cells #[.int .i64 n, .int .i64 a, .int .i64 b, .slice p1 is.length c1, .int .i64 k, .int .i64 tk, .int .i64 tc, .int .i64 tu, .int .i64 tx, .bool tg, .bool h] 28))
           have BX := toHid (Box.new w1 #[.int .i64 n, .int .i64 a, .int .i64 b, .slice p1 is.length c1, .int .i64 k, .int .i64 tk, .int .i64 tc, .int .i64 tu, .int .i64 tx, .bool tg, .bool h] 28)
           have RX := toHid ((X1.alloc (.cells #[.int .i64 n, .int .i64 a, .int .i64 b, .slice p1 is.length c1, .int .i64 k, .int .i64 tk, .int .i64 tc, .int .i64 tu, .int .i64 tx, .bool tg, .bool h] 28)).wide (Nat.zero_le _) (hi' := (w1.alloc (.cells #[.int .i64 n, .int .i64 a, .int .i64 b, .slice p1 is.length c1, .int .i64 k, .int .i64 tk, .int .i64 tc, .int .i64 tu, .int .i64 tx, .bool tg, .bool h] 28)).heap.size) (by simp))
           have RM := toHid ((((V1.out _).below h1 (by simp)).alloc (.cells #[.int .i64 n, .int .i64 a, .int .i64 b, .slice p1 is.length c1, .int .i64 k, .int .i64 tk, .int .i64 tc, .int .i64 tu, .int .i64 tx, .bool tg, .bool h] 28)).wide (Nat.zero_le _) (hi' := (w1.alloc (.cells #[.int .i64 n, .int .i64 a, .int .i64 b, .slice p1 is.length c1, .int .i64 k, .int .i64 tk, .int .i64 tc, .int .i64 tu, .int .i64 tx, .bool tg, .bool h] 28)).heap.size) (Nat.le_trans (by simp) (Nat.le_trans h1.size (by simp))))
           have hB := toHid ((((Below.refl _ w).onA _).on h1).onA (.cells #[.int .i64 n, .int .i64 a, .int .i64 b, .slice p1 is.length c1, .int .i64 k, .int .i64 tk, .int .i64 tc, .int .i64 tu, .int .i64 tx, .bool tg, .bool h] 28))
           clear X1 h1))
      generalize w1.alloc (.cells #[.int .i64 n, .int .i64 a, .int .i64 b, .slice p1 is.length c1, .int .i64 k, .int .i64 tk, .int .i64 tc, .int .i64 tu, .int .i64 tx, .bool tg, .bool h] 28) = wA at BM BX RX RM hB ⊢
      generalize w1.heap.size = bx at BX ⊢
      clear V1 B1
      have hk := toHid (Below.refl wA.heap.size wA)
      obtain ⟨d1, d2, d3⟩ := BX.out
      go_wp2_with (first
        | (go_at_call 9; clear t1; refine (HP1.out _ _ _ _ RX.out (Nat.le_refl _)).mono ?_; rintro e w2 ⟨rfl, h2⟩
           replace hk := toHid (hk.out.on h2)
           clear d1 d2 d3 h2
           obtain ⟨d1, d2, d3⟩ := BM.out.below hk.out)
        | (go_at_call 10; refine (HP2.out _ _ _ _ (RM.out.below hk.out (Nat.le_refl _)) hk.out.size).mono ?_; rintro e w3 ⟨rfl, h3⟩
           replace hk := toHid (hk.out.on h3)
           replace BM := toHid (BM.out.below hk.out)
           replace BX := toHid (BX.out.below hk.out)
           replace RM := toHid ((RM.out.below hk.out (Nat.le_refl _)).wide (Nat.le_refl _) hk.out.size)
           replace RX := toHid ((RX.out.below hk.out (Nat.le_refl _)).wide (Nat.le_refl _) hk.out.size)
           replace hB := toHid (hB.out.on hk.out)
           replace hk := toHid (Below.refl w3.heap.size w3)
           clear d1 d2 d3 h3)
        | (go_at_call 11; clear t2; refine (HG1.out _).mono ?_; rintro e w4 ⟨p4, c4, rfl, R4, h4⟩
           replace hk := toHid ((hk.out.on h4).onA (.cells #[.int .i64 n', .int .i64 a', .int .i64 b', .slice p4 is'.length c4, .int .i64 k', .int .i64 tk', .int .i64 tc', .int .i64 tu', .int .i64 tx', .bool tg', .bool h'] 28))
           have BC := toHid (Box.new w4 #[.int .i64 n', .int .i64 a', .int .i64 b', .slice p4 is'.length c4, .int .i64 k', .int .i64 tk', .int .i64 tc', .int .i64 tu', .int .i64 tx', .bool tg', .bool h'] 28)
           have RC := toHid (R4.alloc (.cells #[.int .i64 n', .int .i64 a', .int .i64 b', .slice p4 is'.length c4, .int .i64 k', .int .i64 tk', .int .i64 tc', .int .i64 tu', .int .i64 tx', .bool tg', .bool h'] 28))
           have kC := toHid (Below.refl (w4.alloc (.cells #[.int .i64 n', .int .i64 a', .int .i64 b', .slice p4 is'.length c4, .int .i64 k', .int .i64 tk', .int .i64 tc', .int .i64 tu', .int .i64 tx', .bool tg', .bool h'] 28)).heap.size (w4.alloc (.cells #[.int .i64 n', .int .i64 a', .int .i64 b', .slice p4 is'.length c4, .int .i64 k', .int .i64 tk', .int .i64 tc', .int .i64 tu', .int .i64 tx', .bool tg', .bool h'] 28)))
           clear R4 h4)
        | (go_at_call 12; refine (HG2.out _).mono ?_; rintro e w5 ⟨p5, c5, rfl, R5, h5⟩
           replace hk := toHid ((hk.out.on h5).onA (.cells #[.int .i64 n', .int .i64 a', .int .i64 b', .slice p5 is'.length c5, .int .i64 k', .int .i64 tk', .int .i64 tc', .int .i64 tu', .int .i64 tx', .bool tg', .bool h'] 28))
           replace kC := toHid ((kC.out.on h5).onA (.cells #[.int .i64 n', .int .i64 a', .int .i64 b', .slice p5 is'.length c5, .int .i64 k', .int .i64 tk', .int .i64 tc', .int .i64 tu', .int .i64 tx', .bool tg', .bool h'] 28))
           have BD := toHid (Box.new w5 #[.int .i64 n', .int .i64 a', .int .i64 b', .slice p5 is'.length c5, .int .i64 k', .int .i64 tk', .int .i64 tc', .int .i64 tu', .int .i64 tx', .bool tg', .bool h'] 28)
           have RD := toHid (R5.alloc (.cells #[.int .i64 n', .int .i64 a', .int .i64 b', .slice p5 is'.length c5, .int .i64 k', .int .i64 tk', .int .i64 tc', .int .i64 tu', .int .i64 tx', .bool tg', .bool h'] 28))
           have kD := toHid (Below.refl (w5.alloc (.cells #[.int .i64 n', .int .i64 a', .int .i64 b', .slice p5 is'.length c5, .int .i64 k', .int .i64 tk', .int .i64 tc', .int .i64 tu', .int .i64 tx', .bool tg', .bool h'] 28)).heap.size (w5.alloc (.cells #[.int .i64 n', .int .i64 a', .int .i64 b', .slice p5 is'.length c5, .int .i64 k', .int .i64 tk', .int .i64 tc', .int .i64 tu', .int .i64 tx', .bool tg', .bool h'] 28)))
           clear R5 h5)
        | (go_at_call 11; refine (HG3.out _).mono ?_; rintro e w6 ⟨p6, c6, rfl, R6, h6⟩
           replace hk := toHid ((hk.out.on h6).onA (.cells #[.int .i64 n, .int .i64 a, .int .i64 b, .slice p6 is.length c6, .int .i64 k, .int .i64 tk, .int .i64 tc, .int .i64 tu, .int .i64 tx, .bool tg, .bool h] 28))
           replace kC := toHid ((kC.out.on h6).onA (.cells #[.int .i64 n, .int .i64 a, .int .i64 b, .slice p6 is.length c6, .int .i64 k, .int .i64 tk, .int .i64 tc, .int .i64 tu, .int .i64 tx, .bool tg, .bool h] 28))
           replace kD := toHid ((kD.out.on h6).onA (.cells #[.int .i64 n, .int .i64 a, .int .i64 b, .slice p6 is.length c6, .int .i64 k, .int .i64 tk, .int .i64 tc, .int .i64 tu, .int .i64 tx, .bool tg, .bool h] 28))
           have BY := toHid (Box.new w6 #[.int .i64 n, .int .i64 a, .int .i64 b, .slice p6 is.length c6, .int .i64 k, .int .i64 tk, .int .i64 tc, .int .i64 tu, .int .i64 tx, .bool tg, .bool h] 28)
           have RY := toHid (R6.alloc (.cells #[.int .i64 n, .int .i64 a, .int .i64 b, .slice p6 is.length c6, .int .i64 k, .int .i64 tk, .int .i64 tc, .int .i64 tu, .int .i64 tx, .bool tg, .bool h] 28))
           have kY := toHid (Below.refl (w6.alloc (.cells #[.int .i64 n, .int .i64 a, .int .i64 b, .slice p6 is.length c6, .int .i64 k, .int .i64 tk, .int .i64 tc, .int .i64 tu, .int .i64 tx, .bool tg, .bool h] 28)).heap.size (w6.alloc (.cells #[.int .i64 n, .int .i64 a, .int .i64 b, .slice p6 is.length c6, .int .i64 k, .int .i64 tk, .int .i64 tc, .int .i64 tu, .int .i64 tx, .bool tg, .bool h] 28)))
           obtain ⟨d1, d2, d3⟩ := BC.out.below kC.out
           have zC := toHid (Nat.le_trans (show w4.heap.size ≤ (w4.alloc (.cells #[.int .i64 n', .int .i64 a', .int .i64 b', .slice p4 is'.length c4, .int .i64 k', .int .i64 tk', .int .i64 tc', .int .i64 tu', .int .i64 tx', .bool tg', .bool h'] 28)).heap.size by simp) kC.out.size)
           clear R6 h6)
        | (go_at_call 9; refine (HP3.out _ _ _ _ (RC.out.below kC.out (by simp)) zC.out).mono ?_; rintro e w7 ⟨rfl, h7⟩
           replace hk := toHid (hk.out.on h7)
           replace kC := toHid (kC.out.on h7)
           replace kD := toHid (kD.out.on h7)
           replace kY := toHid (kY.out.on h7)
           clear d1 d2 d3 h7
           obtain ⟨d1, d2, d3⟩ := BC.out.below kC.out
           obtain ⟨f1, f2, f3⟩ := BD.out.below kD.out)
        | (go_at_call 14; clear t3; refine (sameMsg_same (RC.out.below kC.out (by simp)) (RD.out.below kD.out (by simp)) n' a' b' k' tk' tc' tu' tx' tg' h').mono ?_; rintro e w8 ⟨rfl, h8⟩
           replace hk := toHid (hk.out.on h8)
           replace kC := toHid (kC.out.on h8)
           replace kD := toHid (kD.out.on h8)
           replace kY := toHid (kY.out.on h8)
           clear d1 d2 d3 f1 f2 f3 h8
           obtain ⟨d1, d2, d3⟩ := BY.out.below kY.out
           obtain ⟨f1, f2, f3⟩ := BM.out.below hk.out)
        | (go_at_call 14; clear t4; refine (sameMsg_same (RY.out.below kY.out (by simp)) (RM.out.below hk.out (Nat.le_refl _)) n a b k tk tc tu tx tg h).mono ?_; rintro e w9 ⟨rfl, h9⟩
           replace hk := toHid (hk.out.on h9)
           replace kC := toHid (kC.out.on h9)
           replace kD := toHid (kD.out.on h9)
           replace kY := toHid (kY.out.on h9)
           clear d1 d2 d3 f1 f2 f3 h9
           have f1 := trivial
           have f2 := trivial
           have f3 := trivial
           obtain ⟨d1, d2, d3⟩ := BC.out.below kC.out)
        | (go_at_call 15; refine (spoilInts_any (RC.out.below kC.out (by simp))).mono ?_; rintro e w10 ⟨rfl, h10⟩
           replace hk := toHid (hk.out.trans h10)
           clear d1 d2 d3 f1 f2 f3 h10
           obtain ⟨d1, d2, d3⟩ := BX.out.below hk.out
           obtain ⟨f1, f2, f3⟩ := BM.out.below hk.out)
        | (go_at_call 14; refine (sameMsg_same (RX.out.below hk.out (Nat.le_refl _)) (RM.out.below hk.out (Nat.le_refl _)) n a b k tk tc tu tx tg h).mono ?_; rintro e w11 ⟨rfl, h11⟩
           replace hk := toHid (hk.out.on h11)
           clear d1 d2 d3 f1 f2 f3 h11)
        | (go_at_call 16; refine (awake13_any _).mono ?_; rintro e w12 ⟨rfl, h12⟩
           replace hk := toHid (hk.out.on h12))
        | (go_at_call 13; refine (num_any _ _).mono ?_; rintro e w13 ⟨rfl, hw13⟩; subst w13))
      go_ret
      exact ⟨rfl, hB.out.on hk.out⟩
    | true =>
      obtain ⟨u1, u2, u3⟩ := qT ql
      rw [u1, u2] at HP3
      rw [u3] at HG1 HG2
      replace HP3 := toHid HP3
      clear u1 u2 u3 qF qT ql
      go_enter Try.func3, Try.ntmps3
      go_upto_region 2 with (first
        | (go_at_call 8; refine (copyMsg_any (V1.out _) (by omega) _ _ _ _ _ _ _ _ _ _).mono ?_; rintro e w1 ⟨p1, c1, rfl, X1, h1⟩
           have BM := toHid (((B1.out _ _).below h1).alloc (.cells #[.int .i64 n, .int .i64 a, .int .i64 b, .slice p1 is.length c1, .int .i64 k, .int .i64 tk, .int .i64 tc, .int .i64 tu, .int .i64 tx, .bool tg, .bool h] 28))
           have BX := toHid (Box.new w1 #[.int .i64 n, .int .i64 a, .int .i64 b, .slice p1 is.length c1, .int .i64 k, .int .i64 tk, .int .i64 tc, .int .i64 tu, .int .i64 tx, .bool tg, .bool h] 28)
           have RX := toHid ((X1.alloc (.cells #[.int .i64 n, .int .i64 a, .int .i64 b, .slice p1 is.length c1, .int .i64 k, .int .i64 tk, .int .i64 tc, .int .i64 tu, .int .i64 tx, .bool tg, .bool h] 28)).wide (Nat.zero_le _) (hi' := (w1.alloc (.cells #[.int .i64 n, .int .i64 a, .int .i64 b, .slice p1 is.length c1, .int .i64 k, .int .i64 tk, .int .i64 tc, .int .i64 tu, .int .i64 tx, .bool tg, .bool h] 28)).heap.size) (by simp))
           have RM := toHid ((((V1.out _).below h1 (by simp)).alloc (.cells #[.int .i64 n, .int .i64 a, .int .i64 b, .slice p1 is.length c1, .int .i64 k, .int .i64 tk, .int .i64 tc, .int .i64 tu, .int .i64 tx, .bool tg, .bool h] 28)).wide (Nat.zero_le _) (hi' := (w1.alloc (.cells #[.int .i64 n, .int .i64 a, .int .i64 b, .slice p1 is.length c1, .int .i64 k, .int .i64 tk, .int .i64 tc, .int .i64 tu, .int .i64 tx, .bool tg, .bool h] 28)).heap.size) (Nat.le_trans (by simp) (Nat.le_trans h1.size (by simp))))
           have hB := toHid ((((Below.refl _ w).onA _).on h1).onA (.cells #[.int .i64 n, .int .i64 a, .int .i64 b, .slice p1 is.length c1, .int .i64 k, .int .i64 tk, .int .i64 tc, .int .i64 tu, .int .i64 tx, .bool tg, .bool h] 28))
           clear X1 h1))
      generalize w1.alloc (.cells #[.int .i64 n, .int .i64 a, .int .i64 b, .slice p1 is.length c1, .int .i64 k, .int .i64 tk, .int .i64 tc, .int .i64 tu, .int .i64 tx, .bool tg, .bool h] 28) = wA at BM BX RX RM hB ⊢
      generalize w1.heap.size = bx at BX ⊢
      clear V1 B1
      have hk := toHid (Below.refl wA.heap.size wA)
      obtain ⟨d1, d2, d3⟩ := BX.out
      go_wp2_with (first
        | (go_at_call 9; clear t1; refine (HP1.out _ _ _ _ RX.out (Nat.le_refl _)).mono ?_; rintro e w2 ⟨rfl, h2⟩
           replace hk := toHid (hk.out.on h2)
           clear d1 d2 d3 h2
           obtain ⟨d1, d2, d3⟩ := BM.out.below hk.out)
        | (go_at_call 10; refine (HP2.out _ _ _ _ (RM.out.below hk.out (Nat.le_refl _)) hk.out.size).mono ?_; rintro e w3 ⟨rfl, h3⟩
           replace hk := toHid (hk.out.on h3)
           replace BM := toHid (BM.out.below hk.out)
           replace BX := toHid (BX.out.below hk.out)
           replace RM := toHid ((RM.out.below hk.out (Nat.le_refl _)).wide (Nat.le_refl _) hk.out.size)
           replace RX := toHid ((RX.out.below hk.out (Nat.le_refl _)).wide (Nat.le_refl _) hk.out.size)
           replace hB := toHid (hB.out.on hk.out)
           replace hk := toHid (Below.refl w3.heap.size w3)
           clear d1 d2 d3 h3)
        | (go_at_call 11; clear t2; refine (HG1.out _).mono ?_; rintro e w4 ⟨p4, c4, rfl, R4, h4⟩
           replace hk := toHid ((hk.out.on h4).onA (.cells #[.int .i64 n', .int .i64 a', .int .i64 b', .slice p4 is'.length c4, .int .i64 k', .int .i64 tk', .int .i64 tc', .int .i64 tu', .int .i64 tx', .bool tg', .bool h'] 28))
           have BC := toHid (Box.new w4 #[.int .i64 n', .int .i64 a', .int .i64 b', .slice p4 is'.length c4, .int .i64 k', .int .i64 tk', .int .i64 tc', .int .i64 tu', .int .i64 tx', .bool tg', .bool h'] 28)
           have RC := toHid (R4.alloc (.cells #[.int .i64 n', .int .i64 a', .int .i64 b', .slice p4 is'.length c4, .int .i64 k', .int .i64 tk', .int .i64 tc', .int .i64 tu', .int .i64 tx', .bool tg', .bool h'] 28))
           have kC := toHid (Below.refl (w4.alloc (.cells #[.int .i64 n', .int .i64 a', .int .i64 b', .slice p4 is'.length c4, .int .i64 k', .int .i64 tk', .int .i64 tc', .int .i64 tu', .int .i64 tx', .bool tg', .bool h'] 28)).heap.size (w4.alloc (.cells #[.int .i64 n', .int .i64 a', .int .i64 b', .slice p4 is'.length c4, .int .i64 k', .int .i64 tk', .int .i64 tc', .int .i64 tu', .int .i64 tx', .bool tg', .bool h'] 28)))
           clear R4 h4)
        | (go_at_call 12; refine (HG2.out _).mono ?_; rintro e w5 ⟨p5, c5, rfl, R5, h5⟩
           replace hk := toHid ((hk.out.on h5).onA (.cells #[.int .i64 n', .int .i64 a', .int .i64 b', .slice p5 is'.length c5, .int .i64 k', .int .i64 tk', .int .i64 tc', .int .i64 tu', .int .i64 tx', .bool tg', .bool h'] 28))
           replace kC := toHid ((kC.out.on h5).onA (.cells #[.int .i64 n', .int .i64 a', .int .i64 b', .slice p5 is'.length c5, .int .i64 k', .int .i64 tk', .int .i64 tc', .int .i64 tu', .int .i64 tx', .bool tg', .bool h'] 28))
           have BD := toHid (Box.new w5 #[.int .i64 n', .int .i64 a', .int .i64 b', .slice p5 is'.length c5, .int .i64 k', .int .i64 tk', .int .i64 tc', .int .i64 tu', .int .i64 tx', .bool tg', .bool h'] 28)
           have RD := toHid (R5.alloc (.cells #[.int .i64 n', .int .i64 a', .int .i64 b', .slice p5 is'.length c5, .int .i64 k', .int .i64 tk', .int .i64 tc', .int .i64 tu', .int .i64 tx', .bool tg', .bool h'] 28))
           have kD := toHid (Below.refl (w5.alloc (.cells #[.int .i64 n', .int .i64 a', .int .i64 b', .slice p5 is'.length c5, .int .i64 k', .int .i64 tk', .int .i64 tc', .int .i64 tu', .int .i64 tx', .bool tg', .bool h'] 28)).heap.size (w5.alloc (.cells #[.int .i64 n', .int .i64 a', .int .i64 b', .slice p5 is'.length c5, .int .i64 k', .int .i64 tk', .int .i64 tc', .int .i64 tu', .int .i64 tx', .bool tg', .bool h'] 28)))
           clear R5 h5)
        | (go_at_call 11; refine (HG3.out _).mono ?_; rintro e w6 ⟨p6, c6, rfl, R6, h6⟩
           replace hk := toHid ((hk.out.on h6).onA (.cells #[.int .i64 n, .int .i64 a, .int .i64 b, .slice p6 is.length c6, .int .i64 k, .int .i64 tk, .int .i64 tc, .int .i64 tu, .int .i64 tx, .bool tg, .bool h] 28))
           replace kC := toHid ((kC.out.on h6).onA (.cells #[.int .i64 n, .int .i64 a, .int .i64 b, .slice p6 is.length c6, .int .i64 k, .int .i64 tk, .int .i64 tc, .int .i64 tu, .int .i64 tx, .bool tg, .bool h] 28))
           replace kD := toHid ((kD.out.on h6).onA (.cells #[.int .i64 n, .int .i64 a, .int .i64 b, .slice p6 is.length c6, .int .i64 k, .int .i64 tk, .int .i64 tc, .int .i64 tu, .int .i64 tx, .bool tg, .bool h] 28))
           have BY := toHid (Box.new w6 #[.int .i64 n, .int .i64 a, .int .i64 b, .slice p6 is.length c6, .int .i64 k, .int .i64 tk, .int .i64 tc, .int .i64 tu, .int .i64 tx, .bool tg, .bool h] 28)
           have RY := toHid (R6.alloc (.cells #[.int .i64 n, .int .i64 a, .int .i64 b, .slice p6 is.length c6, .int .i64 k, .int .i64 tk, .int .i64 tc, .int .i64 tu, .int .i64 tx, .bool tg, .bool h] 28))
           have kY := toHid (Below.refl (w6.alloc (.cells #[.int .i64 n, .int .i64 a, .int .i64 b, .slice p6 is.length c6, .int .i64 k, .int .i64 tk, .int .i64 tc, .int .i64 tu, .int .i64 tx, .bool tg, .bool h] 28)).heap.size (w6.alloc (.cells #[.int .i64 n, .int .i64 a, .int .i64 b, .slice p6 is.length c6, .int .i64 k, .int .i64 tk, .int .i64 tc, .int .i64 tu, .int .i64 tx, .bool tg, .bool h] 28)))
           obtain ⟨d1, d2, d3⟩ := BC.out.below kC.out
           have zC := toHid (Nat.le_trans (show w4.heap.size ≤ (w4.alloc (.cells #[.int .i64 n', .int .i64 a', .int .i64 b', .slice p4 is'.length c4, .int .i64 k', .int .i64 tk', .int .i64 tc', .int .i64 tu', .int .i64 tx', .bool tg', .bool h'] 28)).heap.size by simp) kC.out.size)
           clear R6 h6)
        | (go_at_call 9; refine (HP3.out _ _ _ _ (RC.out.below kC.out (by simp)) zC.out).mono ?_; rintro e w7 ⟨rfl, h7⟩
           replace hk := toHid (hk.out.on h7)
           replace kC := toHid (kC.out.on h7)
           replace kD := toHid (kD.out.on h7)
           replace kY := toHid (kY.out.on h7)
           clear d1 d2 d3 h7
           obtain ⟨d1, d2, d3⟩ := BC.out.below kC.out
           obtain ⟨f1, f2, f3⟩ := BD.out.below kD.out)
        | (go_at_call 14; clear t3; refine (sameMsg_same (RC.out.below kC.out (by simp)) (RD.out.below kD.out (by simp)) n' a' b' k' tk' tc' tu' tx' tg' h').mono ?_; rintro e w8 ⟨rfl, h8⟩
           replace hk := toHid (hk.out.on h8)
           replace kC := toHid (kC.out.on h8)
           replace kD := toHid (kD.out.on h8)
           replace kY := toHid (kY.out.on h8)
           clear d1 d2 d3 f1 f2 f3 h8
           obtain ⟨d1, d2, d3⟩ := BY.out.below kY.out
           obtain ⟨f1, f2, f3⟩ := BM.out.below hk.out)
        | (go_at_call 14; clear t4; refine (sameMsg_same (RY.out.below kY.out (by simp)) (RM.out.below hk.out (Nat.le_refl _)) n a b k tk tc tu tx tg h).mono ?_; rintro e w9 ⟨rfl, h9⟩
           replace hk := toHid (hk.out.on h9)
           replace kC := toHid (kC.out.on h9)
           replace kD := toHid (kD.out.on h9)
           replace kY := toHid (kY.out.on h9)
           clear d1 d2 d3 f1 f2 f3 h9
           have f1 := trivial
           have f2 := trivial
           have f3 := trivial
           obtain ⟨d1, d2, d3⟩ := BC.out.below kC.out)
        | (go_at_call 15; refine (spoilInts_any (RC.out.below kC.out (by simp))).mono ?_; rintro e w10 ⟨rfl, h10⟩
           replace hk := toHid (hk.out.trans h10)
           clear d1 d2 d3 f1 f2 f3 h10
           obtain ⟨d1, d2, d3⟩ := BX.out.below hk.out
           obtain ⟨f1, f2, f3⟩ := BM.out.below hk.out)
        | (go_at_call 14; refine (sameMsg_same (RX.out.below hk.out (Nat.le_refl _)) (RM.out.below hk.out (Nat.le_refl _)) n a b k tk tc tu tx tg h).mono ?_; rintro e w11 ⟨rfl, h11⟩
           replace hk := toHid (hk.out.on h11)
           clear d1 d2 d3 f1 f2 f3 h11)
        | (go_at_call 16; refine (awake13_any _).mono ?_; rintro e w12 ⟨rfl, h12⟩
           replace hk := toHid (hk.out.on h12))
        | (go_at_call 13; refine (num_any _ _).mono ?_; rintro e w13 ⟨rfl, hw13⟩; subst w13))
      go_ret
      exact ⟨rfl, hB.out.on hk.out⟩

/-! ### The row's step -/
set_option maxRecDepth 100000 in
theorem lifted (os : Os) (started : os.Started) (H : Type) (enc : TypeId × Value → H) (FF : Stop.Interp) :
    ReturnsInHanded {} Try.checked os 3 .any ((Rows.OpenSpec.upto Rows.wiresSpec).pre6 enc Try.prog Try.f3 Rows.wiresUptoRow.domain false) (((Rows.OpenSpec.upto Rows.wiresSpec).at FF).post enc Try.prog Try.f3 false true false false) := by
  refine returnsInHanded_of_cond_sized (C := Try.checked) (s := Rows.OpenSpec.upto Rows.wiresSpec) (k := Rows.uptoSmall) rfl ownK started (by kernel_rfl) Try.func3
    (OpenSpec.witness (enc := enc) (C := Try.checked) (s := Rows.OpenSpec.upto Rows.wiresSpec) (k := Rows.uptoSmall) rfl false ⟨#[], #[.agg #[.int .i64 0, .int .i64 0, .int .i64 0, .slice none 0 0, .int .i64 0, .int .i64 0, .int .i64 0, .int .i64 0, .int .i64 0, .bool false, .bool false], .string { data := #[] }], []⟩ 8 (by kernel_rfl) (by kernel_rfl) (by kernel_rfl)
      (x := ([.agg [.lit (.int .i64 0), .lit (.int .i64 0), .lit (.int .i64 0), .nil, .lit (.int .i64 0), .agg [.lit (.int .i64 0), .agg [.lit (.int .i64 0), .lit (.int .i64 0)], .lit (.int .i64 0), .lit (.bool false)], .lit (.bool false)], .lit (.string [])], [], [])) (by kernel_rfl) rfl (by kernel_rfl)) ?_
  intro W base args ds gs before hval0 hW hcnd hk0 hsz0 _
  have hsz : (DataW.weightsEach Try.prog (Try.f3.params.toList ++ Rows.wiresSpec.plain.varTypes Try.prog) (ds ++ gs)).all (· ≤ reachBytes) = true := hsz0
  have hval : ∀ (j : Nat) t v, Try.f3.params[j]? = some t → args[j]? = some v → Value.okWide Try.prog W .any base t v := hval0
  have hW' := hW
  obtain ⟨p, q, hA0, hV, rfl, hfz, hnd⟩ := hW
  have hA : DataW.TrodAll enc Try.prog W 0 (fun _ => true) true Try.f3.params.toList args.toList ds p := hA0
  rw [Try.params3] at hA hval hsz
  obtain ⟨v0, vs0, d0, ds0, p0, q0, hargs, rfl, rfl, h0, r0⟩ := trodAll_cons hA
  obtain ⟨v1, vs1, d1, ds1, p1, q1, rfl, rfl, rfl, h1, r1⟩ := trodAll_cons r0
  obtain ⟨rfl, rfl, rfl⟩ := trodAll_nil r1
  obtain rfl : args = #[v0, v1] := by cases args; simp_all
  obtain ⟨rfl, rfl⟩ := trodVars_none hV
  clear r0 r1
  have k0 := h0
  have lt0 : ∀ x ∈ p0, x.block < W.heap.size := by obtain ⟨m, hm⟩ := k0; exact DataW.trod_lt m _ _ _ hm
  have z0 : ∀ n ∈ d0.weights Try.prog 28, n ≤ reachBytes := fun n hn => by simpa using List.all_eq_true.1 hsz _ (DataW.weights_mem_each (j := 0) rfl rfl n hn)
  have f0 : W.noneFrozen p0 := fun b off hm => hfz b off (by simp [hm])
  have k1 := h1
  have lt1 : ∀ x ∈ p1, x.block < W.heap.size := by obtain ⟨m, hm⟩ := k1; exact DataW.trod_lt m _ _ _ hm
  have z1 : ∀ n ∈ d1.weights Try.prog 9, n ≤ reachBytes := fun n hn => by simpa using List.all_eq_true.1 hsz _ (DataW.weights_mem_each (j := 1) rfl rfl n hn)
  have f1 : W.noneFrozen p1 := fun b off hm => hfz b off (by simp [hm])
  have hbk := of_decide_eq_true hk0
  simp only [List.cons_append, List.nil_append, Rows.uptoBulkAll] at hbk
  have u1 : Rows.uptoBulk d1 ≤ 1048576 := by omega
  obtain ⟨x0, r0, h0, s0⟩ := open_msg (hval 0 28 v0 rfl rfl) h0 f0 z0
  obtain ⟨x1, r1, b1, s1⟩ := open_strU (hval 1 9 v1 rfl rfl) h1 f1 z1 u1
  clear hA0 hval0
  refine (walk v0 x0 v1 x1 W r0 h0 s0 r1 b1 s1).mono fun e W' ⟨he, bel⟩ => ?_
  subst he
  exact ⟨_, rfl, _, _, _, [], _, [], hW', trodAll_mk1 (shut_bool Try.underlying4 _), (trodAll_cons_mk (Below.trod laidOut (by kernel_rfl) (of_decide_eq_true (by kernel_rfl)) k0 bel lt0) (trodAll_cons_mk (Below.trod laidOut (by kernel_rfl) (of_decide_eq_true (by kernel_rfl)) k1 bel lt1) trodAll_mk0)), rfl, bel.frame _, fun h => by cases h⟩

theorem over : Rows.wiresUptoRow.holds Try.pinned (Rows.OpenSpec.upto Rows.wiresSpec) :=
  OpenClaim.holds_of_cond 3 Try.f3 rfl rfl rfl rfl rfl rfl rfl ⟨rfl, rfl, rfl, rfl, rfl⟩ rfl rfl rfl rfl rfl (by kernel_rfl) Try.func3 (by kernel_rfl)
    (of_decide_eq_true (by kernel_rfl)) (by unfold Func.isWrapper; first | (rw [if_pos (by decide +kernel)]; kernel_rfl) | (rw [if_neg (by decide +kernel)]; exact ⟨rfl, rfl⟩))
    (fun os started H enc _ FF => lifted os started H enc FF)

end Go.Proofs.Ytkalamplagopnaa.wires

namespace Go.Proofs.Ytkalamplagopnaa
/-- The statement, by its short name. -/
theorem wires_holds : Rows.WiresUptoSaid := wires.over
#print axioms wires_holds
end Go.Proofs.Ytkalamplagopnaa
