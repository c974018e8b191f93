
/-
  The statement WireUnlike: two messages that may be have the same bytes just if they are the same; one that may not be has none.
-/
import Derived.Test.YtkalamplagopnaaRows
import Derived.Test.YtkalamplagopnaaOpen
import Derived.Test.YtkalamplagopnaaWireLaw
import Derived.Test.YtkalamplagopnaaSameM
import Derived.Test.YtkalamplagopnaaOpenM
namespace Go.Proofs.Ytkalamplagopnaa.wireUnlike
open Go.ChangeShapes Go.WideShapes Go.ChangeAt Go.RowKit
set_option linter.unusedVariables false

/-! ### The walk -/
set_option maxHeartbeats 4000000 in
theorem walk (v0 : Value) (x0 : MgO) (v1 : Value) (x1 : MgO) (w : World) (r0 : v0 = .agg #[.int .i64 x0.n, .int .i64 x0.a, .int .i64 x0.b, x0.v, .int .i64 x0.k, .int .i64 x0.t.k, .int .i64 x0.t.c, .int .i64 x0.t.u, .int .i64 x0.t.x, .bool x0.t.g, .bool x0.h]) (h0 : RowI 0 w.heap.size w x0.v x0.is) (s0 : x0.is.length * 8 ≤ 140737488351232) (r1 : v1 = .agg #[.int .i64 x1.n, .int .i64 x1.a, .int .i64 x1.b, x1.v, .int .i64 x1.k, .int .i64 x1.t.k, .int .i64 x1.t.c, .int .i64 x1.t.u, .int .i64 x1.t.x, .bool x1.t.g, .bool x1.h]) (h1 : RowI 0 w.heap.size w x1.v x1.is) (s1 : x1.is.length * 8 ≤ 140737488351232) :
    Calls Try.prog 5 #[v0, v1] w fun e w' => e = .returned (.bool true) ∧ Below w.heap.size w w' := by
  obtain ⟨n, a, b, is, k, ⟨tk, tc, tu, tx, tg⟩, h, v⟩ := x0
  obtain ⟨n', a', b', is', k', ⟨tk', tc', tu', tx', tg'⟩, h', v'⟩ := x1
  dsimp only at r0 h0 s0 r1 h1 s1
  subst r0 r1
  have RA := toHid (fun o o2 : Obj => (h0.alloc o).alloc o2)
  have RB := toHid (fun o o2 : Obj => (h1.alloc o).alloc o2)
  have HA := fun (W : World) (v : Value) (lo hi : Nat) (R : RowI lo hi W v is) (hh : hi ≤ W.heap.size) => wPut_any R hh n a b k tk tc tu tx tg h
  have HB := fun (W : World) (v : Value) (lo hi : Nat) (R : RowI lo hi W v is') (hh : hi ≤ W.heap.size) => wPut_any R hh n' a' b' k' tk' tc' tu' tx' tg' h'
  have HS := fun (W : World) (v u : Value) (lo hi lo' hi' : Nat) (R : RowI lo hi W v is) (R' : RowI lo' hi' W u is') => sameMsg_any R R' n a b k tk tc tu tx tg h n' a' b' k' tk' tc' tu' tx' tg' h'
  obtain ⟨p, c, rfl, -⟩ := h0
  obtain ⟨p', c', rfl, -⟩ := h1
  have BA := toHid ((Box.new w #[.int .i64 n, .int .i64 a, .int .i64 b, .slice p is.length c, .int .i64 k, .int .i64 tk, .int .i64 tc, .int .i64 tu, .int .i64 tx, .bool tg, .bool h] 28).alloc (.cells #[.int .i64 n', .int .i64 a', .int .i64 b', .slice p' is'.length c', .int .i64 k', .int .i64 tk', .int .i64 tc', .int .i64 tu', .int .i64 tx', .bool tg', .bool h'] 28))
  have BB := toHid (Box.new1 w (.cells #[.int .i64 n, .int .i64 a, .int .i64 b, .slice p is.length c, .int .i64 k, .int .i64 tk, .int .i64 tc, .int .i64 tu, .int .i64 tx, .bool tg, .bool h] 28) #[.int .i64 n', .int .i64 a', .int .i64 b', .slice p' is'.length c', .int .i64 k', .int .i64 tk', .int .i64 tc', .int .i64 tu', .int .i64 tx', .bool tg', .bool h'] 28)
  have hB := toHid (((Below.refl _ w).onA (.cells #[.int .i64 n, .int .i64 a, .int .i64 b, .slice p is.length c, .int .i64 k, .int .i64 tk, .int .i64 tc, .int .i64 tu, .int .i64 tx, .bool tg, .bool h] 28)).onA (.cells #[.int .i64 n', .int .i64 a', .int .i64 b', .slice p' is'.length c', .int .i64 k', .int .i64 tk', .int .i64 tc', .int .i64 tu', .int .i64 tx', .bool tg', .bool h'] 28))
  replace RA := toHid (RA.out (.cells #[.int .i64 n, .int .i64 a, .int .i64 b, .slice p is.length c, .int .i64 k, .int .i64 tk, .int .i64 tc, .int .i64 tu, .int .i64 tx, .bool tg, .bool h] 28) (.cells #[.int .i64 n', .int .i64 a', .int .i64 b', .slice p' is'.length c', .int .i64 k', .int .i64 tk', .int .i64 tc', .int .i64 tu', .int .i64 tx', .bool tg', .bool h'] 28))
  replace RB := toHid (RB.out (.cells #[.int .i64 n, .int .i64 a, .int .i64 b, .slice p is.length c, .int .i64 k, .int .i64 tk, .int .i64 tc, .int .i64 tu, .int .i64 tx, .bool tg, .bool h] 28) (.cells #[.int .i64 n', .int .i64 a', .int .i64 b', .slice p' is'.length c', .int .i64 k', .int .i64 tk', .int .i64 tc', .int .i64 tu', .int .i64 tx', .bool tg', .bool h'] 28))
  have t1 := trivial
  cases qa : mayB ⟨n, a, b, is, k, ⟨tk, tc, tu, tx, tg⟩, h⟩ with
  | false =>
    have qa1 : putL ⟨n, a, b, is, k, ⟨tk, tc, tu, tx, tg⟩, h⟩ = [] := by simp [putL, qa]
    have qa2 : putE ⟨n, a, b, is, k, ⟨tk, tc, tu, tx, tg⟩, h⟩ = 1300 := by simp [putE, qa]
    rw [qa1, qa2, show sb [] = ⟨#[]⟩ from rfl] at HA
    clear qa1 qa2
    replace HA := toHid HA
    replace HS := toHid HS
    cases qb : mayB ⟨n', a', b', is', k', ⟨tk', tc', tu', tx', tg'⟩, h'⟩ with
    | false =>
      have qb1 : putL ⟨n', a', b', is', k', ⟨tk', tc', tu', tx', tg'⟩, h'⟩ = [] := by simp [putL, qb]
      have qb2 : putE ⟨n', a', b', is', k', ⟨tk', tc', tu', tx', tg'⟩, h'⟩ = 1300 := by simp [putE, qb]
      rw [qb1, qb2, show sb [] = ⟨#[]⟩ from rfl] at HB
      clear qb1 qb2
      replace HB := toHid HB
      clear qa qb
      go_enter Try.func5, Try.ntmps5
      go_wp2_with (first
        | (go_at_call 16; refine (awake13_any _).mono ?_; rintro e w1 ⟨rfl, h1⟩
           replace BA := toHid (BA.out.below h1)
           replace BB := toHid (BB.out.below h1)
           replace hB := toHid (hB.out.on h1)
           replace RA := toHid (RA.out.below h1 (by simp; omega))
           replace RB := toHid (RB.out.below h1 (by simp; omega))
           have z1 : w.heap.size ≤ w1.heap.size := Nat.le_trans (by simp; omega) h1.size
           obtain ⟨b1, b2, b3⟩ := BA.out
           obtain ⟨d1, d2, d3⟩ := BB.out
           clear h1)
        | (go_at_call 9; clear t1; refine (HA.out _ _ _ _ RA.out z1).mono ?_; rintro e w2 ⟨rfl, h2⟩
           clear b1 b2 b3 d1 d2 d3
           replace BA := toHid (BA.out.below h2)
           replace BB := toHid (BB.out.below h2)
           replace hB := toHid (hB.out.on h2)
           replace RA := toHid (RA.out.below h2 z1)
           replace RB := toHid (RB.out.below h2 z1)
           have z2 : w.heap.size ≤ w2.heap.size := Nat.le_trans z1 h2.size
           obtain ⟨b1, b2, b3⟩ := BA.out
           obtain ⟨d1, d2, d3⟩ := BB.out
           clear h2)
        | (go_at_call 9; refine (HB.out _ _ _ _ RB.out z2).mono ?_; rintro e w3 ⟨rfl, h3⟩
           clear b1 b2 b3 d1 d2 d3
           replace BA := toHid (BA.out.below h3)
           replace BB := toHid (BB.out.below h3)
           replace hB := toHid (hB.out.on h3)
           replace RA := toHid (RA.out.below h3 z2)
           replace RB := toHid (RB.out.below h3 z2)
           obtain ⟨b1, b2, b3⟩ := BA.out
           obtain ⟨d1, d2, d3⟩ := BB.out
           clear h3)
        | (go_at_call 14; refine (HS.out _ _ _ _ _ _ _ RA.out RB.out).mono ?_; rintro e w4 ⟨rfl, h4⟩
           replace hB := toHid (hB.out.on h4)
           clear b1 b2 b3 d1 d2 d3 h4)
        | (go_at_call 13; refine (num_any _ _).mono ?_; rintro e w9 ⟨rfl, hw9⟩; subst w9))
      go_ret
      exact ⟨rfl, hB.out⟩
    | true =>
      have qb1 : putL ⟨n', a', b', is', k', ⟨tk', tc', tu', tx', tg'⟩, h'⟩ = encM ⟨n', a', b', is', k', ⟨tk', tc', tu', tx', tg'⟩, h'⟩ := by simp [putL, qb]
      have qb2 : putE ⟨n', a', b', is', k', ⟨tk', tc', tu', tx', tg'⟩, h'⟩ = 0 := by simp [putE, qb]
      rw [qb1, qb2] at HB
      clear qb1 qb2
      obtain ⟨Y, hY⟩ : ∃ Y, sb (encM ⟨n', a', b', is', k', ⟨tk', tc', tu', tx', tg'⟩, h'⟩) = Y := ⟨_, rfl⟩
      rw [hY] at HB
      replace HB := toHid HB
      clear qa qb hY
      go_enter Try.func5, Try.ntmps5
      go_wp2_with (first
        | (go_at_call 16; refine (awake13_any _).mono ?_; rintro e w1 ⟨rfl, h1⟩
           replace BA := toHid (BA.out.below h1)
           replace BB := toHid (BB.out.below h1)
           replace hB := toHid (hB.out.on h1)
           replace RA := toHid (RA.out.below h1 (by simp; omega))
           replace RB := toHid (RB.out.below h1 (by simp; omega))
           have z1 : w.heap.size ≤ w1.heap.size := Nat.le_trans (by simp; omega) h1.size
           obtain ⟨b1, b2, b3⟩ := BA.out
           obtain ⟨d1, d2, d3⟩ := BB.out
           clear h1)
        | (go_at_call 9; clear t1; refine (HA.out _ _ _ _ RA.out z1).mono ?_; rintro e w2 ⟨rfl, h2⟩
           clear b1 b2 b3 d1 d2 d3
           replace BA := toHid (BA.out.below h2)
           replace BB := toHid (BB.out.below h2)
           replace hB := toHid (hB.out.on h2)
           replace RA := toHid (RA.out.below h2 z1)
           replace RB := toHid (RB.out.below h2 z1)
           have z2 : w.heap.size ≤ w2.heap.size := Nat.le_trans z1 h2.size
           obtain ⟨b1, b2, b3⟩ := BA.out
           obtain ⟨d1, d2, d3⟩ := BB.out
           clear h2)
        | (go_at_call 9; refine (HB.out _ _ _ _ RB.out z2).mono ?_; rintro e w3 ⟨rfl, h3⟩
           clear b1 b2 b3 d1 d2 d3
           replace BA := toHid (BA.out.below h3)
           replace BB := toHid (BB.out.below h3)
           replace hB := toHid (hB.out.on h3)
           replace RA := toHid (RA.out.below h3 z2)
           replace RB := toHid (RB.out.below h3 z2)
           obtain ⟨b1, b2, b3⟩ := BA.out
           obtain ⟨d1, d2, d3⟩ := BB.out
           clear h3)
        | (go_at_call 14; refine (HS.out _ _ _ _ _ _ _ RA.out RB.out).mono ?_; rintro e w4 ⟨rfl, h4⟩
           replace hB := toHid (hB.out.on h4)
           clear b1 b2 b3 d1 d2 d3 h4)
        | (go_at_call 13; refine (num_any _ _).mono ?_; rintro e w9 ⟨rfl, hw9⟩; subst w9))
      go_ret
      exact ⟨rfl, hB.out⟩
  | true =>
    have qa1 : putL ⟨n, a, b, is, k, ⟨tk, tc, tu, tx, tg⟩, h⟩ = encM ⟨n, a, b, is, k, ⟨tk, tc, tu, tx, tg⟩, h⟩ := by simp [putL, qa]
    have qa2 : putE ⟨n, a, b, is, k, ⟨tk, tc, tu, tx, tg⟩, h⟩ = 0 := by simp [putE, qa]
    rw [qa1, qa2] at HA
    clear qa1 qa2
    cases qb : mayB ⟨n', a', b', is', k', ⟨tk', tc', tu', tx', tg'⟩, h'⟩ with
    | false =>
      obtain ⟨X, hX⟩ : ∃ X, sb (encM ⟨n, a, b, is, k, ⟨tk, tc, tu, tx, tg⟩, h⟩) = X := ⟨_, rfl⟩
      rw [hX] at HA
      replace HA := toHid HA
      replace HS := toHid HS
      have qb1 : putL ⟨n', a', b', is', k', ⟨tk', tc', tu', tx', tg'⟩, h'⟩ = [] := by simp [putL, qb]
      have qb2 : putE ⟨n', a', b', is', k', ⟨tk', tc', tu', tx', tg'⟩, h'⟩ = 1300 := by simp [putE, qb]
      rw [qb1, qb2, show sb [] = ⟨#[]⟩ from rfl] at HB
      clear qb1 qb2
      replace HB := toHid HB
      clear qa qb hX
      go_enter Try.func5, Try.ntmps5
      go_wp2_with (first
        | (go_at_call 16; refine (awake13_any _).mono ?_; rintro e w1 ⟨rfl, h1⟩
           replace BA := toHid (BA.out.below h1)
           replace BB := toHid (BB.out.below h1)
           replace hB := toHid (hB.out.on h1)
           replace RA := toHid (RA.out.below h1 (by simp; omega))
           replace RB := toHid (RB.out.below h1 (by simp; omega))
           have z1 : w.heap.size ≤ w1.heap.size := Nat.le_trans (by simp; omega) h1.size
           obtain ⟨b1, b2, b3⟩ := BA.out
           obtain ⟨d1, d2, d3⟩ := BB.out
           clear h1)
        | (go_at_call 9; clear t1; refine (HA.out _ _ _ _ RA.out z1).mono ?_; rintro e w2 ⟨rfl, h2⟩
           clear b1 b2 b3 d1 d2 d3
           replace BA := toHid (BA.out.below h2)
           replace BB := toHid (BB.out.below h2)
           replace hB := toHid (hB.out.on h2)
           replace RA := toHid (RA.out.below h2 z1)
           replace RB := toHid (RB.out.below h2 z1)
           have z2 : w.heap.size ≤ w2.heap.size := Nat.le_trans z1 h2.size
           obtain ⟨b1, b2, b3⟩ := BA.out
           obtain ⟨d1, d2, d3⟩ := BB.out
           clear h2)
        | (go_at_call 9; refine (HB.out _ _ _ _ RB.out z2).mono ?_; rintro e w3 ⟨rfl, h3⟩
           clear b1 b2 b3 d1 d2 d3
           replace BA := toHid (BA.out.below h3)
           replace BB := toHid (BB.out.below h3)
           replace hB := toHid (hB.out.on h3)
           replace RA := toHid (RA.out.below h3 z2)
           replace RB := toHid (RB.out.below h3 z2)
           obtain ⟨b1, b2, b3⟩ := BA.out
           obtain ⟨d1, d2, d3⟩ := BB.out
           clear h3)
        | (go_at_call 14; refine (HS.out _ _ _ _ _ _ _ RA.out RB.out).mono ?_; rintro e w4 ⟨rfl, h4⟩
           replace hB := toHid (hB.out.on h4)
           clear b1 b2 b3 d1 d2 d3 h4)
        | (go_at_call 13; refine (num_any _ _).mono ?_; rintro e w9 ⟨rfl, hw9⟩; subst w9))
      go_ret
      exact ⟨rfl, hB.out⟩
    | true =>
      have qb1 : putL ⟨n', a', b', is', k', ⟨tk', tc', tu', tx', tg'⟩, h'⟩ = encM ⟨n', a', b', is', k', ⟨tk', tc', tu', tx', tg'⟩, h'⟩ := by simp [putL, qb]
      have qb2 : putE ⟨n', a', b', is', k', ⟨tk', tc', tu', tx', tg'⟩, h'⟩ = 0 := by simp [putE, qb]
      rw [qb1, qb2] at HB
      clear qb1 qb2
      by_cases hAB : (⟨n, a, b, is, k, ⟨tk, tc, tu, tx, tg⟩, h⟩ : Mg) = ⟨n', a', b', is', k', ⟨tk', tc', tu', tx', tg'⟩, h'⟩
      · rw [show decide ((⟨n, a, b, is, k, ⟨tk, tc, tu, tx, tg⟩, h⟩ : Mg) = ⟨n', a', b', is', k', ⟨tk', tc', tu', tx', tg'⟩, h'⟩) = true from decide_eq_true hAB] at HS
        rw [← hAB] at HB
        obtain ⟨X, hX⟩ : ∃ X, sb (encM ⟨n, a, b, is, k, ⟨tk, tc, tu, tx, tg⟩, h⟩) = X := ⟨_, rfl⟩
        rw [hX] at HA HB
        replace HA := toHid HA
        replace HB := toHid HB
        replace HS := toHid HS
        clear qa qb hX hAB
        go_enter Try.func5, Try.ntmps5
        go_wp2_with (first
          | (go_at_call 16; refine (awake13_any _).mono ?_; rintro e w1 ⟨rfl, h1⟩
             replace BA := toHid (BA.out.below h1)
             replace BB := toHid (BB.out.below h1)
             replace hB := toHid (hB.out.on h1)
             replace RA := toHid (RA.out.below h1 (by simp; omega))
             replace RB := toHid (RB.out.below h1 (by simp; omega))
             have z1 : w.heap.size ≤ w1.heap.size := Nat.le_trans (by simp; omega) h1.size
             obtain ⟨b1, b2, b3⟩ := BA.out
             obtain ⟨d1, d2, d3⟩ := BB.out
             clear h1)
          | (go_at_call 9; clear t1; refine (HA.out _ _ _ _ RA.out z1).mono ?_; rintro e w2 ⟨rfl, h2⟩
             clear b1 b2 b3 d1 d2 d3
             replace BA := toHid (BA.out.below h2)
             replace BB := toHid (BB.out.below h2)
             replace hB := toHid (hB.out.on h2)
             replace RA := toHid (RA.out.below h2 z1)
             replace RB := toHid (RB.out.below h2 z1)
             have z2 : w.heap.size ≤ w2.heap.size := Nat.le_trans z1 h2.size
             obtain ⟨b1, b2, b3⟩ := BA.out
             obtain ⟨d1, d2, d3⟩ := BB.out
             clear h2)
          | (go_at_call 9; refine (HB.out _ _ _ _ RB.out z2).mono ?_; rintro e w3 ⟨rfl, h3⟩
             clear b1 b2 b3 d1 d2 d3
             replace BA := toHid (BA.out.below h3)
             replace BB := toHid (BB.out.below h3)
             replace hB := toHid (hB.out.on h3)
             replace RA := toHid (RA.out.below h3 z2)
             replace RB := toHid (RB.out.below h3 z2)
             obtain ⟨b1, b2, b3⟩ := BA.out
             obtain ⟨d1, d2, d3⟩ := BB.out
             clear h3)
          | (go_at_call 14; refine (HS.out _ _ _ _ _ _ _ RA.out RB.out).mono ?_; rintro e w4 ⟨rfl, h4⟩
             replace hB := toHid (hB.out.on h4)
             clear b1 b2 b3 d1 d2 d3 h4)
          | (go_at_call 13; refine (num_any _ _).mono ?_; rintro e w9 ⟨rfl, hw9⟩; subst w9))
        go_ret
        exact ⟨rfl, hB.out⟩
      · rw [show decide ((⟨n, a, b, is, k, ⟨tk, tc, tu, tx, tg⟩, h⟩ : Mg) = ⟨n', a', b', is', k', ⟨tk', tc', tu', tx', tg'⟩, h'⟩) = false from decide_eq_false hAB] at HS
        have hXY : ¬ sb (encM ⟨n, a, b, is, k, ⟨tk, tc, tu, tx, tg⟩, h⟩) = sb (encM ⟨n', a', b', is', k', ⟨tk', tc', tu', tx', tg'⟩, h'⟩) := fun e => hAB (enc_inj qa qb (by rw [← bl_sb (encM_byts ⟨n, a, b, is, k, ⟨tk, tc, tu, tx, tg⟩, h⟩), e, bl_sb (encM_byts ⟨n', a', b', is', k', ⟨tk', tc', tu', tx', tg'⟩, h'⟩)]))
        obtain ⟨X, hX⟩ : ∃ X, sb (encM ⟨n, a, b, is, k, ⟨tk, tc, tu, tx, tg⟩, h⟩) = X := ⟨_, rfl⟩
        obtain ⟨Y, hY⟩ : ∃ Y, sb (encM ⟨n', a', b', is', k', ⟨tk', tc', tu', tx', tg'⟩, h'⟩) = Y := ⟨_, rfl⟩
        rw [hX] at HA hXY
        rw [hY] at HB hXY
        have hq := str_un hXY
        replace HA := toHid HA
        replace HB := toHid HB
        replace HS := toHid HS
        clear qa qb hX hY hAB
        go_enter Try.func5, Try.ntmps5
        go_wp2_with (first
          | (go_at_call 16; refine (awake13_any _).mono ?_; rintro e w1 ⟨rfl, h1⟩
             replace BA := toHid (BA.out.below h1)
             replace BB := toHid (BB.out.below h1)
             replace hB := toHid (hB.out.on h1)
             replace RA := toHid (RA.out.below h1 (by simp; omega))
             replace RB := toHid (RB.out.below h1 (by simp; omega))
             have z1 : w.heap.size ≤ w1.heap.size := Nat.le_trans (by simp; omega) h1.size
             obtain ⟨b1, b2, b3⟩ := BA.out
             obtain ⟨d1, d2, d3⟩ := BB.out
             clear h1)
          | (go_at_call 9; clear t1; refine (HA.out _ _ _ _ RA.out z1).mono ?_; rintro e w2 ⟨rfl, h2⟩
             clear b1 b2 b3 d1 d2 d3
             replace BA := toHid (BA.out.below h2)
             replace BB := toHid (BB.out.below h2)
             replace hB := toHid (hB.out.on h2)
             replace RA := toHid (RA.out.below h2 z1)
             replace RB := toHid (RB.out.below h2 z1)
             have z2 : w.heap.size ≤ w2.heap.size := Nat.le_trans z1 h2.size
             obtain ⟨b1, b2, b3⟩ := BA.out
             obtain ⟨d1, d2, d3⟩ := BB.out
             clear h2)
          | (go_at_call 9; refine (HB.out _ _ _ _ RB.out z2).mono ?_; rintro e w3 ⟨rfl, h3⟩
             clear b1 b2 b3 d1 d2 d3
             replace BA := toHid (BA.out.below h3)
             replace BB := toHid (BB.out.below h3)
             replace hB := toHid (hB.out.on h3)
             replace RA := toHid (RA.out.below h3 z2)
             replace RB := toHid (RB.out.below h3 z2)
             obtain ⟨b1, b2, b3⟩ := BA.out
             obtain ⟨d1, d2, d3⟩ := BB.out
             clear h3)
          | (go_at_call 14; refine (HS.out _ _ _ _ _ _ _ RA.out RB.out).mono ?_; rintro e w4 ⟨rfl, h4⟩
             replace hB := toHid (hB.out.on h4)
             clear b1 b2 b3 d1 d2 d3 h4)
          | (go_at_call 13; refine (num_any _ _).mono ?_; rintro e w9 ⟨rfl, hw9⟩; subst w9))
        go_ret
        exact ⟨rfl, hB.out⟩

/-! ### The row's step -/
set_option maxRecDepth 100000 in
theorem lifted (os : Os) (started : os.Started) (H : Type) (enc : TypeId × Value → H) :
    ReturnsInHanded {} Try.checked os 5 .any (Rows.wireUnlikeSpec.pre6 enc Try.prog Try.f5 Rows.wireUnlikeRow.domain false) (Rows.wireUnlikeSpec.post enc Try.prog Try.f5 false true false false) := by
  refine returnsInHanded_of_change_sized (C := Try.checked) ownK started (by kernel_rfl) Try.func5
    (ChangeSpec.witness6 (enc := enc) (C := Try.checked) false ⟨#[], #[.agg #[.int .i64 0, .int .i64 0, .int .i64 0, .slice none 0 0, .int .i64 0, .int .i64 0, .int .i64 0, .int .i64 0, .int .i64 0, .bool false, .bool false], .agg #[.int .i64 0, .int .i64 0, .int .i64 0, .slice none 0 0, .int .i64 0, .int .i64 0, .int .i64 0, .int .i64 0, .int .i64 0, .bool false, .bool false]], []⟩ 8 (by kernel_rfl) (by kernel_rfl) (by kernel_rfl) (by kernel_rfl)) ?_
  intro W base args ds gs before hval0 hW hcnd hsz0 _
  have hsz : (DataW.weightsEach Try.prog (Try.f5.params.toList ++ Rows.wireUnlikeSpec.plain.varTypes Try.prog) (ds ++ gs)).all (· ≤ reachBytes) = true := hsz0
  have hval : ∀ (j : Nat) t v, Try.f5.params[j]? = some t → args[j]? = some v → Value.okWide Try.prog W .any base t v := hval0
  have hW' := hW
  obtain ⟨p, q, hA0, hV, rfl, hfz, hnd⟩ := hW
  have hA : DataW.TrodAll enc Try.prog W 0 (fun _ => true) true Try.f5.params.toList args.toList ds p := hA0
  rw [Try.params5] at hA hval hsz
  obtain ⟨v0, vs0, d0, ds0, p0, q0, hargs, rfl, rfl, h0, r0⟩ := trodAll_cons hA
  obtain ⟨v1, vs1, d1, ds1, p1, q1, rfl, rfl, rfl, h1, r1⟩ := trodAll_cons r0
  obtain ⟨rfl, rfl, rfl⟩ := trodAll_nil r1
  obtain rfl : args = #[v0, v1] := by cases args; simp_all
  obtain ⟨rfl, rfl⟩ := trodVars_none hV
  clear r0 r1
  have k0 := h0
  have lt0 : ∀ x ∈ p0, x.block < W.heap.size := by obtain ⟨m, hm⟩ := k0; exact DataW.trod_lt m _ _ _ hm
  have z0 : ∀ n ∈ d0.weights Try.prog 28, n ≤ reachBytes := fun n hn => by simpa using List.all_eq_true.1 hsz _ (DataW.weights_mem_each (j := 0) rfl rfl n hn)
  have f0 : W.noneFrozen p0 := fun b off hm => hfz b off (by simp [hm])
  have k1 := h1
  have lt1 : ∀ x ∈ p1, x.block < W.heap.size := by obtain ⟨m, hm⟩ := k1; exact DataW.trod_lt m _ _ _ hm
  have z1 : ∀ n ∈ d1.weights Try.prog 28, n ≤ reachBytes := fun n hn => by simpa using List.all_eq_true.1 hsz _ (DataW.weights_mem_each (j := 1) rfl rfl n hn)
  have f1 : W.noneFrozen p1 := fun b off hm => hfz b off (by simp [hm])
  obtain ⟨x0, r0, h0, s0⟩ := open_msg (hval 0 28 v0 rfl rfl) h0 f0 z0
  obtain ⟨x1, r1, h1, s1⟩ := open_msg (hval 1 28 v1 rfl rfl) h1 f1 z1
  clear hA0 hval0
  refine (walk v0 x0 v1 x1 W r0 h0 s0 r1 h1 s1).mono fun e W' ⟨he, bel⟩ => ?_
  subst he
  exact ⟨_, rfl, _, _, _, [], _, [], hW', trodAll_mk1 (shut_bool Try.underlying4 _), (trodAll_cons_mk (Below.trod laidOut (by kernel_rfl) (of_decide_eq_true (by kernel_rfl)) k0 bel lt0) (trodAll_cons_mk (Below.trod laidOut (by kernel_rfl) (of_decide_eq_true (by kernel_rfl)) k1 bel lt1) trodAll_mk0)), rfl, bel.frame _, fun h => by cases h⟩

theorem over : Rows.wireUnlikeRow.holds Try.pinned (OpenSpec.ofChange Rows.wireUnlikeSpec) :=
  OpenClaim.holds_of_wide 5 Try.f5 rfl rfl rfl rfl rfl rfl rfl ⟨rfl, rfl, rfl, rfl, rfl⟩ rfl rfl rfl rfl rfl (by kernel_rfl) Try.func5 (by kernel_rfl)
    (of_decide_eq_true (by kernel_rfl)) (by unfold Func.isWrapper; first | (rw [if_pos (by decide +kernel)]; kernel_rfl) | (rw [if_neg (by decide +kernel)]; exact ⟨rfl, rfl⟩))
    (fun os started H enc _ => lifted os started H enc)

end Go.Proofs.Ytkalamplagopnaa.wireUnlike

namespace Go.Proofs.Ytkalamplagopnaa
/-- The statement, by its short name. -/
theorem wireUnlike_holds : Rows.WireUnlikeSaid := wireUnlike.over
#print axioms wireUnlike_holds
end Go.Proofs.Ytkalamplagopnaa
