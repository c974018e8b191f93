
/-
  The statement WireSizes: the bytes of a message have the length of its kind, and its Kind, From and To stand ahead; of a message that may not be there are none.
-/
import Derived.Test.YtkalamplagopnaaRows
import Derived.Test.YtkalamplagopnaaOpen
import Derived.Test.YtkalamplagopnaaWireLaw
import Derived.Test.YtkalamplagopnaaMsgRef
import Derived.Test.YtkalamplagopnaaCalm
import Derived.Test.YtkalamplagopnaaOld
import Derived.Test.YtkalamplagopnaaOpenM
import Derived.BigRegion
namespace Go.Proofs.Ytkalamplagopnaa.wireSizes
open Go.ChangeShapes Go.WideShapes Go.ChangeAt Go.RowKit
set_option linter.unusedVariables false

/-! ### The walk -/
set_option maxHeartbeats 4000000 in
theorem walk (v0 : Value) (x0 : MgO) (w : World) (r0 : v0 = .agg #[.int .i64 x0.n, .int .i64 x0.a, .int .i64 x0.b, x0.v, .int .i64 x0.k, .int .i64 x0.t.k, .int .i64 x0.t.c, .int .i64 x0.t.u, .int .i64 x0.t.x, .bool x0.t.g, .bool x0.h]) (h0 : RowI 0 w.heap.size w x0.v x0.is) (s0 : x0.is.length * 8 ≤ 140737488351232) :
    Calls Try.prog 6 #[v0] w fun e w' => e = .returned (.bool true) ∧ Below w.heap.size w w' := by
  obtain ⟨n, a, b, is, k, ⟨tk, tc, tu, tx, tg⟩, h, v⟩ := x0
  dsimp only at r0 h0 s0
  subst r0
  have RV := toHid (fun o : Obj => h0.alloc o)
  have HP := toHid (fun (W : World) (v : Value) (lo hi : Nat) (R : RowI lo hi W v is) (hh : hi ≤ W.heap.size) => wPut_any R hh n a b k tk tc tu tx tg h)
  obtain ⟨p, c, rfl, -⟩ := h0
  have BM := toHid (Box.new w #[.int .i64 n, .int .i64 a, .int .i64 b, .slice p is.length c, .int .i64 k, .int .i64 tk, .int .i64 tc, .int .i64 tu, .int .i64 tx, .bool tg, .bool h] 28)
  have hB := toHid ((Below.refl _ w).onA (.cells #[.int .i64 n, .int .i64 a, .int .i64 b, .slice p is.length c, .int .i64 k, .int .i64 tk, .int .i64 tc, .int .i64 tu, .int .i64 tx, .bool tg, .bool h] 28))
  replace RV := toHid (RV.out (.cells #[.int .i64 n, .int .i64 a, .int .i64 b, .slice p is.length c, .int .i64 k, .int .i64 tk, .int .i64 tc, .int .i64 tu, .int .i64 tx, .bool tg, .bool h] 28))
  cases hm : mayB ⟨n, a, b, is, k, ⟨tk, tc, tu, tx, tg⟩, h⟩ with
  | false =>
    have e1 : putL ⟨n, a, b, is, k, ⟨tk, tc, tu, tx, tg⟩, h⟩ = [] := by simp [putL, hm]
    have e2 : putE ⟨n, a, b, is, k, ⟨tk, tc, tu, tx, tg⟩, h⟩ = 1300 := by simp [putE, hm]
    have e3 : sb [] = ⟨#[]⟩ := rfl
    rw [e1, e2, e3] at HP
    have HM := fun (W : World) (v : Value) (lo hi : Nat) (R : RowI lo hi W v is) => rMsgMay_any R n a b k tk tc tu tx tg h
    have hm' : mgB n a b is k ⟨tk, tc, tu, tx, tg⟩ h = false := hm
    rw [hm'] at HM
    replace HM := toHid HM
    clear e1 e2 e3 hm hm'
    go_enter Try.func6, Try.ntmps6
    go_wp2_with (first
      | (go_at_call 16; refine (awake13_any _).mono ?_; rintro e w1 ⟨rfl, h1⟩
         replace BM := toHid (BM.out.below h1)
         replace hB := toHid (hB.out.on h1)
         replace RV := toHid (RV.out.below h1 (by simp))
         have z1 : w.heap.size ≤ w1.heap.size := Nat.le_trans (by simp) h1.size
         obtain ⟨b1, b2, b3⟩ := BM.out
         clear h1)
      | (go_at_call 9; refine (HP.out _ _ _ _ RV.out z1).mono ?_; rintro e w2 ⟨rfl, h2⟩
         clear b1 b2 b3
         replace BM := toHid (BM.out.below h2)
         replace hB := toHid (hB.out.on h2)
         replace RV := toHid (RV.out.below h2 z1)
         obtain ⟨b1, b2, b3⟩ := BM.out
         clear h2)
      | (go_at_call 17; refine (HM.out _ _ _ _ RV.out).mono ?_; rintro e w3 ⟨rfl, h3⟩
         replace hB := toHid (hB.out.on h3))
      | (go_at_call 13; refine (num_any _ _).mono ?_; rintro e w9 ⟨rfl, hw9⟩; subst w9))
    go_ret
    exact ⟨rfl, hB.out⟩
  | true =>
    have e1 : putL ⟨n, a, b, is, k, ⟨tk, tc, tu, tx, tg⟩, h⟩ = encM ⟨n, a, b, is, k, ⟨tk, tc, tu, tx, tg⟩, h⟩ := by simp [putL, hm]
    have e2 : putE ⟨n, a, b, is, k, ⟨tk, tc, tu, tx, tg⟩, h⟩ = 0 := by simp [putE, hm]
    rw [e1, e2] at HP
    have hn := may_kind hm
    dsimp only at hn
    clear e1 e2
    rcases hn with rfl | rfl | rfl | rfl
    · have h16 : is.length ≤ 16 := may_few hm rfl
      have i0 : (0 : Int) < 4 + (is.length : Int) := by omega
      have i1 : (1 : Int) < 4 + (is.length : Int) := by omega
      have i2 : (2 : Int) < 4 + (is.length : Int) := by omega
      have j0 : 0 < 4 + is.length := by omega
      have j1 : 1 < 4 + is.length := by omega
      have j2 : 2 < 4 + is.length := by omega
      have hlen : (encM ⟨0, a, b, is, k, ⟨tk, tc, tu, tx, tg⟩, h⟩).length = 4 + is.length := by simp [enc_len, rest_len]; omega
      have hbE := may_ends hm
      obtain ⟨z0, e0, -, -, g0⟩ := sb_at (encM_byts ⟨0, a, b, is, k, ⟨tk, tc, tu, tx, tg⟩, h⟩) (i := 0) (by omega)
      obtain ⟨z1, e1, -, -, g1⟩ := sb_at (encM_byts ⟨0, a, b, is, k, ⟨tk, tc, tu, tx, tg⟩, h⟩) (i := 1) (by omega)
      obtain ⟨z2, e2, -, -, g2⟩ := sb_at (encM_byts ⟨0, a, b, is, k, ⟨tk, tc, tu, tx, tg⟩, h⟩) (i := 2) (by omega)
      have q0 : z0 = 0 := by rw [← e0]; rfl
      have q1 : z1 = a := by rw [← e1]; exact by8_pl hbE.1
      have q2 : z2 = b := by rw [← e2]; exact by8_pl hbE.2.1
      rw [q0] at g0
      rw [q1] at g1
      rw [q2] at g2
      obtain ⟨X, hX⟩ : ∃ X, encM ⟨0, a, b, is, k, ⟨tk, tc, tu, tx, tg⟩, h⟩ = X := ⟨_, rfl⟩
      rw [hX] at g0 g1 g2 hlen HP
      have sX := sb_len X
      have yn : IntKind.i64.wrap 0 = 0 := by decide
      have ya : IntKind.i64.wrap a = a := by have := plB_yes hbE.1; rw [IntKind.wrap_i64]; dsimp only at this; omega
      have yb : IntKind.i64.wrap b = b := by have := plB_yes hbE.2.1; rw [IntKind.wrap_i64]; dsimp only at this; omega
      clear hX e0 e1 e2 q0 q1 q2 hbE hm
      go_enter Try.func6, Try.ntmps6
      go_upto_region 16 with (first
        | (go_at_call 16; refine (awake13_any _).mono ?_; rintro e w1 ⟨rfl, h1⟩
           replace BM := toHid (BM.out.below h1)
           replace hB := toHid (hB.out.on h1)
           replace RV := toHid (RV.out.below h1 (by simp))
           have z1 : w.heap.size ≤ w1.heap.size := Nat.le_trans (by simp) h1.size
           obtain ⟨b1, b2, b3⟩ := BM.out
           clear h1)
        | (go_at_call 9; refine (HP.out _ _ _ _ RV.out z1).mono ?_; rintro e w2 ⟨rfl, h2⟩
           clear b1 b2 b3
           replace BM := toHid (BM.out.below h2)
           replace hB := toHid (hB.out.on h2)
           obtain ⟨b1, b2, b3⟩ := BM.out
           clear h2)
        | (go_at_call 13; refine (num_any _ _).mono ?_; rintro e w9 ⟨rfl, hw9⟩; subst w9))
      refine wp_region_below (by kernel_rfl) (by kernel_rfl) ?_
      repeat (first
        | go_big_quiet_skip
        | (go_big_quiet_want; go_big_quiet_op; go_big_quiet_on)
        | (refine wpQuiet_step (fun K hK => ?_)
           go_simp
           first
             | (refine hK _ ?_; clear hK K)
             | (refine ⟨_, fun w' hw' => rfl, hK _ ?_⟩; clear hK K)
             | (apply Exists.intro
                refine ⟨fun w' hw' => ?_, hK _ ?_⟩
                · (obtain ⟨hc', hf'⟩ := bcell hw'
                   first
                     | (go_simp; rfl))
                clear hK K)))
      refine wpQuiet_nil ?_
      intro wc hc0
      go_wp2
      go_ret
      exact ⟨rfl, hB.out.on hc0⟩
    · skip
      have hlen : (encM ⟨1, a, b, is, k, ⟨tk, tc, tu, tx, tg⟩, h⟩).length = 10 := by simp [enc_len, rest_len]
      have hbE := may_ends hm
      obtain ⟨z0, e0, -, -, g0⟩ := sb_at (encM_byts ⟨1, a, b, is, k, ⟨tk, tc, tu, tx, tg⟩, h⟩) (i := 0) (by omega)
      obtain ⟨z1, e1, -, -, g1⟩ := sb_at (encM_byts ⟨1, a, b, is, k, ⟨tk, tc, tu, tx, tg⟩, h⟩) (i := 1) (by omega)
      obtain ⟨z2, e2, -, -, g2⟩ := sb_at (encM_byts ⟨1, a, b, is, k, ⟨tk, tc, tu, tx, tg⟩, h⟩) (i := 2) (by omega)
      have q0 : z0 = 1 := by rw [← e0]; rfl
      have q1 : z1 = a := by rw [← e1]; exact by8_pl hbE.1
      have q2 : z2 = b := by rw [← e2]; exact by8_pl hbE.2.1
      rw [q0] at g0
      rw [q1] at g1
      rw [q2] at g2
      obtain ⟨X, hX⟩ : ∃ X, encM ⟨1, a, b, is, k, ⟨tk, tc, tu, tx, tg⟩, h⟩ = X := ⟨_, rfl⟩
      rw [hX] at g0 g1 g2 hlen HP
      have sX := sb_len X
      have yn : IntKind.i64.wrap 1 = 1 := by decide
      have ya : IntKind.i64.wrap a = a := by have := plB_yes hbE.1; rw [IntKind.wrap_i64]; dsimp only at this; omega
      have yb : IntKind.i64.wrap b = b := by have := plB_yes hbE.2.1; rw [IntKind.wrap_i64]; dsimp only at this; omega
      clear hX e0 e1 e2 q0 q1 q2 hbE hm
      go_enter Try.func6, Try.ntmps6
      go_upto_region 16 with (first
        | (go_at_call 16; refine (awake13_any _).mono ?_; rintro e w1 ⟨rfl, h1⟩
           replace BM := toHid (BM.out.below h1)
           replace hB := toHid (hB.out.on h1)
           replace RV := toHid (RV.out.below h1 (by simp))
           have z1 : w.heap.size ≤ w1.heap.size := Nat.le_trans (by simp) h1.size
           obtain ⟨b1, b2, b3⟩ := BM.out
           clear h1)
        | (go_at_call 9; refine (HP.out _ _ _ _ RV.out z1).mono ?_; rintro e w2 ⟨rfl, h2⟩
           clear b1 b2 b3
           replace BM := toHid (BM.out.below h2)
           replace hB := toHid (hB.out.on h2)
           obtain ⟨b1, b2, b3⟩ := BM.out
           clear h2)
        | (go_at_call 13; refine (num_any _ _).mono ?_; rintro e w9 ⟨rfl, hw9⟩; subst w9))
      refine wp_region_below (by kernel_rfl) (by kernel_rfl) ?_
      repeat (first
        | go_big_quiet_skip
        | (go_big_quiet_want; go_big_quiet_op; go_big_quiet_on)
        | (refine wpQuiet_step (fun K hK => ?_)
           go_simp
           first
             | (refine hK _ ?_; clear hK K)
             | (refine ⟨_, fun w' hw' => rfl, hK _ ?_⟩; clear hK K)
             | (apply Exists.intro
                refine ⟨fun w' hw' => ?_, hK _ ?_⟩
                · (obtain ⟨hc', hf'⟩ := bcell hw'
                   first
                     | (go_simp; rfl))
                clear hK K)))
      refine wpQuiet_nil ?_
      intro wc hc0
      go_wp2
      go_ret
      exact ⟨rfl, hB.out.on hc0⟩
    · skip
      have hlen : (encM ⟨2, a, b, is, k, ⟨tk, tc, tu, tx, tg⟩, h⟩).length = 4 := by simp [enc_len, rest_len]
      have hbE := may_ends hm
      obtain ⟨z0, e0, -, -, g0⟩ := sb_at (encM_byts ⟨2, a, b, is, k, ⟨tk, tc, tu, tx, tg⟩, h⟩) (i := 0) (by omega)
      obtain ⟨z1, e1, -, -, g1⟩ := sb_at (encM_byts ⟨2, a, b, is, k, ⟨tk, tc, tu, tx, tg⟩, h⟩) (i := 1) (by omega)
      obtain ⟨z2, e2, -, -, g2⟩ := sb_at (encM_byts ⟨2, a, b, is, k, ⟨tk, tc, tu, tx, tg⟩, h⟩) (i := 2) (by omega)
      have q0 : z0 = 2 := by rw [← e0]; rfl
      have q1 : z1 = a := by rw [← e1]; exact by8_pl hbE.1
      have q2 : z2 = b := by rw [← e2]; exact by8_pl hbE.2.1
      rw [q0] at g0
      rw [q1] at g1
      rw [q2] at g2
      obtain ⟨X, hX⟩ : ∃ X, encM ⟨2, a, b, is, k, ⟨tk, tc, tu, tx, tg⟩, h⟩ = X := ⟨_, rfl⟩
      rw [hX] at g0 g1 g2 hlen HP
      have sX := sb_len X
      have yn : IntKind.i64.wrap 2 = 2 := by decide
      have ya : IntKind.i64.wrap a = a := by have := plB_yes hbE.1; rw [IntKind.wrap_i64]; dsimp only at this; omega
      have yb : IntKind.i64.wrap b = b := by have := plB_yes hbE.2.1; rw [IntKind.wrap_i64]; dsimp only at this; omega
      clear hX e0 e1 e2 q0 q1 q2 hbE hm
      go_enter Try.func6, Try.ntmps6
      go_upto_region 16 with (first
        | (go_at_call 16; refine (awake13_any _).mono ?_; rintro e w1 ⟨rfl, h1⟩
           replace BM := toHid (BM.out.below h1)
           replace hB := toHid (hB.out.on h1)
           replace RV := toHid (RV.out.below h1 (by simp))
           have z1 : w.heap.size ≤ w1.heap.size := Nat.le_trans (by simp) h1.size
           obtain ⟨b1, b2, b3⟩ := BM.out
           clear h1)
        | (go_at_call 9; refine (HP.out _ _ _ _ RV.out z1).mono ?_; rintro e w2 ⟨rfl, h2⟩
           clear b1 b2 b3
           replace BM := toHid (BM.out.below h2)
           replace hB := toHid (hB.out.on h2)
           obtain ⟨b1, b2, b3⟩ := BM.out
           clear h2)
        | (go_at_call 13; refine (num_any _ _).mono ?_; rintro e w9 ⟨rfl, hw9⟩; subst w9))
      refine wp_region_below (by kernel_rfl) (by kernel_rfl) ?_
      repeat (first
        | go_big_quiet_skip
        | (go_big_quiet_want; go_big_quiet_op; go_big_quiet_on)
        | (refine wpQuiet_step (fun K hK => ?_)
           go_simp
           first
             | (refine hK _ ?_; clear hK K)
             | (refine ⟨_, fun w' hw' => rfl, hK _ ?_⟩; clear hK K)
             | (apply Exists.intro
                refine ⟨fun w' hw' => ?_, hK _ ?_⟩
                · (obtain ⟨hc', hf'⟩ := bcell hw'
                   first
                     | (go_simp; rfl))
                clear hK K)))
      refine wpQuiet_nil ?_
      intro wc hc0
      go_wp2
      go_ret
      exact ⟨rfl, hB.out.on hc0⟩
    · cases h
      · skip
        have hlen : (encM ⟨3, a, b, is, k, ⟨tk, tc, tu, tx, tg⟩, false⟩).length = 5 := by simp [enc_len, rest_len]
        have hbE := may_ends hm
        obtain ⟨z0, e0, -, -, g0⟩ := sb_at (encM_byts ⟨3, a, b, is, k, ⟨tk, tc, tu, tx, tg⟩, false⟩) (i := 0) (by omega)
        obtain ⟨z1, e1, -, -, g1⟩ := sb_at (encM_byts ⟨3, a, b, is, k, ⟨tk, tc, tu, tx, tg⟩, false⟩) (i := 1) (by omega)
        obtain ⟨z2, e2, -, -, g2⟩ := sb_at (encM_byts ⟨3, a, b, is, k, ⟨tk, tc, tu, tx, tg⟩, false⟩) (i := 2) (by omega)
        have q0 : z0 = 3 := by rw [← e0]; rfl
        have q1 : z1 = a := by rw [← e1]; exact by8_pl hbE.1
        have q2 : z2 = b := by rw [← e2]; exact by8_pl hbE.2.1
        rw [q0] at g0
        rw [q1] at g1
        rw [q2] at g2
        obtain ⟨X, hX⟩ : ∃ X, encM ⟨3, a, b, is, k, ⟨tk, tc, tu, tx, tg⟩, false⟩ = X := ⟨_, rfl⟩
        rw [hX] at g0 g1 g2 hlen HP
        have sX := sb_len X
        have yn : IntKind.i64.wrap 3 = 3 := by decide
        have ya : IntKind.i64.wrap a = a := by have := plB_yes hbE.1; rw [IntKind.wrap_i64]; dsimp only at this; omega
        have yb : IntKind.i64.wrap b = b := by have := plB_yes hbE.2.1; rw [IntKind.wrap_i64]; dsimp only at this; omega
        clear hX e0 e1 e2 q0 q1 q2 hbE hm
        go_enter Try.func6, Try.ntmps6
        go_upto_region 16 with (first
          | (go_at_call 16; refine (awake13_any _).mono ?_; rintro e w1 ⟨rfl, h1⟩
             replace BM := toHid (BM.out.below h1)
             replace hB := toHid (hB.out.on h1)
             replace RV := toHid (RV.out.below h1 (by simp))
             have z1 : w.heap.size ≤ w1.heap.size := Nat.le_trans (by simp) h1.size
             obtain ⟨b1, b2, b3⟩ := BM.out
             clear h1)
          | (go_at_call 9; refine (HP.out _ _ _ _ RV.out z1).mono ?_; rintro e w2 ⟨rfl, h2⟩
             clear b1 b2 b3
             replace BM := toHid (BM.out.below h2)
             replace hB := toHid (hB.out.on h2)
             obtain ⟨b1, b2, b3⟩ := BM.out
             clear h2)
          | (go_at_call 13; refine (num_any _ _).mono ?_; rintro e w9 ⟨rfl, hw9⟩; subst w9))
        refine wp_region_below (by kernel_rfl) (by kernel_rfl) ?_
        repeat (first
          | go_big_quiet_skip
          | (go_big_quiet_want; go_big_quiet_op; go_big_quiet_on)
          | (refine wpQuiet_step (fun K hK => ?_)
             go_simp
             first
               | (refine hK _ ?_; clear hK K)
               | (refine ⟨_, fun w' hw' => rfl, hK _ ?_⟩; clear hK K)
               | (apply Exists.intro
                  refine ⟨fun w' hw' => ?_, hK _ ?_⟩
                  · (obtain ⟨hc', hf'⟩ := bcell hw'
                     first
                       | (go_simp; rfl))
                  clear hK K)))
        refine wpQuiet_nil ?_
        intro wc hc0
        go_wp2
        go_ret
        exact ⟨rfl, hB.out.on hc0⟩
      · skip
        have hlen : (encM ⟨3, a, b, is, k, ⟨tk, tc, tu, tx, tg⟩, true⟩).length = 12 := by simp [enc_len, rest_len]
        have hbE := may_ends hm
        obtain ⟨z0, e0, -, -, g0⟩ := sb_at (encM_byts ⟨3, a, b, is, k, ⟨tk, tc, tu, tx, tg⟩, true⟩) (i := 0) (by omega)
        obtain ⟨z1, e1, -, -, g1⟩ := sb_at (encM_byts ⟨3, a, b, is, k, ⟨tk, tc, tu, tx, tg⟩, true⟩) (i := 1) (by omega)
        obtain ⟨z2, e2, -, -, g2⟩ := sb_at (encM_byts ⟨3, a, b, is, k, ⟨tk, tc, tu, tx, tg⟩, true⟩) (i := 2) (by omega)
        have q0 : z0 = 3 := by rw [← e0]; rfl
        have q1 : z1 = a := by rw [← e1]; exact by8_pl hbE.1
        have q2 : z2 = b := by rw [← e2]; exact by8_pl hbE.2.1
        rw [q0] at g0
        rw [q1] at g1
        rw [q2] at g2
        obtain ⟨X, hX⟩ : ∃ X, encM ⟨3, a, b, is, k, ⟨tk, tc, tu, tx, tg⟩, true⟩ = X := ⟨_, rfl⟩
        rw [hX] at g0 g1 g2 hlen HP
        have sX := sb_len X
        have yn : IntKind.i64.wrap 3 = 3 := by decide
        have ya : IntKind.i64.wrap a = a := by have := plB_yes hbE.1; rw [IntKind.wrap_i64]; dsimp only at this; omega
        have yb : IntKind.i64.wrap b = b := by have := plB_yes hbE.2.1; rw [IntKind.wrap_i64]; dsimp only at this; omega
        clear hX e0 e1 e2 q0 q1 q2 hbE hm
        go_enter Try.func6, Try.ntmps6
        go_upto_region 16 with (first
          | (go_at_call 16; refine (awake13_any _).mono ?_; rintro e w1 ⟨rfl, h1⟩
             replace BM := toHid (BM.out.below h1)
             replace hB := toHid (hB.out.on h1)
             replace RV := toHid (RV.out.below h1 (by simp))
             have z1 : w.heap.size ≤ w1.heap.size := Nat.le_trans (by simp) h1.size
             obtain ⟨b1, b2, b3⟩ := BM.out
             clear h1)
          | (go_at_call 9; refine (HP.out _ _ _ _ RV.out z1).mono ?_; rintro e w2 ⟨rfl, h2⟩
             clear b1 b2 b3
             replace BM := toHid (BM.out.below h2)
             replace hB := toHid (hB.out.on h2)
             obtain ⟨b1, b2, b3⟩ := BM.out
             clear h2)
          | (go_at_call 13; refine (num_any _ _).mono ?_; rintro e w9 ⟨rfl, hw9⟩; subst w9))
        refine wp_region_below (by kernel_rfl) (by kernel_rfl) ?_
        repeat (first
          | go_big_quiet_skip
          | (go_big_quiet_want; go_big_quiet_op; go_big_quiet_on)
          | (refine wpQuiet_step (fun K hK => ?_)
             go_simp
             first
               | (refine hK _ ?_; clear hK K)
               | (refine ⟨_, fun w' hw' => rfl, hK _ ?_⟩; clear hK K)
               | (apply Exists.intro
                  refine ⟨fun w' hw' => ?_, hK _ ?_⟩
                  · (obtain ⟨hc', hf'⟩ := bcell hw'
                     first
                       | (go_simp; rfl))
                  clear hK K)))
        refine wpQuiet_nil ?_
        intro wc hc0
        go_wp2
        go_ret
        exact ⟨rfl, hB.out.on hc0⟩

/-! ### The row's step -/
set_option maxRecDepth 100000 in
theorem lifted (os : Os) (started : os.Started) (H : Type) (enc : TypeId × Value → H) :
    ReturnsInHanded {} Try.checked os 6 .any (Rows.wireSizesSpec.pre6 enc Try.prog Try.f6 Rows.wireSizesRow.domain false) (Rows.wireSizesSpec.post enc Try.prog Try.f6 false true false false) := by
  refine returnsInHanded_of_change_sized (C := Try.checked) ownK started (by kernel_rfl) Try.func6
    (ChangeSpec.witness6 (enc := enc) (C := Try.checked) false ⟨#[], #[.agg #[.int .i64 0, .int .i64 0, .int .i64 0, .slice none 0 0, .int .i64 0, .int .i64 0, .int .i64 0, .int .i64 0, .int .i64 0, .bool false, .bool false]], []⟩ 8 (by kernel_rfl) (by kernel_rfl) (by kernel_rfl) (by kernel_rfl)) ?_
  intro W base args ds gs before hval0 hW hcnd hsz0 _
  have hsz : (DataW.weightsEach Try.prog (Try.f6.params.toList ++ Rows.wireSizesSpec.plain.varTypes Try.prog) (ds ++ gs)).all (· ≤ reachBytes) = true := hsz0
  have hval : ∀ (j : Nat) t v, Try.f6.params[j]? = some t → args[j]? = some v → Value.okWide Try.prog W .any base t v := hval0
  have hW' := hW
  obtain ⟨p, q, hA0, hV, rfl, hfz, hnd⟩ := hW
  have hA : DataW.TrodAll enc Try.prog W 0 (fun _ => true) true Try.f6.params.toList args.toList ds p := hA0
  rw [Try.params6] at hA hval hsz
  obtain ⟨v0, vs0, d0, ds0, p0, q0, hargs, rfl, rfl, h0, r0⟩ := trodAll_cons hA
  obtain ⟨rfl, rfl, rfl⟩ := trodAll_nil r0
  obtain rfl : args = #[v0] := by cases args; simp_all
  obtain ⟨rfl, rfl⟩ := trodVars_none hV
  clear r0
  have k0 := h0
  have lt0 : ∀ x ∈ p0, x.block < W.heap.size := by obtain ⟨m, hm⟩ := k0; exact DataW.trod_lt m _ _ _ hm
  have z0 : ∀ n ∈ d0.weights Try.prog 28, n ≤ reachBytes := fun n hn => by simpa using List.all_eq_true.1 hsz _ (DataW.weights_mem_each (j := 0) rfl rfl n hn)
  have f0 : W.noneFrozen p0 := fun b off hm => hfz b off (by simp [hm])
  obtain ⟨x0, r0, h0, s0⟩ := open_msg (hval 0 28 v0 rfl rfl) h0 f0 z0
  clear hA0 hval0
  refine (walk v0 x0 W r0 h0 s0).mono fun e W' ⟨he, bel⟩ => ?_
  subst he
  exact ⟨_, rfl, _, _, _, [], _, [], hW', trodAll_mk1 (shut_bool Try.underlying4 _), (trodAll_cons_mk (Below.trod laidOut (by kernel_rfl) (of_decide_eq_true (by kernel_rfl)) k0 bel lt0) trodAll_mk0), rfl, bel.frame _, fun h => by cases h⟩

theorem over : Rows.wireSizesRow.holds Try.pinned (OpenSpec.ofChange Rows.wireSizesSpec) :=
  OpenClaim.holds_of_wide 6 Try.f6 rfl rfl rfl rfl rfl rfl rfl ⟨rfl, rfl, rfl, rfl, rfl⟩ rfl rfl rfl rfl rfl (by kernel_rfl) Try.func6 (by kernel_rfl)
    (of_decide_eq_true (by kernel_rfl)) (by unfold Func.isWrapper; first | (rw [if_pos (by decide +kernel)]; kernel_rfl) | (rw [if_neg (by decide +kernel)]; exact ⟨rfl, rfl⟩))
    (fun os started H enc _ => lifted os started H enc)

end Go.Proofs.Ytkalamplagopnaa.wireSizes

namespace Go.Proofs.Ytkalamplagopnaa
/-- The statement, by its short name. -/
theorem wireSizes_holds : Rows.WireSizesSaid := wireSizes.over
#print axioms wireSizes_holds
end Go.Proofs.Ytkalamplagopnaa
