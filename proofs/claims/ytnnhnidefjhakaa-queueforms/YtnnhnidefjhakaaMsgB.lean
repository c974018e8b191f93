
/-
  Contracts of package msg's functions over whole messages (may it greet, bring, ask, tell; may it be), at every message: what they return, and that no old memory has turned.
-/
import Derived.Test.YtnnhnidefjhakaaMsgA
namespace Go.Proofs.Ytnnhnidefjhakaa
open Go.ChangeShapes Go.WideShapes Go.ChangeAt Go.RowKit

set_option maxHeartbeats 1000000 in
theorem mGreet_any {lo hi : Nat} {w : World} {v : Value} {is : List Int} (hv : RowI lo hi w v is) (n a b k tk tc tu tx : Int) (tg h : Bool) :
    Calls Try.prog 34 #[.agg #[.int .i64 n, .int .i64 a, .int .i64 b, v, .int .i64 k, .int .i64 tk, .int .i64 tc, .int .i64 tu, .int .i64 tx, .bool tg, .bool h]] w fun e w' =>
      e = .returned (.bool (grtB is k ⟨tk, tc, tu, tx, tg⟩ h)) ∧ Below w.heap.size w w' := by
  have H1 := fun o => mNamed_any (hv.alloc o)
  have B1 := toHid (fun (cs : Array Value) (t : TypeId) => Box.new w cs t)
  obtain ⟨p, c, rfl, -⟩ := hv
  unfold grtB
  generalize nmdB is = r at *
  cases r with
  | false =>
    go_enter Try.func34, Try.ntmps34
    go_wp2_with (go_at_call 41; refine (H1 _).mono ?_; rintro e w1 ⟨rfl, h1⟩)
    go_ret
    exact ⟨rfl, ((Below.refl _ w).onA _).on h1⟩
  | true =>
    by_cases hk : k = 0
    · subst hk
      have hz := mZero_any tk tc tu tx tg
      generalize zeB ⟨tk, tc, tu, tx, tg⟩ = z at *
      cases z with
      | false =>
        go_enter Try.func34, Try.ntmps34
        go_wp2_with (first
          | (go_at_call 41; refine (H1 _).mono ?_; rintro e w1 ⟨rfl, h1⟩
             obtain ⟨b1, b2, b3⟩ := (B1.out _ _).below h1)
          | (go_at_call 42; refine (hz _).mono ?_; rintro e w2 ⟨rfl, h2⟩))
        go_ret
        exact ⟨rfl, (((Below.refl _ w).onA _).on h1).on h2⟩
      | true =>
        go_enter Try.func34, Try.ntmps34
        go_wp2_with (first
          | (go_at_call 41; refine (H1 _).mono ?_; rintro e w1 ⟨rfl, h1⟩
             have B2 := (B1.out _ _).below h1
             obtain ⟨b1, b2, b3⟩ := id B2)
          | (go_at_call 42; refine (hz _).mono ?_; rintro e w2 ⟨rfl, h2⟩
             clear b1 b2 b3
             obtain ⟨b1, b2, b3⟩ := B2.below h2))
        go_ret
        exact ⟨by simp, (((Below.refl _ w).onA _).on h1).on h2⟩
    · have hd : (k == 0) = false := by simpa using hk
      go_enter Try.func34, Try.ntmps34
      go_wp2_with (first
        | (go_at_call 41; refine (H1 _).mono ?_; rintro e w1 ⟨rfl, h1⟩
           obtain ⟨b1, b2, b3⟩ := (B1.out _ _).below h1))
      go_ret
      exact ⟨by simp [hk], ((Below.refl _ w).onA _).on h1⟩

set_option maxHeartbeats 1000000 in
theorem mBring_any (p : Option Addr) (m c : Nat) (n a b k tk tc tu tx : Int) (tg h : Bool) (w : World) :
    Calls Try.prog 35 #[.agg #[.int .i64 n, .int .i64 a, .int .i64 b, .slice p m c, .int .i64 k, .int .i64 tk, .int .i64 tc, .int .i64 tu, .int .i64 tx, .bool tg, .bool h]] w fun e w' =>
      e = .returned (.bool (brgB m k ⟨tk, tc, tu, tx, tg⟩ h)) ∧ Below w.heap.size w w' := by
  have B1 := toHid (fun (cs : Array Value) (t : TypeId) => Box.new w cs t)
  unfold brgB
  by_cases hm : m = 0
  · subst hm
    by_cases hk : k = 0
    · subst hk
      have hz := iMay_any tk tc tu tx tg
      generalize itB ⟨tk, tc, tu, tx, tg⟩ = z at *
      cases z with
      | false =>
        go_enter Try.func35, Try.ntmps35
        go_wp2_with (first
          | (go_at_call 43; refine (hz _).mono ?_; rintro e w2 ⟨rfl, h2⟩))
        go_ret
        exact ⟨rfl, ((Below.refl _ w).onA _).on h2⟩
      | true =>
        go_enter Try.func35, Try.ntmps35
        go_wp2_with (first
          | (go_at_call 43; refine (hz _).mono ?_; rintro e w2 ⟨rfl, h2⟩
             obtain ⟨b1, b2, b3⟩ := (B1.out _ _).below h2))
        go_ret
        exact ⟨by simp, ((Below.refl _ w).onA _).on h2⟩
    · have hd : (k == 0) = false := by simpa using hk
      go_enter Try.func35, Try.ntmps35
      go_wp2
      go_ret
      exact ⟨by simp [hk], (Below.refl _ w).onA _⟩
  · have hm1 : ¬ (m : Int) = 0 := by omega
    have hm2 : ((m : Int) == 0) = false := by simpa using hm1
    go_enter Try.func35, Try.ntmps35
    go_wp2
    go_ret
    exact ⟨by simp [hm], (Below.refl _ w).onA _⟩

set_option maxHeartbeats 1000000 in
theorem mAsk_any (p : Option Addr) (m c : Nat) (n a b k tk tc tu tx : Int) (tg h : Bool) (w : World) :
    Calls Try.prog 36 #[.agg #[.int .i64 n, .int .i64 a, .int .i64 b, .slice p m c, .int .i64 k, .int .i64 tk, .int .i64 tc, .int .i64 tu, .int .i64 tx, .bool tg, .bool h]] w fun e w' =>
      e = .returned (.bool (askB m k ⟨tk, tc, tu, tx, tg⟩ h)) ∧ Below w.heap.size w w' := by
  have B1 := toHid (fun (cs : Array Value) (t : TypeId) => Box.new w cs t)
  unfold askB
  by_cases hm : m = 0
  · subst hm
    have hk := mNo_any k
    generalize plB k = r at *
    cases r with
    | true =>
      have hz := mZero_any tk tc tu tx tg
      generalize zeB ⟨tk, tc, tu, tx, tg⟩ = z at *
      cases z with
      | false =>
        go_enter Try.func36, Try.ntmps36
        go_wp2_with (first
          | (go_at_call 33; refine (hk _).mono ?_; rintro e w' ⟨rfl, hw'⟩; subst w')
          | (go_at_call 42; refine (hz _).mono ?_; rintro e w2 ⟨rfl, h2⟩))
        go_ret
        exact ⟨rfl, ((Below.refl _ w).onA _).on h2⟩
      | true =>
        go_enter Try.func36, Try.ntmps36
        go_wp2_with (first
          | (go_at_call 33; refine (hk _).mono ?_; rintro e w' ⟨rfl, hw'⟩; subst w')
          | (go_at_call 42; refine (hz _).mono ?_; rintro e w2 ⟨rfl, h2⟩
             obtain ⟨b1, b2, b3⟩ := (B1.out _ _).below h2))
        go_ret
        exact ⟨by simp, ((Below.refl _ w).onA _).on h2⟩
    | false =>
      go_enter Try.func36, Try.ntmps36
      go_wp2_with (first
        | (go_at_call 33; refine (hk _).mono ?_; rintro e w' ⟨rfl, hw'⟩; subst w'))
      go_ret
      exact ⟨rfl, (Below.refl _ w).onA _⟩
  · have hm1 : ¬ (m : Int) = 0 := by omega
    have hm2 : ((m : Int) == 0) = false := by simpa using hm1
    go_enter Try.func36, Try.ntmps36
    go_wp2
    go_ret
    exact ⟨by simp [hm], (Below.refl _ w).onA _⟩

set_option maxHeartbeats 1000000 in
theorem mTell_any (p : Option Addr) (m c : Nat) (n a b k tk tc tu tx : Int) (tg h : Bool) (w : World) :
    Calls Try.prog 37 #[.agg #[.int .i64 n, .int .i64 a, .int .i64 b, .slice p m c, .int .i64 k, .int .i64 tk, .int .i64 tc, .int .i64 tu, .int .i64 tx, .bool tg, .bool h]] w fun e w' =>
      e = .returned (.bool (telB m k ⟨tk, tc, tu, tx, tg⟩ h)) ∧ Below w.heap.size w w' := by
  have B1 := toHid (fun (cs : Array Value) (t : TypeId) => Box.new w cs t)
  unfold telB
  by_cases hm : m = 0
  · subst hm
    have hk := mNo_any k
    generalize plB k = r at *
    cases r with
    | true =>
      cases h with
      | false =>
        have hz := mZero_any tk tc tu tx tg
        go_enter Try.func37, Try.ntmps37
        go_wp2_with (first
          | (go_at_call 33; refine (hk _).mono ?_; rintro e w' ⟨rfl, hw'⟩; subst w')
          | (go_at_call 42; refine (hz _).mono ?_; rintro e w2 ⟨rfl, h2⟩))
        go_ret
        exact ⟨by simp, ((Below.refl _ w).onA _).on h2⟩
      | true =>
        have hz := iMay_any tk tc tu tx tg
        generalize itB ⟨tk, tc, tu, tx, tg⟩ = z at *
        cases z with
        | false =>
          go_enter Try.func37, Try.ntmps37
          go_wp2_with (first
            | (go_at_call 33; refine (hk _).mono ?_; rintro e w' ⟨rfl, hw'⟩; subst w')
            | (go_at_call 43; refine (hz _).mono ?_; rintro e w2 ⟨rfl, h2⟩))
          go_ret
          exact ⟨by simp, ((Below.refl _ w).onA _).on h2⟩
        | true =>
          by_cases he : tk = k
          · subst he
            go_enter Try.func37, Try.ntmps37
            go_wp2_with (first
              | (go_at_call 33; refine (hk _).mono ?_; rintro e w' ⟨rfl, hw'⟩; subst w')
              | (go_at_call 43; refine (hz _).mono ?_; rintro e w2 ⟨rfl, h2⟩
                 obtain ⟨b1, b2, b3⟩ := (B1.out _ _).below h2))
            go_ret
            exact ⟨by simp, ((Below.refl _ w).onA _).on h2⟩
          · have hd : (tk == k) = false := by simpa using he
            go_enter Try.func37, Try.ntmps37
            go_wp2_with (first
              | (go_at_call 33; refine (hk _).mono ?_; rintro e w' ⟨rfl, hw'⟩; subst w')
              | (go_at_call 43; refine (hz _).mono ?_; rintro e w2 ⟨rfl, h2⟩
                 obtain ⟨b1, b2, b3⟩ := (B1.out _ _).below h2))
            go_ret
            exact ⟨by simp, ((Below.refl _ w).onA _).on h2⟩
    | false =>
      simp only [Bool.false_and, Bool.and_false]
      go_enter Try.func37, Try.ntmps37
      go_wp2_with (first
        | (go_at_call 33; refine (hk _).mono ?_; rintro e w' ⟨rfl, hw'⟩; subst w'))
      go_ret
      exact ⟨rfl, (Below.refl _ w).onA _⟩
  · rw [decide_eq_false hm, Bool.false_and]
    have hm1 : ¬ (m : Int) = 0 := by omega
    have hm2 : ((m : Int) == 0) = false := by simpa using hm1
    go_enter Try.func37, Try.ntmps37
    go_wp2
    go_ret
    exact ⟨rfl, (Below.refl _ w).onA _⟩

set_option maxHeartbeats 2000000 in
theorem mMay_any {lo hi : Nat} {w : World} {v : Value} {is : List Int} (hv : RowI lo hi w v is) (n a b k tk tc tu tx : Int) (tg h : Bool) :
    Calls Try.prog 28 #[.agg #[.int .i64 n, .int .i64 a, .int .i64 b, v, .int .i64 k, .int .i64 tk, .int .i64 tc, .int .i64 tu, .int .i64 tx, .bool tg, .bool h]] w fun e w' =>
      e = .returned (.bool (mgB n a b is k ⟨tk, tc, tu, tx, tg⟩ h)) ∧ Below w.heap.size w w' := by
  have H0 := fun o => mGreet_any (hv.alloc o) n a b k tk tc tu tx tg h
  obtain ⟨p, c, rfl, -⟩ := hv
  have t1 := trivial
  have ha := mNo_any a
  have hb := mNo_any b
  unfold mgB endB
  generalize plB a = r at *
  cases r with
  | false =>
    go_enter Try.func28, Try.ntmps28
    go_wp2_with (first
      | (go_at_call 33; refine (ha _).mono ?_; rintro e w' ⟨rfl, hw'⟩; subst w'))
    go_ret
    exact ⟨rfl, (Below.refl _ w).onA _⟩
  | true =>
    generalize plB b = s at *
    cases s with
    | false =>
      go_enter Try.func28, Try.ntmps28
      go_wp2_with (first
        | (go_at_call 33; clear t1; refine (ha _).mono ?_; rintro e w' ⟨rfl, hw'⟩; subst w')
        | (go_at_call 33; refine (hb _).mono ?_; rintro e w' ⟨rfl, hw'⟩; subst w'))
      go_ret
      exact ⟨rfl, (Below.refl _ w).onA _⟩
    | true =>
      by_cases he : a = b
      · subst he
        go_enter Try.func28, Try.ntmps28
        go_wp2_with (first
          | (go_at_call 33; clear t1; refine (ha _).mono ?_; rintro e w' ⟨rfl, hw'⟩; subst w')
          | (go_at_call 33; refine (hb _).mono ?_; rintro e w' ⟨rfl, hw'⟩; subst w'))
        go_ret
        exact ⟨by simp, (Below.refl _ w).onA _⟩
      · have hd : (a == b) = false := by simpa using he
        rw [decide_eq_true he]
        simp only [Bool.true_and]
        unfold knB
        by_cases h0 : n = 0
        · subst h0
          simp only [if_true]
          go_enter Try.func28, Try.ntmps28
          go_wp2_with (first
            | (go_at_call 33; clear t1; refine (ha _).mono ?_; rintro e w' ⟨rfl, hw'⟩; subst w')
            | (go_at_call 33; refine (hb _).mono ?_; rintro e w' ⟨rfl, hw'⟩; subst w')
            | (go_at_call 34; refine (H0 _).mono ?_; rintro e w2 ⟨rfl, h2⟩))
          go_ret
          exact ⟨rfl, ((Below.refl _ w).onA _).on h2⟩
        · rw [if_neg h0]
          by_cases h1 : n = 1
          · subst h1
            simp only [if_true]
            go_enter Try.func28, Try.ntmps28
            go_wp2_with (first
              | (go_at_call 33; clear t1; refine (ha _).mono ?_; rintro e w' ⟨rfl, hw'⟩; subst w')
              | (go_at_call 33; refine (hb _).mono ?_; rintro e w' ⟨rfl, hw'⟩; subst w')
              | (go_at_call 35; refine (mBring_any _ _ _ _ _ _ _ _ _ _ _ _ _ _).mono ?_; rintro e w2 ⟨rfl, h2⟩))
            go_ret
            exact ⟨rfl, ((Below.refl _ w).onA _).on h2⟩
          · rw [if_neg h1]
            by_cases h2 : n = 2
            · subst h2
              simp only [if_true]
              go_enter Try.func28, Try.ntmps28
              go_wp2_with (first
                | (go_at_call 33; clear t1; refine (ha _).mono ?_; rintro e w' ⟨rfl, hw'⟩; subst w')
                | (go_at_call 33; refine (hb _).mono ?_; rintro e w' ⟨rfl, hw'⟩; subst w')
                | (go_at_call 36; refine (mAsk_any _ _ _ _ _ _ _ _ _ _ _ _ _ _).mono ?_; rintro e w2 ⟨rfl, h2⟩))
              go_ret
              exact ⟨rfl, ((Below.refl _ w).onA _).on h2⟩
            · rw [if_neg h2]
              by_cases h3 : n = 3
              · subst h3
                simp only [if_true]
                go_enter Try.func28, Try.ntmps28
                go_wp2_with (first
                  | (go_at_call 33; clear t1; refine (ha _).mono ?_; rintro e w' ⟨rfl, hw'⟩; subst w')
                  | (go_at_call 33; refine (hb _).mono ?_; rintro e w' ⟨rfl, hw'⟩; subst w')
                  | (go_at_call 37; refine (mTell_any _ _ _ _ _ _ _ _ _ _ _ _ _ _).mono ?_; rintro e w2 ⟨rfl, h2⟩))
                go_ret
                exact ⟨rfl, ((Below.refl _ w).onA _).on h2⟩
              · rw [if_neg h3]
                go_enter Try.func28, Try.ntmps28
                go_wp2_with (first
                  | (go_at_call 33; clear t1; refine (ha _).mono ?_; rintro e w' ⟨rfl, hw'⟩; subst w')
                  | (go_at_call 33; refine (hb _).mono ?_; rintro e w' ⟨rfl, hw'⟩; subst w'))
                go_ret
                exact ⟨rfl, (Below.refl _ w).onA _⟩

theorem mMay_is {lo hi : Nat} {w : World} {v : Value} {is : List Int} (hv : RowI lo hi w v is) {n a b k tk tc tu tx : Int} {tg h : Bool} {r : Bool} (hr : mgB n a b is k ⟨tk, tc, tu, tx, tg⟩ h = r) :
    Calls Try.prog 28 #[.agg #[.int .i64 n, .int .i64 a, .int .i64 b, v, .int .i64 k, .int .i64 tk, .int .i64 tc, .int .i64 tu, .int .i64 tx, .bool tg, .bool h]] w fun e w' => e = .returned (.bool r) ∧ Below w.heap.size w w' :=
  hr ▸ mMay_any hv n a b k tk tc tu tx tg h

end Go.Proofs.Ytnnhnidefjhakaa
