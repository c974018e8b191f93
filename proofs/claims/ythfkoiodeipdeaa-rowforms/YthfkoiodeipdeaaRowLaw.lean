/-
  What every statement of layer 2 asks first: a few calls at given lists.
-/
import Derived.Test.YthfkoiodeipdeaaRow
namespace Go.Proofs.Ythfkoiodeipdeaa
open Go.ChangeShapes Go.WideShapes Go.ChangeAt Go.RowKit

theorem RowI.lit {w : World} (xs : List Int) (n : Nat) (hn : n = xs.length) (hm : xs.length ≤ maxLen) (cs : Array Value) (hc : cs = (xs.map (Value.int .i64)).toArray) :
    RowI w.heap.size (w.heap.size + 1) (w.alloc (.cells cs 3)) (.slice (some ⟨w.heap.size, 0, none⟩) n n) xs := by
  subst hn hc
  have h := World.ownsRow_lit (base := w.heap.size) (e := 3) (size := 1) w (xs.map (Value.int .i64)).toArray xs.length (Nat.le_refl _) hm (by simp)
  have h2 := RowI.of_owns (zs := xs) h
  simpa using h2

theorem RowI.lit1 {w : World} {k : Nat} (hk : k = w.heap.size) (a : Int) : RowI k (k + 1) (w.alloc (.cells #[.int .i64 a] 3)) (.slice (some ⟨k, 0, none⟩) 1 1) [a] := by
  subst hk
  exact RowI.lit [a] 1 rfl (by simp [maxLen]) _ rfl
theorem RowI.lit2 {w : World} {k : Nat} (hk : k = w.heap.size) (a b : Int) : RowI k (k + 1) (w.alloc (.cells #[.int .i64 a, .int .i64 b] 3)) (.slice (some ⟨k, 0, none⟩) 2 2) [a, b] := by
  subst hk
  exact RowI.lit [a, b] 2 rfl (by simp [maxLen]) _ rfl
theorem RowI.lit3 {w : World} {k : Nat} (hk : k = w.heap.size) (a b c : Int) : RowI k (k + 1) (w.alloc (.cells #[.int .i64 a, .int .i64 b, .int .i64 c] 3)) (.slice (some ⟨k, 0, none⟩) 3 3) [a, b, c] := by
  subst hk
  exact RowI.lit [a, b, c] 3 rfl (by simp [maxLen]) _ rfl
theorem RowI.lit5 {w : World} {k : Nat} (hk : k = w.heap.size) (a b c d e : Int) : RowI k (k + 1) (w.alloc (.cells #[.int .i64 a, .int .i64 b, .int .i64 c, .int .i64 d, .int .i64 e] 3)) (.slice (some ⟨k, 0, none⟩) 5 5) [a, b, c, d, e] := by
  subst hk
  exact RowI.lit [a, b, c, d, e] 5 rfl (by simp [maxLen]) _ rfl

set_option maxHeartbeats 1000000 in
theorem awake2_any (w : World) :
    Calls Try.prog 17 #[] w fun e w' => e = .returned (.bool true) ∧ Below w.heap.size w w' := by
  have e1 : rowL 100 [90, 200, 100, 90, 101] = [101, 200, 90] := by decide +kernel
  have e2 : ownV [90, 200] 91 = 200 := by decide +kernel
  have e3 : ownV [90, 200] 201 = 90 := by decide +kernel
  have e4 : rowE 100 [90, 200, 100, 90, 101] = 0 := by decide +kernel
  have e5 : ownE [90, 200] 91 = 0 := by decide +kernel
  have e6 : ownE [90, 200] 201 = 0 := by decide +kernel
  have e7 : rowE 256 [] = 200 := by decide +kernel
  have e8 : ownE [] 5 = 200 := by decide +kernel
  have t1 := trivial
  have t2 := trivial
  have t3 := trivial
  have t4 := trivial
  have t5 := trivial
  go_enter Try.func17, Try.ntmps17
  go_wp2_with (first
    | (go_at_call 9; clear t1; refine (sort_any (RowI.lit5 (by simp) _ _ _ _ _) (by simp) _).mono ?_; rintro e w1 ⟨u, rfl, hu1, hb1⟩; rw [e1] at hu1)
    | (go_at_call 11; clear t2; refine (owner_any (RowI.lit2 (by simp) _ _) _).mono ?_; rintro e w2 ⟨rfl, hb2⟩; have hu2 := (hu1.alloc _).below hb2 (by simp))
    | (go_at_call 11; clear t3; refine (owner_any (RowI.lit2 (by simp) _ _) _).mono ?_; rintro e w3 ⟨rfl, hb3⟩; have hu3 := (hu2.alloc _).below hb3 (by have := hb2.size; simp at this ⊢; omega))
    | (go_at_call 9; clear t4; refine (sort_any (RowI.nil0 (lo := 0) (hi := 0)) (Nat.zero_le _) _).mono ?_; rintro e w4 ⟨u4, rfl, hu4, hb4⟩; have hu4 := hu3.below hb4 (by have := hb2.size; have := hb3.size; simp at *; omega))
    | (go_at_call 11; clear t5; refine (owner_any (RowI.nil0 (lo := 0) (hi := 0)) _).mono ?_; rintro e w5 ⟨rfl, hb5⟩; have hu5 := hu4.below hb5 (by have := hb2.size; have := hb3.size; have := hb4.size; simp at *; omega))
    | (go_at_call 13; refine (sameInts_any (hu5.alloc _) (RowI.lit3 (by simp) _ _ _)).mono ?_; rintro e w6 ⟨rfl, q6, hw6⟩; subst w6)
    | (go_at_call 14; refine (num_any _ _).mono ?_; rintro e w' ⟨rfl, hw'⟩; subst w'))
  go_ret
  exact ⟨rfl, ((((((((((Below.refl _ w).onA _).on hb1).onA _).on hb2).onA _).on hb3).on hb4).on hb5).onA _).onD _⟩

end Go.Proofs.Ythfkoiodeipdeaa
