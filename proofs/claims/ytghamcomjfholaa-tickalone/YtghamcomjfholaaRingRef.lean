
/-
  Contracts of package ring's functions (places, distance, within), at every int: what they return, and that memory is untouched.
-/
import Derived.Test.YtghamcomjfholaaRows
import Derived.WalkKit
import Derived.ProofKit
import Derived.OpenShut
import Derived.Laws.BitsLemmas
namespace Go.Proofs.Ytghamcomjfholaa
open Go.ChangeShapes Go.WideShapes Go.ChangeAt Go.RowKit

/-! ### Plain numbers -/
def far (a b : Int) : Int := (b - a + 256) % 256
def plB (a : Int) : Bool := decide (0 ≤ a ∧ a < 256)
theorem plB_yes {a : Int} (h : plB a = true) : 0 ≤ a ∧ a < 256 := by simpa [plB] using h
theorem plB_mk {a : Int} (h0 : 0 ≤ a) (h1 : a < 256) : plB a = true := by simp [plB, h0, h1]
theorem far_bd (a b : Int) : 0 ≤ far a b ∧ far a b < 256 := by unfold far; omega

theorem and255 (n : Int) : bits .and .i64 n 255 = n % 256 := by
  have h255 : (BitVec.ofInt 64 255).toNat = 2 ^ 8 - 1 := by decide
  have key : (BitVec.ofInt 64 n &&& BitVec.ofInt 64 255).toNat = (n % ((2 ^ 64 : Nat) : Int)).toNat % 2 ^ 8 := by
    rw [BitVec.toNat_and, BitVec.toNat_ofInt, h255, Nat.and_two_pow_sub_one_eq_mod]
  show IntKind.i64.wrap ((BitVec.ofInt 64 n &&& BitVec.ofInt 64 255).toNat : Nat) = n % 256
  rw [key, IntKind.wrap_i64]
  omega

theorem and3 (n : Int) : bits .and .i64 n 3 = n % 4 := by
  have h1 : (BitVec.ofInt 64 3).toNat = 2 ^ 2 - 1 := by decide
  have key : (BitVec.ofInt 64 n &&& BitVec.ofInt 64 3).toNat = (n % ((2 ^ 64 : Nat) : Int)).toNat % 2 ^ 2 := by
    rw [BitVec.toNat_and, BitVec.toNat_ofInt, h1, Nat.and_two_pow_sub_one_eq_mod]
  show IntKind.i64.wrap ((BitVec.ofInt 64 n &&& BitVec.ofInt 64 3).toNat : Nat) = n % 4
  rw [key, IntKind.wrap_i64]
  omega
theorem and7 (n : Int) : bits .and .i64 n 7 = n % 8 := by
  have h1 : (BitVec.ofInt 64 7).toNat = 2 ^ 3 - 1 := by decide
  have key : (BitVec.ofInt 64 n &&& BitVec.ofInt 64 7).toNat = (n % ((2 ^ 64 : Nat) : Int)).toNat % 2 ^ 3 := by
    rw [BitVec.toNat_and, BitVec.toNat_ofInt, h1, Nat.and_two_pow_sub_one_eq_mod]
  show IntKind.i64.wrap ((BitVec.ofInt 64 n &&& BitVec.ofInt 64 7).toNat : Nat) = n % 8
  rw [key, IntKind.wrap_i64]
  omega
theorem and1023 (n : Int) : bits .and .i64 n 1023 = n % 1024 := by
  have h1 : (BitVec.ofInt 64 1023).toNat = 2 ^ 10 - 1 := by decide
  have key : (BitVec.ofInt 64 n &&& BitVec.ofInt 64 1023).toNat = (n % ((2 ^ 64 : Nat) : Int)).toNat % 2 ^ 10 := by
    rw [BitVec.toNat_and, BitVec.toNat_ofInt, h1, Nat.and_two_pow_sub_one_eq_mod]
  show IntKind.i64.wrap ((BitVec.ofInt 64 n &&& BitVec.ofInt 64 1023).toNat : Nat) = n % 1024
  rw [key, IntKind.wrap_i64]
  omega

/-! ### The functions -/
theorem isPlace_any (a : Int) (w : World) :
    Calls Try.prog 88 #[.int .i64 a] w fun e w' => e = .returned (.bool (plB a)) ∧ w' = w := by
  by_cases h0 : 0 ≤ a
  · by_cases h1 : a < 256
    · rw [plB_mk h0 h1]
      go_enter Try.func88, Try.ntmps88
      go_wp2
      go_ret
      exact ⟨rfl, rfl⟩
    · have e : plB a = false := by simp [plB]; omega
      rw [e]
      clear e
      go_enter Try.func88, Try.ntmps88
      go_wp2
      go_ret
      exact ⟨rfl, rfl⟩
  · have e : plB a = false := by simp [plB]; omega
    rw [e]
    clear e
    go_enter Try.func88, Try.ntmps88
    go_wp2
    go_ret
    exact ⟨rfl, rfl⟩

theorem upwards_any (a b : Int) (w : World) (ha : plB a = true) (hb : plB b = true) :
    Calls Try.prog 89 #[.int .i64 a, .int .i64 b] w fun e w' => e = .returned (.int .i64 (far a b)) ∧ w' = w := by
  have ⟨ha0, ha1⟩ := plB_yes ha
  have ⟨hb0, hb1⟩ := plB_yes hb
  clear ha hb
  go_enter Try.func89, Try.ntmps89
  go_wp2
  go_ret
  exact ⟨rfl, rfl⟩

theorem distance_yes (a b : Int) (w : World) (ha : plB a = true) (hb : plB b = true) :
    Calls Try.prog 80 #[.int .i64 a, .int .i64 b] w fun e w' => e = .returned (.tuple #[.int .i64 (far a b), .int .i64 0]) ∧ w' = w := by
  go_enter Try.func80, Try.ntmps80
  go_wp2_with (first | (go_at_call 88; refine (isPlace_any _ _).mono ?_; rintro e w' ⟨rfl, rfl⟩) | (go_at_call 89; refine (upwards_any _ _ _ ha hb).mono ?_; rintro e w' ⟨rfl, rfl⟩))
  go_ret2
  exact ⟨rfl, rfl⟩

theorem distance_no (a b : Int) (w : World) (h : plB a = false ∨ plB b = false) :
    Calls Try.prog 80 #[.int .i64 a, .int .i64 b] w fun e w' => e = .returned (.tuple #[.int .i64 0, .int .i64 100]) ∧ w' = w := by
  by_cases ha : plB a = true
  · have hb : plB b = false := by rcases h with h | h <;> simp_all
    clear h
    go_enter Try.func80, Try.ntmps80
    go_wp2_with (first | (go_at_call 88; refine (isPlace_any _ _).mono ?_; rintro e w' ⟨rfl, rfl⟩))
    go_ret2
    exact ⟨rfl, rfl⟩
  · have ha : plB a = false := by simpa using ha
    clear h
    go_enter Try.func80, Try.ntmps80
    go_wp2_with (first | (go_at_call 88; refine (isPlace_any _ _).mono ?_; rintro e w' ⟨rfl, rfl⟩))
    go_ret2
    exact ⟨rfl, rfl⟩

theorem num_any (a : Int) (w : World) :
    Calls Try.prog 12 #[.int .i64 a] w fun e w' => e = .returned (.int .i64 a) ∧ w' = w := by
  go_enter Try.func12, Try.ntmps12
  go_wp2
  go_ret
  exact ⟨rfl, rfl⟩

end Go.Proofs.Ytghamcomjfholaa

namespace Go.Proofs.Ytghamcomjfholaa

/-- All are places. -/
def plsB (xs : List Int) : Bool := xs.all plB
theorem plsB_mem {xs : List Int} (h : plsB xs = true) : ∀ x ∈ xs, plB x = true := by simpa [plsB] using h
theorem plsB_mk {xs : List Int} (h : ∀ x ∈ xs, plB x = true) : plsB xs = true := by simpa [plsB] using h

theorem any_not_plB (xs : List Int) : xs.any (fun x => !plB x) = !plsB xs := by
  unfold plsB
  induction xs with
  | nil => rfl
  | cons x xs ih => simp [List.any_cons, List.all_cons, ih]

theorem far_inj {b x y : Int} (hx : plB x = true) (hy : plB y = true) (h : far b x = far b y) : x = y := by
  have := plB_yes hx
  have := plB_yes hy
  unfold far at h
  omega
theorem far_self (b : Int) : far b b = 0 := by unfold far; omega
theorem far_zero {b x : Int} (hb : plB b = true) (hx : plB x = true) (h : far b x = 0) : x = b :=
  far_inj hx hb (h.trans (far_self b).symm)
/-- Two lists that rise by a key and hold the same are one. -/
theorem rise_unique {f : Int → Int} : ∀ (xs ys : List Int), xs.Pairwise (fun x y => f x < f y) → ys.Pairwise (fun x y => f x < f y) → (∀ x, x ∈ xs ↔ x ∈ ys) → xs = ys
  | [], [], _, _, _ => rfl
  | [], y :: ys, _, _, h => absurd ((h y).2 (by simp)) (by simp)
  | x :: xs, [], _, _, h => absurd ((h x).1 (by simp)) (by simp)
  | x :: xs, y :: ys, hx, hy, h => by
    rw [List.pairwise_cons] at hx hy
    have hxy : x = y := by
      rcases List.mem_cons.1 ((h x).1 (by simp)) with e | e
      · exact e
      · rcases List.mem_cons.1 ((h y).2 (by simp)) with e' | e'
        · exact e'.symm
        · have := hy.1 x e
          have := hx.1 y e'
          omega
    subst hxy
    rw [rise_unique xs ys hx.2 hy.2 ?_]
    intro z
    have hz := h z
    simp only [List.mem_cons] at hz
    constructor
    · intro hm
      rcases hz.1 (.inr hm) with rfl | e
      · have := hx.1 z hm; omega
      · exact e
    · intro hm
      rcases hz.2 (.inr hm) with rfl | e
      · have := hy.1 z hm; omega
      · exact e

/-! ### What the statements make of numbers: the first k of them as places -/
end Go.Proofs.Ytghamcomjfholaa

namespace Go.Proofs.Ytghamcomjfholaa
open Go.ChangeShapes Go.WideShapes Go.ChangeAt Go.RowKit

theorem rPlaceMay_any (a : Int) (w : World) :
    Calls Try.prog 25 #[.int .i64 a] w fun e w' => e = .returned (.bool (plB a)) ∧ w' = w := by
  by_cases h0 : 0 ≤ a
  · by_cases h1 : a < 256
    · rw [plB_mk h0 h1]
      go_enter Try.func25, Try.ntmps25
      go_wp2
      go_ret
      exact ⟨rfl, rfl⟩
    · have e : plB a = false := by simp [plB]; omega
      rw [e]
      clear e
      go_enter Try.func25, Try.ntmps25
      go_wp2
      go_ret
      exact ⟨rfl, rfl⟩
  · have e : plB a = false := by simp [plB]; omega
    rw [e]
    clear e
    go_enter Try.func25, Try.ntmps25
    go_wp2
    go_ret
    exact ⟨rfl, rfl⟩

end Go.Proofs.Ytghamcomjfholaa
