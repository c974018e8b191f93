
/-
  Contracts of package version's functions and of the document's own answers (may it be; is it newer), at every two numbers each: what they return, and that no old memory has turned.
-/
import Derived.Test.YtnnhnidefjhakaaRing
import Derived.Test.YtnnhnidefjhakaaRingRef
import Derived.Test.YtnnhnidefjhakaaBase
import Derived.Test.YtnnhnidefjhakaaOld
namespace Go.Proofs.Ytnnhnidefjhakaa
open Go.ChangeShapes Go.WideShapes Go.ChangeAt Go.RowKit

/-! ### Plain numbers -/
def cntB (c : Int) : Bool := decide (1 ≤ c ∧ c ≤ 65535)
def verB (c u : Int) : Bool := cntB c && plB u
def gtB (c u d v : Int) : Bool := decide (d < c) || (decide (c = d) && decide (v < u))
def newB (c u d v : Int) : Bool := (verB c u && verB d v) && gtB c u d v
def newE (c u d v : Int) : Int := if (verB c u && verB d v) = true then 0 else 300

theorem newB_yes {c u d v : Int} (h1 : verB c u = true) (h2 : verB d v = true) : newB c u d v = gtB c u d v ∧ newE c u d v = 0 := by simp [newB, newE, h1, h2]
theorem newB_no {c u d v : Int} (h : verB c u = false ∨ verB d v = false) : newB c u d v = false ∧ newE c u d v = 300 := by
  rcases h with h | h <;> simp [newB, newE, h]

/-! ### The functions -/
theorem vIsPlace_any (a : Int) (w : World) :
    Calls Try.prog 50 #[.int .i64 a] w fun e w' => e = .returned (.bool (plB a)) ∧ w' = w := by
  by_cases h : plB a = true
  · rw [h]
    go_enter Try.func50, Try.ntmps50
    go_wp2_with (first | (go_at_call 40; refine (distance_yes _ _ _ h h).mono ?_; rintro e w' ⟨rfl, rfl⟩))
    go_ret
    exact ⟨rfl, rfl⟩
  · have h : plB a = false := by simpa using h
    rw [h]
    go_enter Try.func50, Try.ntmps50
    go_wp2_with (first | (go_at_call 40; refine (distance_no _ _ _ (Or.inl h)).mono ?_; rintro e w' ⟨rfl, rfl⟩))
    go_ret
    exact ⟨rfl, rfl⟩

theorem may_any (c u : Int) (w : World) :
    Calls Try.prog 48 #[.agg #[.int .i64 c, .int .i64 u]] w fun e w' => e = .returned (.bool (verB c u)) ∧ Below w.heap.size w w' := by
  by_cases h1 : 1 ≤ c
  · by_cases h2 : c ≤ 65535
    · have e : verB c u = plB u := by simp [verB, cntB, h1, h2]
      rw [e]
      clear e
      go_enter Try.func48, Try.ntmps48
      go_wp2_with (first | (go_at_call 50; refine (vIsPlace_any _ _).mono ?_; rintro e w' ⟨rfl, hw'⟩; subst w'))
      go_ret
      exact ⟨rfl, (Below.refl _ w).onA _⟩
    · have e : verB c u = false := by simp [verB, cntB, h2]
      have hd : decide (c ≤ 65535) = false := by simpa using h2
      rw [e]
      clear e
      go_enter Try.func48, Try.ntmps48
      go_wp2_with fail
      go_ret
      exact ⟨rfl, (Below.refl _ w).onA _⟩
  · have e : verB c u = false := by simp [verB, cntB, h1]
    have hd : decide (1 ≤ c) = false := by simpa using h1
    rw [e]
    clear e
    go_enter Try.func48, Try.ntmps48
    go_wp2_with fail
    go_ret
    exact ⟨rfl, (Below.refl _ w).onA _⟩

theorem may_bad (c u : Int) (w : World) (h : verB c u = false) :
    Calls Try.prog 48 #[.agg #[.int .i64 c, .int .i64 u]] w fun e w' => e = .returned (.bool false) ∧ Below w.heap.size w w' := h ▸ may_any c u w
theorem may_good (c u : Int) (w : World) (h : verB c u = true) :
    Calls Try.prog 48 #[.agg #[.int .i64 c, .int .i64 u]] w fun e w' => e = .returned (.bool true) ∧ Below w.heap.size w w' := h ▸ may_any c u w

theorem and3 (n : Int) : bits .and .i64 n 3 = n % 4 := by
  have h1 : (BitVec.ofInt 64 3).toNat = 2 ^ 2 - 1 := by decide
  have key : (BitVec.ofInt 64 n &&& BitVec.ofInt 64 3).toNat = (n % ((2 ^ 64 : Nat) : Int)).toNat % 2 ^ 2 := by
    rw [BitVec.toNat_and, BitVec.toNat_ofInt, h1, Nat.and_two_pow_sub_one_eq_mod]
  show IntKind.i64.wrap ((BitVec.ofInt 64 n &&& BitVec.ofInt 64 3).toNat : Nat) = n % 4
  rw [key, IntKind.wrap_i64]
  omega

theorem rMay_any (c u : Int) (w : World) :
    Calls Try.prog 39 #[.agg #[.int .i64 c, .int .i64 u]] w fun e w' => e = .returned (.bool (verB c u)) ∧ Below w.heap.size w w' := by
  by_cases h1 : 1 ≤ c
  · by_cases h2 : c ≤ 65535
    · have e : verB c u = plB u := by simp [verB, cntB, h1, h2]
      rw [e]
      clear e
      go_enter Try.func39, Try.ntmps39
      go_wp2_with (first | (go_at_call 29; refine (rPlaceMay_any _ _).mono ?_; rintro e w' ⟨rfl, hw'⟩; subst w'))
      go_ret
      exact ⟨rfl, (Below.refl _ w).onA _⟩
    · have e : verB c u = false := by simp [verB, cntB, h2]
      have hd : decide (c ≤ 65535) = false := by simpa using h2
      rw [e]
      clear e
      go_enter Try.func39, Try.ntmps39
      go_wp2_with fail
      go_ret
      exact ⟨rfl, (Below.refl _ w).onA _⟩
  · have e : verB c u = false := by simp [verB, cntB, h1]
    have hd : decide (1 ≤ c) = false := by simpa using h1
    rw [e]
    clear e
    go_enter Try.func39, Try.ntmps39
    go_wp2_with fail
    go_ret
    exact ⟨rfl, (Below.refl _ w).onA _⟩


end Go.Proofs.Ytnnhnidefjhakaa
