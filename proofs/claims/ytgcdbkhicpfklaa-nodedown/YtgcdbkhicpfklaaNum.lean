
/-
  Plain facts on numbers that wrap round.
-/
import Derived.Test.YtgcdbkhicpfklaaBase
import Derived.Laws.BitsLemmas
namespace Go.Proofs.Ytgcdbkhicpfklaa
open Go.ChangeShapes Go.WideShapes Go.ChangeAt Go.RowKit

theorem rem_u64 (a : Int) (N r : Nat) (h : r = (a % 18446744073709551616).toNat % N) : (IntKind.u64.wrap a).tmod (N : Int) = (r : Int) := by
  have e : IntKind.u64.wrap a = a % 18446744073709551616 := by simp [IntKind.wrap, IntKind.bits, IntKind.signed]
  obtain ⟨X, hX⟩ : ∃ X : Nat, a % 18446744073709551616 = (X : Int) := ⟨(a % 18446744073709551616).toNat, by omega⟩
  rw [e, h, hX, Int.tmod_eq_emod_of_nonneg (by omega)]
  simp
theorem w64_in (n : Int) (h : 0 ≤ n ∧ n ≤ 9223372036854775807) : wrap64 n = n := by unfold wrap64; omega
theorem and3 (n : Int) : bits .and .i64 n 3 = n % 4 := by
  have h1 : (BitVec.ofInt 64 3).toNat = 2 ^ 2 - 1 := by decide
  have key : (BitVec.ofInt 64 n &&& BitVec.ofInt 64 3).toNat = (n % ((2 ^ 64 : Nat) : Int)).toNat % 2 ^ 2 := by
    rw [BitVec.toNat_and, BitVec.toNat_ofInt, h1, Nat.and_two_pow_sub_one_eq_mod]
  show IntKind.i64.wrap ((BitVec.ofInt 64 n &&& BitVec.ofInt 64 3).toNat : Nat) = n % 4
  rw [key, IntKind.wrap_i64]
  omega
end Go.Proofs.Ytgcdbkhicpfklaa
