
/-
  Plain facts on numbers that wrap round.
-/
import Derived.Test.YtajbofkcpmpeoaaBase
namespace Go.Proofs.Ytajbofkcpmpeoaa
open Go.ChangeShapes Go.WideShapes Go.ChangeAt Go.RowKit

theorem rem_u64 (a : Int) (N r : Nat) (h : r = (a % 18446744073709551616).toNat % N) : (IntKind.u64.wrap a).tmod (N : Int) = (r : Int) := by
  have e : IntKind.u64.wrap a = a % 18446744073709551616 := by simp [IntKind.wrap, IntKind.bits, IntKind.signed]
  obtain ⟨X, hX⟩ : ∃ X : Nat, a % 18446744073709551616 = (X : Int) := ⟨(a % 18446744073709551616).toNat, by omega⟩
  rw [e, h, hX, Int.tmod_eq_emod_of_nonneg (by omega)]
  simp
theorem u64_nonneg (a : Int) : 0 ≤ IntKind.u64.wrap a := by
  have e : IntKind.u64.wrap a = a % 18446744073709551616 := by simp [IntKind.wrap, IntKind.bits, IntKind.signed]
  rw [e]
  omega
theorem rem_add (m r N : Nat) : ((m : Int) + (r : Int)).tmod (N : Int) = (((m + r) % N : Nat) : Int) := by
  rw [Int.tmod_eq_emod_of_nonneg (by omega)]
  simp
theorem w64_in (n : Int) (h : 0 ≤ n ∧ n ≤ 9223372036854775807) : wrap64 n = n := by unfold wrap64; omega
end Go.Proofs.Ytajbofkcpmpeoaa
