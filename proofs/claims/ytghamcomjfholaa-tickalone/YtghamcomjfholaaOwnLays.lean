/-
  Functions of the library as they stand in this program: which numbers they bear (the shelf's layings, in plain words).
-/
import Derived.Test.YtghamcomjfholaaRows
import Derived.Shelf.SlCmpFuncs.MinMaxFunc
import Derived.Ground.SlsgProg
namespace Go.Proofs.Ytghamcomjfholaa
open Go.Shelf
def minL_ren : Go.Shelf.Ren := ⟨fun | 10 => 86 | n => n, fun | 22 => 24 | 24 => 3 | 25 => 97 | 3 => 3 | 4 => 4 | 9 => 9 | 20 => 20 | 0 => 0 | n => n, fun | n => n⟩
theorem minL : Go.Proofs.SlLaysG2.n10 Try.prog minL_ren := {
  mixed := by kernel_rfl
  f10 := ⟨Try.f86.name, by decide, Try.func86.trans (congrArg some (by kernel_rfl))⟩
  t0 := Try.underlying0
  a0 := Try.isAgg0
  z0 := Try.sizeOf0
  v0 := Try.zeroValue0
  t3 := Try.underlying3
  a3 := Try.isAgg3
  z3 := Try.sizeOf3
  v3 := Try.zeroValue3
  t4 := Try.underlying4
  a4 := Try.isAgg4
  z4 := Try.sizeOf4
  v4 := Try.zeroValue4
  t9 := Try.underlying9
  a9 := Try.isAgg9
  z9 := Try.sizeOf9
  v9 := Try.zeroValue9
  t20 := Try.underlying20
  a20 := Try.isAgg20
  z20 := Try.sizeOf20
  v20 := Try.zeroValue20
  t22 := Try.underlying24
  a22 := Try.isAgg24
  z22 := Try.sizeOf24
  v22 := Try.zeroValue24
  a24 := Try.isAgg3
  z24 := Try.sizeOf3
  t25 := Try.underlying97
  a25 := Try.isAgg97
  z25 := Try.sizeOf97
  v25 := Try.zeroValue97 }
end Go.Proofs.Ytghamcomjfholaa
