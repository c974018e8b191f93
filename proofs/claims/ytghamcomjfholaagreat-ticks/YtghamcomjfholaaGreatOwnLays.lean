/-
  Functions of the library as they stand in this program: which numbers they bear (the shelf's layings, in plain words).
-/
import Derived.Test.YtghamcomjfholaaGreatRows
import Derived.Shelf.SlCmpFuncs.MinMaxFunc
import Derived.Ground.SlsgProg
namespace Go.Proofs.YtghamcomjfholaaGreat
open Go.Shelf
def minL_ren : Go.Shelf.Ren := ⟨fun | 10 => 101 | n => n, fun | 22 => 23 | 24 => 3 | 25 => 121 | 3 => 3 | 4 => 4 | 9 => 9 | 20 => 20 | 0 => 0 | n => n, fun | n => n⟩
theorem minL : Go.Proofs.SlLaysG2.n10 Tryz.prog minL_ren := {
  mixed := by kernel_rfl
  f10 := ⟨Tryz.f101.name, by decide, Tryz.func101.trans (congrArg some (by kernel_rfl))⟩
  t0 := Tryz.underlying0
  a0 := Tryz.isAgg0
  z0 := Tryz.sizeOf0
  v0 := Tryz.zeroValue0
  t3 := Tryz.underlying3
  a3 := Tryz.isAgg3
  z3 := Tryz.sizeOf3
  v3 := Tryz.zeroValue3
  t4 := Tryz.underlying4
  a4 := Tryz.isAgg4
  z4 := Tryz.sizeOf4
  v4 := Tryz.zeroValue4
  t9 := Tryz.underlying9
  a9 := Tryz.isAgg9
  z9 := Tryz.sizeOf9
  v9 := Tryz.zeroValue9
  t20 := Tryz.underlying20
  a20 := Tryz.isAgg20
  z20 := Tryz.sizeOf20
  v20 := Tryz.zeroValue20
  t22 := Tryz.underlying23
  a22 := Tryz.isAgg23
  z22 := Tryz.sizeOf23
  v22 := Tryz.zeroValue23
  a24 := Tryz.isAgg3
  z24 := Tryz.sizeOf3
  t25 := Tryz.underlying121
  a25 := Tryz.isAgg121
  z25 := Tryz.sizeOf121
  v25 := Tryz.zeroValue121 }
end Go.Proofs.YtghamcomjfholaaGreat
