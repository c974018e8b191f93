/-
  Functions of the library as they stand in this program: which numbers they bear (the shelf's layings, in plain words).
-/
import Derived.Test.YtgcdbkhicpfklaaRows
import Derived.Shelf.SlicesE.IndexFunc
import Derived.Ground.SlgfProg
namespace Go.Proofs.Ytgcdbkhicpfklaa
open Go.Shelf
def containsL_ren : Go.Shelf.Ren := ⟨fun | 8 => 50 | 6 => 72 | n => n, fun | 22 => 22 | 23 => 3 | 25 => 58 | 4 => 4 | 3 => 3 | 0 => 0 | n => n, fun | n => n⟩
theorem containsL : Go.Proofs.SlLaysH.n8 Try.prog containsL_ren := {
  mixed := by kernel_rfl
  f6 := ⟨Try.f72.name, by decide, Try.func72.trans (congrArg some (by kernel_rfl))⟩
  f8 := ⟨Try.f50.name, by decide, Try.func50.trans (congrArg some (by kernel_rfl))⟩
  t0 := Try.underlying0
  a0 := Try.isAgg0
  z0 := Try.sizeOf0
  v0 := Try.zeroValue0
  t3 := Try.underlying3
  a3 := Try.isAgg3
  z3 := Try.sizeOf3
  v3 := Try.zeroValue3
  t4 := Try.underlying4
  a4 := Try.isAgg4
  z4 := Try.sizeOf4
  v4 := Try.zeroValue4
  t22 := Try.underlying22
  a22 := Try.isAgg22
  z22 := Try.sizeOf22
  v22 := Try.zeroValue22
  a23 := Try.isAgg3
  z23 := Try.sizeOf3
  t25 := Try.underlying58
  a25 := Try.isAgg58
  z25 := Try.sizeOf58
  v25 := Try.zeroValue58 }
end Go.Proofs.Ytgcdbkhicpfklaa
