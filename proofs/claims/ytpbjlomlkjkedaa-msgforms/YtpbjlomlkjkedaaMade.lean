
/-
  make([]int, n) inside a region: what it answers, and what the new row reads as; small numbers that do not wrap.
-/
import Derived.Test.YtpbjlomlkjkedaaIntRow
namespace Go.Proofs.Ytpbjlomlkjkedaa
open Go.ChangeShapes Go.WideShapes Go.ChangeAt Go.RowKit

theorem w64i {n : Int} (h0 : -2000 ≤ n) (h1 : n ≤ 2000) : IntKind.i64.wrap n = n := by
  rw [IntKind.wrap_i64]
  omega

def madeC (N : Nat) : Array Value := madeCells (Value.int .i64 0).cells (N * 1)
theorem madeC_at {N j : Nat} (hj : j < N) : (madeC N)[j]? = some (.int .i64 0) := by
  have e : (madeC N).toList = List.replicate N (Value.int .i64 0) := by
    unfold madeC
    rw [Nat.mul_one]
    exact toList_madeCells_one _ N
  rw [← Array.getElem?_toList, e]
  simp [hj]
theorem made_any {n : Int} {N : Nat} (hN : n = (N : Int)) (hb : N ≤ 4096) (W : World) :
    (Instr.makeSlice 22 (.int .i64 n) (.int .i64 n)).run Try.prog W = .ok (.slice (some ⟨W.heap.size, 0, none⟩) N N) (W.alloc (.cells (madeC N) 3)) := by
  obtain ⟨i0, hi, hz0, hz1, hz2⟩ := info_parts Try.info3
  subst hN
  have hr := run_make (P := Try.prog) W 22 3 i0 (.int .i64 0) Try.underlying22 hi hz0 .i64 .i64 N N (by omega) (Int.le_refl _) (by rw [hz2]; omega) (by omega)
  rw [hz1, Int.toNat_natCast] at hr
  exact hr
theorem rowI_made {W : World} {b N : Nat} (hN : N ≤ 4096) (h : Box W b (madeC N)) : RowI 0 W.heap.size W (.slice (some ⟨b, 0, none⟩) N N) (List.replicate N 0) := by
  refine ⟨_, N, by rw [List.length_replicate], ⟨by rw [List.length_replicate]; exact Nat.le_refl _, fun h => by cases h⟩, by unfold maxLen; omega, fun _ => ⟨b, 0, rfl, Nat.zero_le _, h.1, fun j hj => ⟨?_, ?_⟩⟩⟩
  · rw [List.length_replicate] at hj
    rw [Nat.zero_add, h.2.1 j, madeC_at hj]
    simp [List.getD, hj]
  · rw [Nat.zero_add]
    exact h.2.2 j
theorem rowI_one {W : World} {b : Nat} {x : Int} (h : Box W b #[.int .i64 x]) : RowI 0 W.heap.size W (.slice (some ⟨b, 0, none⟩) 1 1) [x] :=
  (Box.rowI [x] h rfl rfl (by simp [maxLen])).wide (Nat.zero_le _) h.1

end Go.Proofs.Ytpbjlomlkjkedaa
