
/-
  What the walk of a statement is told of an argument that came in: of a slice of ints, that it reads as a list, all of whose numbers fit, and how long it may be.
-/
import Derived.Test.YtnbnnbcjlfdlpaaRows
import Derived.Test.YtnbnnbcjlfdlpaaBase
import Derived.SizedLaws
import Derived.ChangeOld
namespace Go.Proofs.Ytnbnnbcjlfdlpaa
open Go.ChangeShapes Go.WideShapes Go.ChangeAt Go.RowKit

theorem ownK : ownKnob Try.prog.godebug = none := by kernel_rfl
theorem laidOut : laidOutB Try.prog = true := by kernel_rfl

/-- What a cell that holds a slice of ints reads as. -/
theorem trod_rowI {H : Type} {enc : TypeId × Value → H} {W : World} {fuel : Nat} {cs : List Value} {X : DataW H × List MemPlace}
    (hf : DataW.trod enc Try.prog W 0 (fun _ => true) true fuel 43 cs = some X) (hfz : W.noneFrozen X.2) (hs : ∀ n ∈ X.1.weights Try.prog 43, n ≤ reachBytes) :
    ∃ (v : Value) (xs : List Int), cs = [v] ∧ RowI 0 W.heap.size W v xs ∧ xs.length * 8 ≤ 140737488351232 ∧ ∀ x ∈ xs, (Lit.int .i64 x).wf = true := by
  have b8 : Try.prog.bytesOf 3 = 8 := by kernel_rfl
  rcases open_ints Try.underlying43 Try.underlying3 (by kernel_rfl) hf with ⟨hcs, _⟩ | ⟨x, len, cap, zs, hcs, _, hl, hm, hz, hx, hcell, hwz⟩
  · exact ⟨_, [], hcs, RowI.nil0, by simp, fun x hx => by cases hx⟩
  · subst hx
    dsimp only at hfz hs
    simp only [if_true] at hz
    have hw : cap * 8 ≤ reachBytes := by
      have := hs ((zs.take len).length * 8 + (zs.drop len).length * 8) (by
        simp only [DataW.weights, Try.underlying43, lits, List.length_map, b8]
        rw [← Nat.add_mul]
        exact List.mem_cons_self)
      simp only [List.length_take, List.length_drop] at this
      omega
    unfold reachBytes at hw
    have hlt : (zs.take len).length = len := by simp; omega
    refine ⟨_, zs.take len, hcs, ⟨_, cap, by rw [hlt], ⟨by rw [hlt]; exact hl, fun h => by cases h⟩, hm, fun hne => ?_⟩, by rw [hlt]; omega, fun y hy => hwz y (List.mem_of_mem_take hy)⟩
    obtain ⟨b, off, spot⟩ := x
    have hlen : 0 < len := by
      have := List.length_pos_iff.2 hne
      omega
    have hspot : spot = none := by simpa [Addr.add] using World.cell?_spot (hcell 0 (by omega))
    subst hspot
    refine ⟨b, off, rfl, Nat.zero_le _, ?_, fun j hj => ⟨?_, ?_⟩⟩
    · exact World.block_lt_of_cell? _ _ (by simpa [Addr.add] using hcell 0 (by omega))
    · have := hcell j (by omega)
      rw [add_plain] at this
      rw [this]
      have h1 : j < len := by omega
      simp [List.getD, h1]
    · exact hfz b (off + j) (MemPlace.mem_row.2 ⟨j, by omega, rfl⟩)
theorem open_rowI {H : Type} {enc : TypeId × Value → H} {W : World} {base : Nat} {v : Value} {d : DataW H} {p : List MemPlace} (hok : Value.okWide Try.prog W .any base 43 v)
    (h : DataW.Trod enc Try.prog W 0 (fun _ => true) true 43 v d p) (hfz : W.noneFrozen p) (hs : ∀ n ∈ d.weights Try.prog 43, n ≤ reachBytes) :
    ∃ xs : List Int, RowI 0 W.heap.size W v xs ∧ xs.length * 8 ≤ 140737488351232 ∧ ∀ x ∈ xs, (Lit.int .i64 x).wf = true := by
  obtain ⟨a0, len, cap, rfl⟩ := okWide_slice Try.underlying43 hok
  obtain ⟨fuel, hf⟩ := h
  obtain ⟨u, xs, e, R⟩ := trod_rowI hf hfz hs
  simp [Value.cells] at e
  subst e
  exact ⟨xs, R⟩
end Go.Proofs.Ytnbnnbcjlfdlpaa
