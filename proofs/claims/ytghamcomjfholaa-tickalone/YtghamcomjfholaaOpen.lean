
/-
  What the walk of a statement is told of an argument that came in: of a slice of ints, that it reads as a list, all of whose numbers fit, and how long it may be.
-/
import Derived.Test.YtghamcomjfholaaRows
import Derived.Test.YtghamcomjfholaaOnly
import Derived.SizedLaws
import Derived.ChangeOld
namespace Go.Proofs.Ytghamcomjfholaa
open Go.ChangeShapes Go.WideShapes Go.ChangeAt Go.RowKit

theorem ownK : ownKnob Try.prog.godebug = none := by kernel_rfl
theorem laidOut : laidOutB Try.prog = true := by kernel_rfl

set_option maxRecDepth 20000 in
/-- What a cell that holds a slice of ints reads as. -/
theorem trod_rowI {H : Type} {enc : TypeId × Value → H} {W : World} {fuel : Nat} {cs : List Value} {X : DataW H × List MemPlace}
    (hf : DataW.trod enc Try.prog W 0 (fun _ => true) true fuel 24 cs = some X) (hfz : W.noneFrozen X.2) (hs : ∀ n ∈ X.1.weights Try.prog 24, n ≤ reachBytes) :
    ∃ (v : Value) (xs : List Int), cs = [v] ∧ RowI 0 W.heap.size W v xs ∧ xs.length * 8 ≤ 140737488351232 ∧ ∀ x ∈ xs, (Lit.int .i64 x).wf = true := by
  have b8 : Try.prog.bytesOf 3 = 8 := by kernel_rfl
  rcases open_ints Try.underlying24 Try.underlying3 (by kernel_rfl) hf with ⟨hcs, _⟩ | ⟨x, len, cap, zs, hcs, _, hl, hm, hz, hx, hcell, hwz⟩
  · exact ⟨_, [], hcs, RowI.nil0, by simp, fun x hx => by cases hx⟩
  · subst hx
    dsimp only at hfz hs
    simp only [if_true] at hz
    have hw : cap * 8 ≤ reachBytes := by
      have := hs ((zs.take len).length * 8 + (zs.drop len).length * 8) (by
        simp only [DataW.weights, Try.underlying24, lits, List.length_map, b8]
        rw [← Nat.add_mul]
        exact List.mem_cons_self)
      simp only [List.length_take, List.length_drop] at this
      omega
    unfold reachBytes at hw
    have hlt : (zs.take len).length = len := by simp; omega
    refine ⟨_, zs.take len, hcs, ⟨_, cap, by rw [hlt], ⟨by rw [hlt]; exact hl, fun h => by cases h⟩, hm, fun hne => ?_⟩, by rw [hlt]; omega, fun y hy => hwz y (List.mem_of_mem_take hy)⟩
    obtain ⟨b, off, spot⟩ := x
    have hlen : 0 < len := by
      have := List.length_pos_iff.2 hne
      omega
    have hspot : spot = none := by simpa [Addr.add] using World.cell?_spot (hcell 0 (by omega))
    subst hspot
    refine ⟨b, off, rfl, Nat.zero_le _, ?_, fun j hj => ⟨?_, ?_⟩⟩
    · exact World.block_lt_of_cell? _ _ (by simpa [Addr.add] using hcell 0 (by omega))
    · have := hcell j (by omega)
      rw [add_plain] at this
      rw [this]
      have h1 : j < len := by omega
      simp [List.getD, h1]
    · exact hfz b (off + j) (MemPlace.mem_row.2 ⟨j, by omega, rfl⟩)
set_option maxRecDepth 20000 in
/-- What five cells of an item read as. -/
theorem trod_item {H : Type} {enc : TypeId × Value → H} {W : World} {base : Nat} {sp : TypeId → Bool} {held : Bool} {fuel : Nat} {cs : List Value} {x : DataW H × List MemPlace}
    (h : DataW.trod enc Try.prog W base sp held fuel 35 cs = some x) :
    ∃ i : It, cs = [.int .i64 i.k, .int .i64 i.c, .int .i64 i.u, .int .i64 i.x, .bool i.g] ∧ ItW i := by
  have hC : Try.prog.cellsOf 35 = 5 := by kernel_rfl
  have hV : Try.prog.cellsOf 33 = 2 := by kernel_rfl
  have hI : Try.prog.cellsOf 3 = 1 := by kernel_rfl
  have hB : Try.prog.cellsOf 4 = 1 := by kernel_rfl
  obtain ⟨xs, n, _, rfl, hl, hlen, hf⟩ := DataW.trod_struct Try.underlying35 h
  rw [hC] at hl
  match cs, hl, xs, hlen with
  | [c0, c1, c2, c3, c4], _, [y0, y1, y2, y3], _ =>
  have g0 := hf 0 _ rfl
  have g1 := hf 1 _ rfl
  have g2 := hf 2 _ rfl
  have g3 := hf 3 _ rfl
  simp [hI, hV, hB] at g0 g1 g2 g3
  obtain ⟨k, e0, -, wk⟩ := DataW.trod_int Try.underlying3 g0
  obtain ⟨z0, z1, m, -, -, q0, q1⟩ := trod_struct2 Try.underlying33 g1
  simp [hI] at q0 q1
  obtain ⟨c, e1, -, wc⟩ := DataW.trod_int Try.underlying3 q0
  obtain ⟨u, e2, -, wu⟩ := DataW.trod_int Try.underlying3 q1
  obtain ⟨y, e3, -, wy⟩ := DataW.trod_int Try.underlying3 g2
  obtain ⟨g, e4, -⟩ := DataW.trod_bool Try.underlying4 g3
  simp at e0 e1 e2 e3 e4
  subst e0 e1 e2 e3 e4
  exact ⟨⟨k, c, u, y, g⟩, rfl, wk, wc, wu, wy⟩

end Go.Proofs.Ytghamcomjfholaa
