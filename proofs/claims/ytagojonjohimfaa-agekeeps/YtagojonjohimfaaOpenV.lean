
/-
  What the walk of a statement is told of a view that came in: that its lists read as lists, all of whose numbers fit, and how long they may be.
-/
import Derived.Test.YtagojonjohimfaaOpenP
import Derived.Test.YtagojonjohimfaaViewRow
namespace Go.Proofs.Ytagojonjohimfaa
open Go.ChangeShapes Go.WideShapes Go.ChangeAt Go.RowKit Go.Deep

/-- A view as it came in: its numbers, and where its lists lie. -/
structure VwO where
  i : Int
  ps : List Pe
  is : List Int
  p : Value
  q : Value

theorem trod_view {H : Type} {enc : TypeId × Value → H} {W : World} {fuel : Nat} {cs : List Value} {X : DataW H × List MemPlace}
    (hf : DataW.trod enc Try.prog W 0 (fun _ => true) true fuel 25 cs = some X) (hfz : W.noneFrozen X.2) (hs : ∀ n ∈ X.1.weights Try.prog 25, n ≤ reachBytes) :
    ∃ x : VwO, cs = [.int .i64 x.i, x.p, x.q] ∧ (Lit.int .i64 x.i).wf = true ∧ VwAt 0 W.heap.size W x.p x.q x.ps x.is ∧ x.ps.length * 16 ≤ 140737488351232 ∧ x.is.length * 8 ≤ 140737488351232 ∧ (∀ y ∈ x.ps, PeW y) ∧ ∀ y ∈ x.is, (Lit.int .i64 y).wf = true := by
  have hC : Try.prog.cellsOf 25 = 3 := by kernel_rfl
  have hI : Try.prog.cellsOf 3 = 1 := by kernel_rfl
  have hP : Try.prog.cellsOf 22 = 1 := by kernel_rfl
  have hQ : Try.prog.cellsOf 23 = 1 := by kernel_rfl
  obtain ⟨xs, n, _, rfl, hl, hlen, hf⟩ := DataW.trod_struct Try.underlying25 hf
  rw [hC] at hl
  match cs, hl, xs, hlen with
  | [c0, c1, c2], _, [y0, y1, y2], _ =>
  have g0 := hf 0 _ rfl
  have g1 := hf 1 _ rfl
  have g2 := hf 2 _ rfl
  simp [hI, hP, hQ] at g0 g1 g2
  simp only [DataW.weights, Try.underlying25, List.map_cons, List.map_nil, DataW.weightsEach, List.mem_append] at hs
  simp only [List.flatMap_cons, List.flatMap_nil, List.append_nil] at hfz
  obtain ⟨k, e0, -, wk⟩ := DataW.trod_int Try.underlying3 g0
  obtain ⟨v1, ps, e1, R1, s1, w1⟩ := trod_rowP g1 (fun b off hm => hfz b off (by simp [hm])) (fun n hn => hs n (.inr (.inl hn)))
  obtain ⟨v2, is, e2, R2, s2, w2⟩ := trod_rowI g2 (fun b off hm => hfz b off (by simp [hm])) (fun n hn => hs n (.inr (.inr (.inl hn))))
  simp at e0 e1 e2
  subst e0 e1 e2
  exact ⟨⟨k, ps, is, c1, c2⟩, rfl, wk, ⟨R1, R2⟩, s1, s2, w1, w2⟩

theorem open_view {H : Type} {enc : TypeId × Value → H} {W : World} {base : Nat} {v : Value} {d : DataW H} {p : List MemPlace} (hok : Value.okWide Try.prog W .any base 25 v)
    (h : DataW.Trod enc Try.prog W 0 (fun _ => true) true 25 v d p) (hfz : W.noneFrozen p) (hs : ∀ n ∈ d.weights Try.prog 25, n ≤ reachBytes) :
    ∃ x : VwO, v = .agg #[.int .i64 x.i, x.p, x.q] ∧ (Lit.int .i64 x.i).wf = true ∧ VwAt 0 W.heap.size W x.p x.q x.ps x.is ∧ x.ps.length * 16 ≤ 140737488351232 ∧ x.is.length * 8 ≤ 140737488351232 ∧ (∀ y ∈ x.ps, PeW y) ∧ ∀ y ∈ x.is, (Lit.int .i64 y).wf = true := by
  obtain ⟨cs, rfl, _⟩ := okWide_struct Try.underlying25 hok
  obtain ⟨fuel, hf⟩ := h
  obtain ⟨x, e, R⟩ := trod_view hf hfz hs
  obtain ⟨l⟩ := cs
  simp [Value.cells] at e
  subst e
  exact ⟨x, rfl, R⟩
end Go.Proofs.Ytagojonjohimfaa
