
/-
  What the walk of a statement is told of a message that came in: that its list reads as a list, all of whose numbers fit, and how long it may be.
-/
import Derived.Test.YtnnhnidefjhakaaOpen
import Derived.Deep.Slices
namespace Go.Proofs.Ytnnhnidefjhakaa
open Go.ChangeShapes Go.WideShapes Go.ChangeAt Go.RowKit Go.Deep

/-- A message as it came in: its numbers, and where its list lies. -/
structure MgO where
  n : Int
  a : Int
  b : Int
  is : List Int
  k : Int
  t : It
  h : Bool
  v : Value

theorem trod_msg {H : Type} {enc : TypeId × Value → H} {W : World} {fuel : Nat} {cs : List Value} {X : DataW H × List MemPlace}
    (hf : DataW.trod enc Try.prog W 0 (fun _ => true) true fuel 29 cs = some X) (hfz : W.noneFrozen X.2) (hs : ∀ n ∈ X.1.weights Try.prog 29, n ≤ reachBytes) :
    ∃ x : MgO, cs = [.int .i64 x.n, .int .i64 x.a, .int .i64 x.b, x.v, .int .i64 x.k, .int .i64 x.t.k, .int .i64 x.t.c, .int .i64 x.t.u, .int .i64 x.t.x, .bool x.t.g, .bool x.h] ∧ RowI 0 W.heap.size W x.v x.is ∧ x.is.length * 8 ≤ 140737488351232 := by
  have hC : Try.prog.cellsOf 29 = 11 := by kernel_rfl
  have hI : Try.prog.cellsOf 3 = 1 := by kernel_rfl
  have hT : Try.prog.cellsOf 27 = 5 := by kernel_rfl
  have hB : Try.prog.cellsOf 4 = 1 := by kernel_rfl
  have hQ : Try.prog.cellsOf 23 = 1 := by kernel_rfl
  obtain ⟨xs, n, _, rfl, hl, hlen, hf⟩ := DataW.trod_struct Try.underlying29 hf
  rw [hC] at hl
  match cs, hl, xs, hlen with
  | [c0, c1, c2, c3, c4, c5, c6, c7, c8, c9, c10], _, [y0, y1, y2, y3, y4, y5, y6], _ =>
  have g0 := hf 0 _ rfl
  have g1 := hf 1 _ rfl
  have g2 := hf 2 _ rfl
  have g3 := hf 3 _ rfl
  have g4 := hf 4 _ rfl
  have g5 := hf 5 _ rfl
  have g6 := hf 6 _ rfl
  simp [hI, hQ, hT, hB] at g0 g1 g2 g3 g4 g5 g6
  simp only [DataW.weights, Try.underlying29, List.map_cons, List.map_nil, DataW.weightsEach, List.mem_append] at hs
  simp only [List.flatMap_cons, List.flatMap_nil, List.append_nil] at hfz
  obtain ⟨k0, e0, -, -⟩ := DataW.trod_int Try.underlying3 g0
  obtain ⟨k1, e1, -, -⟩ := DataW.trod_int Try.underlying3 g1
  obtain ⟨k2, e2, -, -⟩ := DataW.trod_int Try.underlying3 g2
  obtain ⟨v3, is, e3, R3, s3, -⟩ := trod_rowI g3 (fun b off hm => hfz b off (by simp [hm])) (fun n hn => hs n (.inr (.inr (.inr (.inl hn)))))
  obtain ⟨k4, e4, -, -⟩ := DataW.trod_int Try.underlying3 g4
  obtain ⟨z, e5, -⟩ := trod_item g5
  obtain ⟨k6, e6, -⟩ := DataW.trod_bool Try.underlying4 g6
  simp at e0 e1 e2 e3 e4 e5 e6
  obtain ⟨rfl, rfl, rfl, rfl, rfl⟩ := e5
  subst e0 e1 e2 e3 e4 e6
  exact ⟨⟨k0, k1, k2, is, k4, z, k6, c3⟩, rfl, R3, s3⟩

theorem open_msg {H : Type} {enc : TypeId × Value → H} {W : World} {base : Nat} {v : Value} {d : DataW H} {p : List MemPlace} (hok : Value.okWide Try.prog W .any base 29 v)
    (h : DataW.Trod enc Try.prog W 0 (fun _ => true) true 29 v d p) (hfz : W.noneFrozen p) (hs : ∀ n ∈ d.weights Try.prog 29, n ≤ reachBytes) :
    ∃ x : MgO, v = .agg #[.int .i64 x.n, .int .i64 x.a, .int .i64 x.b, x.v, .int .i64 x.k, .int .i64 x.t.k, .int .i64 x.t.c, .int .i64 x.t.u, .int .i64 x.t.x, .bool x.t.g, .bool x.h] ∧ RowI 0 W.heap.size W x.v x.is ∧ x.is.length * 8 ≤ 140737488351232 := by
  obtain ⟨cs, rfl, _⟩ := okWide_struct Try.underlying29 hok
  obtain ⟨fuel, hf⟩ := h
  obtain ⟨x, e, R⟩ := trod_msg hf hfz hs
  obtain ⟨l⟩ := cs
  simp [Value.cells] at e
  subst e
  exact ⟨x, rfl, R⟩
end Go.Proofs.Ytnnhnidefjhakaa
