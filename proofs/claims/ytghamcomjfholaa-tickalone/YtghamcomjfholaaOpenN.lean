
/-
  What the walk of a statement is told of a slice of peers that came in: that it reads as a list, all of whose numbers fit, and how long it may be.
-/
import Derived.Test.YtghamcomjfholaaOpen
import Derived.Test.YtghamcomjfholaaPeerRow
import Derived.Deep.Slices
import Derived.Test.YtghamcomjfholaaItemRow
import Derived.Test.YtghamcomjfholaaOld
import Derived.Test.YtghamcomjfholaaRowBox
namespace Go.Proofs.Ytghamcomjfholaa
open Go.ChangeShapes Go.WideShapes Go.ChangeAt Go.RowKit Go.Deep

set_option maxRecDepth 20000 in
/-- What two cells of a peer read as. -/
theorem trod_peer {H : Type} {enc : TypeId × Value → H} {W : World} {base : Nat} {sp : TypeId → Bool} {held : Bool} {fuel : Nat} {cs : List Value} {x : DataW H × List MemPlace}
    (h : DataW.trod enc Try.prog W base sp held fuel 51 cs = some x) :
    ∃ i : Pe, cs = PeV i ∧ PeW i := by
  have hC : Try.prog.cellsOf 51 = 2 := by kernel_rfl
  have hI : Try.prog.cellsOf 3 = 1 := by kernel_rfl
  obtain ⟨xs, n, _, rfl, hl, hlen, hf⟩ := DataW.trod_struct Try.underlying51 h
  rw [hC] at hl
  match cs, hl, xs, hlen with
  | [c0, c1], _, [y0, y1], _ =>
  have g0 := hf 0 _ rfl
  have g1 := hf 1 _ rfl
  simp [hI] at g0 g1
  obtain ⟨k, e0, -, wk⟩ := DataW.trod_int Try.underlying3 g0
  obtain ⟨c, e1, -, wc⟩ := DataW.trod_int Try.underlying3 g1
  simp at e0 e1
  subst e0 e1
  exact ⟨⟨k, c⟩, rfl, wk, wc⟩

set_option maxRecDepth 20000 in
/-- What a cell that holds a slice of peers reads as. -/
theorem trod_rowP {H : Type} {enc : TypeId × Value → H} {W : World} {fuel : Nat} {cs : List Value} {X : DataW H × List MemPlace}
    (hf : DataW.trod enc Try.prog W 0 (fun _ => true) true fuel 23 cs = some X) (hfz : W.noneFrozen X.2) (hs : ∀ n ∈ X.1.weights Try.prog 23, n ≤ reachBytes) :
    ∃ (v : Value) (xs : List Pe), cs = [v] ∧ RowP 0 W.heap.size W v xs ∧ xs.length * 16 ≤ 140737488351232 ∧ ∀ x ∈ xs, PeW x := by
  have b16 : Try.prog.bytesOf 51 = 16 := by kernel_rfl
  have hC : Try.prog.cellsOf 51 = 2 := by kernel_rfl
  rcases open_slice Try.underlying23 hf with ⟨hcs, _⟩ | ⟨x, len, c, m, n, D, Pl, hcs, _, hl, hm, hmm, hx, hcell⟩
  · exact ⟨_, [], hcs, RowC.nil0, by simp, fun x hx => by cases hx⟩
  · simp only [if_true] at hmm
    subst hmm hx
    dsimp only at hfz hs
    rw [hC] at hcell hfz
    have hw : m * 16 ≤ reachBytes := by
      have := hs (len * 16 + (m - len) * 16) (by
        simp only [DataW.weights, Try.underlying23, List.length_map, List.length_range, b16]
        rw [← Nat.add_mul]
        exact List.mem_cons_self)
      omega
    unfold reachBytes at hw
    obtain ⟨f, hF⟩ := choose_lt (α := Pe) (n := m) (p := fun i z => (∀ j, j < 2 → W.cell? (x.add (i * 2 + j)) = (PeV z)[j]?) ∧ PeW z) (fun i hi => by
      obtain ⟨cs', h1, h2⟩ := hcell i hi
      obtain ⟨_, _, h3⟩ := World.cells?_some h1
      obtain ⟨z, rfl, wz⟩ := trod_peer h2
      refine ⟨z, fun j hj => ?_, wz⟩
      rw [← Addr.add_add]
      exact h3 j hj)
    refine ⟨_, (List.range len).map f, hcs, ⟨some x, m, by simp, ⟨by simpa using hl, fun h => by cases h⟩, hm, fun hne => ?_⟩, by simp; omega, ?_⟩
    · obtain ⟨b, off, spot⟩ := x
      have hlen : 0 < len := by
        rcases Nat.eq_zero_or_pos len with h0 | h0
        · rw [h0] at hne; exact absurd rfl hne
        · exact h0
      have h00 := (hF 0 (by omega)).1 0 (by omega)
      simp only [PeV, List.getElem?_cons_zero] at h00
      have hspot : spot = none := by simpa [Addr.add] using World.cell?_spot h00
      subst hspot
      refine ⟨b, off, rfl, Nat.zero_le _, ?_, fun j hj => ⟨?_, ?_⟩⟩
      · exact World.block_lt_of_cell? _ _ (by simpa [Addr.add] using h00)
      · simp only [List.length_map, List.length_range] at hj
        have hq : j / 2 < len := by omega
        have e1 : j = j / 2 * 2 + j % 2 := by omega
        have h1 := (hF (j / 2) (by omega)).1 (j % 2) (by omega)
        rw [← e1, add_plain] at h1
        rw [h1]
        have h2 := flat_at PeV_len ((List.range len).map f) (j / 2) (j % 2) (by simpa using hq) (by omega)
        rw [← e1] at h2
        rw [h2]
        simp
      · simp only [List.length_map, List.length_range] at hj
        exact hfz b (off + j) (List.mem_append_left _ (MemPlace.mem_row.2 ⟨j, by omega, rfl⟩))
    · intro z hz
      obtain ⟨i, hi, rfl⟩ := List.mem_map.1 hz
      have := List.mem_range.1 hi
      exact (hF i (by omega)).2

end Go.Proofs.Ytghamcomjfholaa

namespace Go.Proofs.Ytghamcomjfholaa
open Go.ChangeShapes Go.WideShapes Go.ChangeAt Go.RowKit Go.Deep

/-- A view as it came in: its numbers, and where its lists lie. -/
structure VwO where
  i : Int
  ps : List Pe
  is : List Int
  p : Value
  q : Value

set_option maxRecDepth 20000 in
theorem trod_view {H : Type} {enc : TypeId × Value → H} {W : World} {fuel : Nat} {cs : List Value} {X : DataW H × List MemPlace}
    (hf : DataW.trod enc Try.prog W 0 (fun _ => true) true fuel 26 cs = some X) (hfz : W.noneFrozen X.2) (hs : ∀ n ∈ X.1.weights Try.prog 26, n ≤ reachBytes) :
    ∃ x : VwO, cs = [.int .i64 x.i, x.p, x.q] ∧ (Lit.int .i64 x.i).wf = true ∧ VwAt 0 W.heap.size W x.p x.q x.ps x.is ∧ x.ps.length * 16 ≤ 140737488351232 ∧ x.is.length * 8 ≤ 140737488351232 ∧ (∀ y ∈ x.ps, PeW y) ∧ ∀ y ∈ x.is, (Lit.int .i64 y).wf = true := by
  have hC : Try.prog.cellsOf 26 = 3 := by kernel_rfl
  have hI : Try.prog.cellsOf 3 = 1 := by kernel_rfl
  have hP : Try.prog.cellsOf 23 = 1 := by kernel_rfl
  have hQ : Try.prog.cellsOf 24 = 1 := by kernel_rfl
  obtain ⟨xs, n, _, rfl, hl, hlen, hf⟩ := DataW.trod_struct Try.underlying26 hf
  rw [hC] at hl
  match cs, hl, xs, hlen with
  | [c0, c1, c2], _, [y0, y1, y2], _ =>
  have g0 := hf 0 _ rfl
  have g1 := hf 1 _ rfl
  have g2 := hf 2 _ rfl
  simp [hI, hP, hQ] at g0 g1 g2
  simp only [DataW.weights, Try.underlying26, List.map_cons, List.map_nil, DataW.weightsEach, List.mem_append] at hs
  simp only [List.flatMap_cons, List.flatMap_nil, List.append_nil] at hfz
  obtain ⟨k, e0, -, wk⟩ := DataW.trod_int Try.underlying3 g0
  obtain ⟨v1, ps, e1, R1, s1, w1⟩ := trod_rowP g1 (fun b off hm => hfz b off (by simp [hm])) (fun n hn => hs n (.inr (.inl hn)))
  obtain ⟨v2, is, e2, R2, s2, w2⟩ := trod_rowI g2 (fun b off hm => hfz b off (by simp [hm])) (fun n hn => hs n (.inr (.inr (.inl hn))))
  simp at e0 e1 e2
  subst e0 e1 e2
  exact ⟨⟨k, ps, is, c1, c2⟩, rfl, wk, ⟨R1, R2⟩, s1, s2, w1, w2⟩

end Go.Proofs.Ytghamcomjfholaa

namespace Go.Proofs.Ytghamcomjfholaa
open Go.ChangeShapes Go.WideShapes Go.ChangeAt Go.RowKit Go.Deep

set_option maxRecDepth 20000 in
/-- What three cells of a note read as. -/
theorem trod_note {H : Type} {enc : TypeId × Value → H} {W : World} {base : Nat} {sp : TypeId → Bool} {held : Bool} {fuel : Nat} {cs : List Value} {x : DataW H × List MemPlace}
    (h : DataW.trod enc Try.prog W base sp held fuel 69 cs = some x) :
    ∃ i : Te, cs = TeV i ∧ TeW i := by
  have hC : Try.prog.cellsOf 69 = 3 := by kernel_rfl
  have hI : Try.prog.cellsOf 3 = 1 := by kernel_rfl
  have hB : Try.prog.cellsOf 4 = 1 := by kernel_rfl
  obtain ⟨xs, n, _, rfl, hl, hlen, hf⟩ := DataW.trod_struct Try.underlying69 h
  rw [hC] at hl
  match cs, hl, xs, hlen with
  | [c0, c1, c2], _, [y0, y1, y2], _ =>
  have g0 := hf 0 _ rfl
  have g1 := hf 1 _ rfl
  have g2 := hf 2 _ rfl
  simp [hI, hB] at g0 g1 g2
  obtain ⟨k, e0, -, wk⟩ := DataW.trod_int Try.underlying3 g0
  obtain ⟨b, e1, -⟩ := DataW.trod_bool Try.underlying4 g1
  obtain ⟨c, e2, -, wc⟩ := DataW.trod_int Try.underlying3 g2
  simp at e0 e1 e2
  subst e0 e1 e2
  exact ⟨⟨k, b, c⟩, rfl, wk, wc⟩

set_option maxRecDepth 20000 in
/-- What a cell that holds a slice of notes reads as. -/
theorem trod_rowE {H : Type} {enc : TypeId × Value → H} {W : World} {fuel : Nat} {cs : List Value} {X : DataW H × List MemPlace}
    (hf : DataW.trod enc Try.prog W 0 (fun _ => true) true fuel 28 cs = some X) (hfz : W.noneFrozen X.2) (hs : ∀ n ∈ X.1.weights Try.prog 28, n ≤ reachBytes) :
    ∃ (v : Value) (xs : List Te), cs = [v] ∧ RowE 0 W.heap.size W v xs ∧ xs.length * 24 ≤ 140737488351232 ∧ ∀ x ∈ xs, TeW x := by
  have b24 : Try.prog.bytesOf 69 = 24 := by kernel_rfl
  have hC : Try.prog.cellsOf 69 = 3 := by kernel_rfl
  rcases open_slice Try.underlying28 hf with ⟨hcs, _⟩ | ⟨x, len, c, m, n, D, Pl, hcs, _, hl, hm, hmm, hx, hcell⟩
  · exact ⟨_, [], hcs, RowC.nil0, by simp, fun x hx => by cases hx⟩
  · simp only [if_true] at hmm
    subst hmm hx
    dsimp only at hfz hs
    rw [hC] at hcell hfz
    have hw : m * 24 ≤ reachBytes := by
      have := hs (len * 24 + (m - len) * 24) (by
        simp only [DataW.weights, Try.underlying28, List.length_map, List.length_range, b24]
        rw [← Nat.add_mul]
        exact List.mem_cons_self)
      omega
    unfold reachBytes at hw
    obtain ⟨f, hF⟩ := choose_lt (α := Te) (n := m) (p := fun i z => (∀ j, j < 3 → W.cell? (x.add (i * 3 + j)) = (TeV z)[j]?) ∧ TeW z) (fun i hi => by
      obtain ⟨cs', h1, h2⟩ := hcell i hi
      obtain ⟨_, _, h3⟩ := World.cells?_some h1
      obtain ⟨z, rfl, wz⟩ := trod_note h2
      refine ⟨z, fun j hj => ?_, wz⟩
      rw [← Addr.add_add]
      exact h3 j hj)
    refine ⟨_, (List.range len).map f, hcs, ⟨some x, m, by simp, ⟨by simpa using hl, fun h => by cases h⟩, hm, fun hne => ?_⟩, by simp; omega, ?_⟩
    · obtain ⟨b, off, spot⟩ := x
      have hlen : 0 < len := by
        rcases Nat.eq_zero_or_pos len with h0 | h0
        · rw [h0] at hne; exact absurd rfl hne
        · exact h0
      have h00 := (hF 0 (by omega)).1 0 (by omega)
      simp only [TeV, List.getElem?_cons_zero] at h00
      have hspot : spot = none := by simpa [Addr.add] using World.cell?_spot h00
      subst hspot
      refine ⟨b, off, rfl, Nat.zero_le _, ?_, fun j hj => ⟨?_, ?_⟩⟩
      · exact World.block_lt_of_cell? _ _ (by simpa [Addr.add] using h00)
      · simp only [List.length_map, List.length_range] at hj
        have hq : j / 3 < len := by omega
        have e1 : j = j / 3 * 3 + j % 3 := by omega
        have h1 := (hF (j / 3) (by omega)).1 (j % 3) (by omega)
        rw [← e1, add_plain] at h1
        rw [h1]
        have h2 := flat_at TeV_len ((List.range len).map f) (j / 3) (j % 3) (by simpa using hq) (by omega)
        rw [← e1] at h2
        rw [h2]
        simp
      · simp only [List.length_map, List.length_range] at hj
        exact hfz b (off + j) (List.mem_append_left _ (MemPlace.mem_row.2 ⟨j, by omega, rfl⟩))
    · intro z hz
      obtain ⟨i, hi, rfl⟩ := List.mem_map.1 hz
      have := List.mem_range.1 hi
      exact (hF i (by omega)).2

set_option maxRecDepth 20000 in
/-- What a cell that holds a slice of items reads as. -/
theorem trod_rowT {H : Type} {enc : TypeId × Value → H} {W : World} {fuel : Nat} {cs : List Value} {X : DataW H × List MemPlace}
    (hf : DataW.trod enc Try.prog W 0 (fun _ => true) true fuel 27 cs = some X) (hfz : W.noneFrozen X.2) (hs : ∀ n ∈ X.1.weights Try.prog 27, n ≤ reachBytes) :
    ∃ (v : Value) (xs : List It), cs = [v] ∧ RowT 0 W.heap.size W v xs ∧ xs.length * 40 ≤ 140737488351232 ∧ ∀ x ∈ xs, ItW x := by
  have b40 : Try.prog.bytesOf 35 = 40 := by kernel_rfl
  have hC : Try.prog.cellsOf 35 = 5 := by kernel_rfl
  rcases open_slice Try.underlying27 hf with ⟨hcs, _⟩ | ⟨x, len, c, m, n, D, Pl, hcs, _, hl, hm, hmm, hx, hcell⟩
  · exact ⟨_, [], hcs, RowC.nil0, by simp, fun x hx => by cases hx⟩
  · simp only [if_true] at hmm
    subst hmm hx
    dsimp only at hfz hs
    rw [hC] at hcell hfz
    have hw : m * 40 ≤ reachBytes := by
      have := hs (len * 40 + (m - len) * 40) (by
        simp only [DataW.weights, Try.underlying27, List.length_map, List.length_range, b40]
        rw [← Nat.add_mul]
        exact List.mem_cons_self)
      omega
    unfold reachBytes at hw
    obtain ⟨f, hF⟩ := choose_lt (α := It) (n := m) (p := fun i z => (∀ j, j < 5 → W.cell? (x.add (i * 5 + j)) = (ItV z)[j]?) ∧ ItW z) (fun i hi => by
      obtain ⟨cs', h1, h2⟩ := hcell i hi
      obtain ⟨_, _, h3⟩ := World.cells?_some h1
      obtain ⟨z, rfl, wz⟩ := trod_item h2
      refine ⟨z, fun j hj => ?_, wz⟩
      rw [← Addr.add_add]
      exact h3 j hj)
    refine ⟨_, (List.range len).map f, hcs, ⟨some x, m, by simp, ⟨by simpa using hl, fun h => by cases h⟩, hm, fun hne => ?_⟩, by simp; omega, ?_⟩
    · obtain ⟨b, off, spot⟩ := x
      have hlen : 0 < len := by
        rcases Nat.eq_zero_or_pos len with h0 | h0
        · rw [h0] at hne; exact absurd rfl hne
        · exact h0
      have h00 := (hF 0 (by omega)).1 0 (by omega)
      simp only [ItV, List.getElem?_cons_zero] at h00
      have hspot : spot = none := by simpa [Addr.add] using World.cell?_spot h00
      subst hspot
      refine ⟨b, off, rfl, Nat.zero_le _, ?_, fun j hj => ⟨?_, ?_⟩⟩
      · exact World.block_lt_of_cell? _ _ (by simpa [Addr.add] using h00)
      · simp only [List.length_map, List.length_range] at hj
        have hq : j / 5 < len := by omega
        have e1 : j = j / 5 * 5 + j % 5 := by omega
        have h1 := (hF (j / 5) (by omega)).1 (j % 5) (by omega)
        rw [← e1, add_plain] at h1
        rw [h1]
        have h2 := flat_at ItV_len ((List.range len).map f) (j / 5) (j % 5) (by simpa using hq) (by omega)
        rw [← e1] at h2
        rw [h2]
        simp
      · simp only [List.length_map, List.length_range] at hj
        exact hfz b (off + j) (List.mem_append_left _ (MemPlace.mem_row.2 ⟨j, by omega, rfl⟩))
    · intro z hz
      obtain ⟨i, hi, rfl⟩ := List.mem_map.1 hz
      have := List.mem_range.1 hi
      exact (hF i (by omega)).2

/-- A node as it came in: its flag and number, its lists, and where they lie. -/
structure NdO where
  up : Bool
  v : VwO
  ts : List It
  ls : List Te
  r : Value
  s : Value

set_option maxRecDepth 20000 in
theorem trod_node {H : Type} {enc : TypeId × Value → H} {W : World} {fuel : Nat} {cs : List Value} {X : DataW H × List MemPlace}
    (hf : DataW.trod enc Try.prog W 0 (fun _ => true) true fuel 30 cs = some X) (hfz : W.noneFrozen X.2) (hs : ∀ n ∈ X.1.weights Try.prog 30, n ≤ reachBytes) :
    ∃ x : NdO, cs = [.bool x.up, .int .i64 x.v.i, x.v.p, x.v.q, x.r, x.s] ∧ NdAt 0 W.heap.size W x.v.p x.v.q x.r x.s x.v.ps x.v.is x.ts x.ls ∧ x.v.ps.length * 16 ≤ 140737488351232 ∧ x.v.is.length * 8 ≤ 140737488351232 ∧ x.ts.length * 40 ≤ 140737488351232 ∧ x.ls.length * 24 ≤ 140737488351232 ∧
      (Lit.int .i64 x.v.i).wf = true ∧ (∀ y ∈ x.v.ps, PeW y) ∧ (∀ y ∈ x.v.is, (Lit.int .i64 y).wf = true) ∧ (∀ y ∈ x.ts, ItW y) ∧ ∀ y ∈ x.ls, TeW y := by
  have hC : Try.prog.cellsOf 30 = 6 := by kernel_rfl
  have hB : Try.prog.cellsOf 4 = 1 := by kernel_rfl
  have hV : Try.prog.cellsOf 26 = 3 := by kernel_rfl
  have hT : Try.prog.cellsOf 27 = 1 := by kernel_rfl
  have hL : Try.prog.cellsOf 28 = 1 := by kernel_rfl
  obtain ⟨xs, n, _, rfl, hl, hlen, hf⟩ := DataW.trod_struct Try.underlying30 hf
  rw [hC] at hl
  match cs, hl, xs, hlen with
  | [c0, c1, c2, c3, c4, c5], _, [y0, y1, y2, y3], _ =>
  have g0 := hf 0 _ rfl
  have g1 := hf 1 _ rfl
  have g2 := hf 2 _ rfl
  have g3 := hf 3 _ rfl
  simp [hB, hV, hT, hL] at g0 g1 g2 g3
  simp only [DataW.weights, Try.underlying30, List.map_cons, List.map_nil, DataW.weightsEach, List.mem_append] at hs
  simp only [List.flatMap_cons, List.flatMap_nil, List.append_nil] at hfz
  obtain ⟨b, e0, -⟩ := DataW.trod_bool Try.underlying4 g0
  obtain ⟨x, e1, wk, V1, s1, s2, w1, w2⟩ := trod_view g1 (fun b off hm => hfz b off (by simp [hm])) (fun n hn => hs n (.inr (.inl hn)))
  obtain ⟨v2, ts, e2, R2, s3, w3⟩ := trod_rowT g2 (fun b off hm => hfz b off (by simp [hm])) (fun n hn => hs n (.inr (.inr (.inl hn))))
  obtain ⟨v3, ls, e3, R3, s4, w4⟩ := trod_rowE g3 (fun b off hm => hfz b off (by simp [hm])) (fun n hn => hs n (.inr (.inr (.inr (.inl hn)))))
  simp at e0 e1 e2 e3
  obtain ⟨e1, e4, e5⟩ := e1
  subst e0 e1 e2 e3 e4 e5
  exact ⟨⟨b, x, ts, ls, c4, c5⟩, rfl, ⟨V1, R2, R3⟩, s1, s2, s3, s4, wk, w1, w2, w3, w4⟩

set_option maxRecDepth 20000 in
theorem open_node {H : Type} {enc : TypeId × Value → H} {W : World} {base : Nat} {v : Value} {d : DataW H} {p : List MemPlace} (hok : Value.okWide Try.prog W .any base 30 v)
    (h : DataW.Trod enc Try.prog W 0 (fun _ => true) true 30 v d p) (hfz : W.noneFrozen p) (hs : ∀ n ∈ d.weights Try.prog 30, n ≤ reachBytes) :
    ∃ x : NdO, v = .agg #[.bool x.up, .int .i64 x.v.i, x.v.p, x.v.q, x.r, x.s] ∧ NdAt 0 W.heap.size W x.v.p x.v.q x.r x.s x.v.ps x.v.is x.ts x.ls ∧ x.v.ps.length * 16 ≤ 140737488351232 ∧ x.v.is.length * 8 ≤ 140737488351232 ∧ x.ts.length * 40 ≤ 140737488351232 ∧ x.ls.length * 24 ≤ 140737488351232 ∧
      (Lit.int .i64 x.v.i).wf = true ∧ (∀ y ∈ x.v.ps, PeW y) ∧ (∀ y ∈ x.v.is, (Lit.int .i64 y).wf = true) ∧ (∀ y ∈ x.ts, ItW y) ∧ ∀ y ∈ x.ls, TeW y := by
  obtain ⟨cs, rfl, _⟩ := okWide_struct Try.underlying30 hok
  obtain ⟨fuel, hf⟩ := h
  obtain ⟨x, e, R⟩ := trod_node hf hfz hs
  obtain ⟨l⟩ := cs
  simp [Value.cells] at e
  subst e
  exact ⟨x, rfl, R⟩

end Go.Proofs.Ytghamcomjfholaa
