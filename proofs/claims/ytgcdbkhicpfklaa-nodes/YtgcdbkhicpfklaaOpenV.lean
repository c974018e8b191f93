
/-
  What the walk of a statement is told of a slice of peers that came in: that it reads as a list, all of whose numbers fit, and how long it may be.
-/
import Derived.Test.YtgcdbkhicpfklaaOpen
import Derived.Test.YtgcdbkhicpfklaaPeerRow
import Derived.Deep.Slices
import Derived.Test.YtgcdbkhicpfklaaViewRow
namespace Go.Proofs.Ytgcdbkhicpfklaa
open Go.ChangeShapes Go.WideShapes Go.ChangeAt Go.RowKit Go.Deep

/-- What two cells of a peer read as. -/
theorem trod_peer {H : Type} {enc : TypeId × Value → H} {W : World} {base : Nat} {sp : TypeId → Bool} {held : Bool} {fuel : Nat} {cs : List Value} {x : DataW H × List MemPlace}
    (h : DataW.trod enc Try.prog W base sp held fuel 56 cs = some x) :
    ∃ i : Pe, cs = PeV i ∧ PeW i := by
  have hC : Try.prog.cellsOf 56 = 2 := by kernel_rfl
  have hI : Try.prog.cellsOf 3 = 1 := by kernel_rfl
  obtain ⟨xs, n, _, rfl, hl, hlen, hf⟩ := DataW.trod_struct Try.underlying56 h
  rw [hC] at hl
  match cs, hl, xs, hlen with
  | [c0, c1], _, [y0, y1], _ =>
  have g0 := hf 0 _ rfl
  have g1 := hf 1 _ rfl
  simp [hI] at g0 g1
  obtain ⟨k, e0, -, wk⟩ := DataW.trod_int Try.underlying3 g0
  obtain ⟨c, e1, -, wc⟩ := DataW.trod_int Try.underlying3 g1
  simp at e0 e1
  subst e0 e1
  exact ⟨⟨k, c⟩, rfl, wk, wc⟩

/-- What a cell that holds a slice of peers reads as. -/
theorem trod_rowP {H : Type} {enc : TypeId × Value → H} {W : World} {fuel : Nat} {cs : List Value} {X : DataW H × List MemPlace}
    (hf : DataW.trod enc Try.prog W 0 (fun _ => true) true fuel 23 cs = some X) (hfz : W.noneFrozen X.2) (hs : ∀ n ∈ X.1.weights Try.prog 23, n ≤ reachBytes) :
    ∃ (v : Value) (xs : List Pe), cs = [v] ∧ RowP 0 W.heap.size W v xs ∧ xs.length * 16 ≤ 140737488351232 ∧ ∀ x ∈ xs, PeW x := by
  have b16 : Try.prog.bytesOf 56 = 16 := by kernel_rfl
  have hC : Try.prog.cellsOf 56 = 2 := by kernel_rfl
  rcases open_slice Try.underlying23 hf with ⟨hcs, _⟩ | ⟨x, len, c, m, n, D, Pl, hcs, _, hl, hm, hmm, hx, hcell⟩
  · exact ⟨_, [], hcs, RowC.nil0, by simp, fun x hx => by cases hx⟩
  · simp only [if_true] at hmm
    subst hmm hx
    dsimp only at hfz hs
    rw [hC] at hcell hfz
    have hw : m * 16 ≤ reachBytes := by
      have := hs (len * 16 + (m - len) * 16) (by
        simp only [DataW.weights, Try.underlying23, List.length_map, List.length_range, b16]
        rw [← Nat.add_mul]
        exact List.mem_cons_self)
      omega
    unfold reachBytes at hw
    obtain ⟨f, hF⟩ := choose_lt (α := Pe) (n := m) (p := fun i z => (∀ j, j < 2 → W.cell? (x.add (i * 2 + j)) = (PeV z)[j]?) ∧ PeW z) (fun i hi => by
      obtain ⟨cs', h1, h2⟩ := hcell i hi
      obtain ⟨_, _, h3⟩ := World.cells?_some h1
      obtain ⟨z, rfl, wz⟩ := trod_peer h2
      refine ⟨z, fun j hj => ?_, wz⟩
      rw [← Addr.add_add]
      exact h3 j hj)
    refine ⟨_, (List.range len).map f, hcs, ⟨some x, m, by simp, ⟨by simpa using hl, fun h => by cases h⟩, hm, fun hne => ?_⟩, by simp; omega, ?_⟩
    · obtain ⟨b, off, spot⟩ := x
      have hlen : 0 < len := by
        rcases Nat.eq_zero_or_pos len with h0 | h0
        · rw [h0] at hne; exact absurd rfl hne
        · exact h0
      have h00 := (hF 0 (by omega)).1 0 (by omega)
      simp only [PeV, List.getElem?_cons_zero] at h00
      have hspot : spot = none := by simpa [Addr.add] using World.cell?_spot h00
      subst hspot
      refine ⟨b, off, rfl, Nat.zero_le _, ?_, fun j hj => ⟨?_, ?_⟩⟩
      · exact World.block_lt_of_cell? _ _ (by simpa [Addr.add] using h00)
      · simp only [List.length_map, List.length_range] at hj
        have hq : j / 2 < len := by omega
        have e1 : j = j / 2 * 2 + j % 2 := by omega
        have h1 := (hF (j / 2) (by omega)).1 (j % 2) (by omega)
        rw [← e1, add_plain] at h1
        rw [h1]
        have h2 := flat_at PeV_len ((List.range len).map f) (j / 2) (j % 2) (by simpa using hq) (by omega)
        rw [← e1] at h2
        rw [h2]
        simp
      · simp only [List.length_map, List.length_range] at hj
        exact hfz b (off + j) (List.mem_append_left _ (MemPlace.mem_row.2 ⟨j, by omega, rfl⟩))
    · intro z hz
      obtain ⟨i, hi, rfl⟩ := List.mem_map.1 hz
      have := List.mem_range.1 hi
      exact (hF i (by omega)).2

end Go.Proofs.Ytgcdbkhicpfklaa

namespace Go.Proofs.Ytgcdbkhicpfklaa
open Go.ChangeShapes Go.WideShapes Go.ChangeAt Go.RowKit Go.Deep

/-- A view as it came in: its numbers, and where its lists lie. -/
structure VwO where
  i : Int
  ps : List Pe
  is : List Int
  p : Value
  q : Value

theorem trod_view {H : Type} {enc : TypeId × Value → H} {W : World} {fuel : Nat} {cs : List Value} {X : DataW H × List MemPlace}
    (hf : DataW.trod enc Try.prog W 0 (fun _ => true) true fuel 25 cs = some X) (hfz : W.noneFrozen X.2) (hs : ∀ n ∈ X.1.weights Try.prog 25, n ≤ reachBytes) :
    ∃ x : VwO, cs = [.int .i64 x.i, x.p, x.q] ∧ (Lit.int .i64 x.i).wf = true ∧ VwAt 0 W.heap.size W x.p x.q x.ps x.is ∧ x.ps.length * 16 ≤ 140737488351232 ∧ x.is.length * 8 ≤ 140737488351232 ∧ (∀ y ∈ x.ps, PeW y) ∧ ∀ y ∈ x.is, (Lit.int .i64 y).wf = true := by
  have hC : Try.prog.cellsOf 25 = 3 := by kernel_rfl
  have hI : Try.prog.cellsOf 3 = 1 := by kernel_rfl
  have hP : Try.prog.cellsOf 23 = 1 := by kernel_rfl
  have hQ : Try.prog.cellsOf 22 = 1 := by kernel_rfl
  obtain ⟨xs, n, _, rfl, hl, hlen, hf⟩ := DataW.trod_struct Try.underlying25 hf
  rw [hC] at hl
  match cs, hl, xs, hlen with
  | [c0, c1, c2], _, [y0, y1, y2], _ =>
  have g0 := hf 0 _ rfl
  have g1 := hf 1 _ rfl
  have g2 := hf 2 _ rfl
  simp [hI, hP, hQ] at g0 g1 g2
  simp only [DataW.weights, Try.underlying25, List.map_cons, List.map_nil, DataW.weightsEach, List.mem_append] at hs
  simp only [List.flatMap_cons, List.flatMap_nil, List.append_nil] at hfz
  obtain ⟨k, e0, -, wk⟩ := DataW.trod_int Try.underlying3 g0
  obtain ⟨v1, ps, e1, R1, s1, w1⟩ := trod_rowP g1 (fun b off hm => hfz b off (by simp [hm])) (fun n hn => hs n (.inr (.inl hn)))
  obtain ⟨v2, is, e2, R2, s2, w2⟩ := trod_rowI g2 (fun b off hm => hfz b off (by simp [hm])) (fun n hn => hs n (.inr (.inr (.inl hn))))
  simp at e0 e1 e2
  subst e0 e1 e2
  exact ⟨⟨k, ps, is, c1, c2⟩, rfl, wk, ⟨R1, R2⟩, s1, s2, w1, w2⟩

end Go.Proofs.Ytgcdbkhicpfklaa
