
/-
  What the walk of a statement is told of a slice of messages that came in: that it reads as a list, and how long it and its lists may be.
-/
import Derived.Test.YtnnhnidefjhakaaOpenM
import Derived.Test.YtnnhnidefjhakaaMsgsMem
import Derived.Deep.Slices
namespace Go.Proofs.Ytnnhnidefjhakaa
open Go.ChangeShapes Go.WideShapes Go.ChangeAt Go.RowKit Go.Deep

instance : Inhabited MgO := ⟨⟨0, 0, 0, [], 0, ⟨0, 0, 0, 0, false⟩, false, .slice none 0 0⟩⟩
theorem weightsAll_mem {H : Type} {P : Program} {e : TypeId} : ∀ {ds : List (DataW H)} {d : DataW H} {n : Nat}, d ∈ ds → n ∈ d.weights P e → n ∈ DataW.weightsAll P e ds
  | x :: r, d, n, h, hn => by
    simp only [DataW.weightsAll, List.mem_append]
    rcases List.mem_cons.1 h with rfl | h
    · exact .inl hn
    · exact .inr (weightsAll_mem h hn)

theorem open_rowM {H : Type} {enc : TypeId × Value → H} {W : World} {base : Nat} {v : Value} {d : DataW H} {p : List MemPlace} (hok : Value.okWide Try.prog W .any base 22 v)
    (h : DataW.Trod enc Try.prog W 0 (fun _ => true) true 22 v d p) (hfz : W.noneFrozen p) (hs : ∀ n ∈ d.weights Try.prog 22, n ≤ reachBytes) :
    ∃ ms : List Mg, RowM 0 W.heap.size W v ms ∧ ms.length * 104 ≤ 140737488351232 ∧ ∀ m ∈ ms, m.is.length * 8 ≤ 140737488351232 := by
  obtain ⟨a0, len, cap, rfl⟩ := okWide_slice Try.underlying22 hok
  obtain ⟨fuel, hf⟩ := h
  have b104 : Try.prog.bytesOf 29 = 104 := by kernel_rfl
  have hC : Try.prog.cellsOf 29 = 11 := by kernel_rfl
  rcases open_slice Try.underlying22 hf with ⟨hcs, _⟩ | ⟨x, l, c, m, n, D, Pl, hcs, _, hl, hm, hmm, hx, hcell⟩
  · simp [Value.cells] at hcs
    obtain ⟨rfl, rfl, rfl⟩ := hcs
    exact ⟨[], RowM.nil0, by simp, fun x hx => by cases hx⟩
  · simp [Value.cells] at hcs
    obtain ⟨rfl, rfl, rfl⟩ := hcs
    simp only [if_true] at hmm
    subst hmm
    simp only [Prod.mk.injEq] at hx
    obtain ⟨rfl, rfl⟩ := hx
    rw [hC] at hcell hfz
    have hw : m * 104 ≤ reachBytes := by
      have := hs (len * 104 + (m - len) * 104) (by
        simp only [DataW.weights, Try.underlying22, List.length_map, List.length_range, b104]
        rw [← Nat.add_mul]
        exact List.mem_cons_self)
      omega
    unfold reachBytes at hw
    have hwi : ∀ i, i < len → ∀ q ∈ (D i).weights Try.prog 29, q ≤ reachBytes := fun i hi q hq => hs q (by
      simp only [DataW.weights, Try.underlying22]
      exact List.mem_cons_of_mem _ (List.mem_append_left _ (weightsAll_mem (List.mem_map.2 ⟨i, List.mem_range.2 hi, rfl⟩) hq)))
    obtain ⟨f, hF⟩ := choose_lt (α := MgO) (n := len) (p := fun i z => (∀ j, j < 11 → W.cell? (x.add (i * 11 + j)) = (MvV z)[j]?) ∧ RowI 0 W.heap.size W z.v z.is ∧ z.is.length * 8 ≤ 140737488351232) (fun i hi => by
      obtain ⟨cs', h1, h2⟩ := hcell i (by omega)
      obtain ⟨_, _, h3⟩ := World.cells?_some h1
      obtain ⟨z, rfl, wz⟩ := trod_msg h2 (fun b off hm => hfz b off (List.mem_append_right _ (List.mem_flatMap.2 ⟨i, List.mem_range.2 (by omega), hm⟩))) (hwi i hi)
      refine ⟨z, fun j hj => ?_, wz⟩
      rw [← Addr.add_add]
      exact h3 j hj)
    refine ⟨((List.range len).map f).map MgO.mg, ⟨(List.range len).map f, rfl, ⟨some x, m, by simp, ⟨by simpa using hl, fun h => by cases h⟩, hm, fun hne => ?_⟩, ?_⟩, by simp; omega, ?_⟩
    · obtain ⟨b, off, spot⟩ := x
      have hlen : 0 < len := by
        rcases Nat.eq_zero_or_pos len with h0 | h0
        · rw [h0] at hne; exact absurd rfl hne
        · exact h0
      have h00 := (hF 0 (by omega)).1 0 (by omega)
      simp only [MvV, List.getElem?_cons_zero] at h00
      have hspot : spot = none := by simpa [Addr.add] using World.cell?_spot h00
      subst hspot
      refine ⟨b, off, rfl, Nat.zero_le _, ?_, fun j hj => ⟨?_, ?_⟩⟩
      · exact World.block_lt_of_cell? _ _ (by simpa [Addr.add] using h00)
      · simp only [List.length_map, List.length_range] at hj
        have hq : j / 11 < len := by omega
        have e1 : j = j / 11 * 11 + j % 11 := by omega
        have h1 := (hF (j / 11) (by omega)).1 (j % 11) (by omega)
        rw [← e1, add_plain] at h1
        rw [h1]
        have h2 := flat_at MvV_len ((List.range len).map f) (j / 11) (j % 11) (by simpa using hq) (by omega)
        rw [← e1] at h2
        rw [h2]
        simp
      · simp only [List.length_map, List.length_range] at hj
        exact hfz b (off + j) (List.mem_append_left _ (MemPlace.mem_row.2 ⟨j, by omega, rfl⟩))
    · intro z hz
      obtain ⟨i, hi, rfl⟩ := List.mem_map.1 hz
      exact (hF i (List.mem_range.1 hi)).2.1
    · intro z hz
      obtain ⟨y, hy, rfl⟩ := List.mem_map.1 hz
      obtain ⟨i, hi, rfl⟩ := List.mem_map.1 hy
      exact (hF i (List.mem_range.1 hi)).2.2
end Go.Proofs.Ytnnhnidefjhakaa
