
/-
  Cells written one behind another; a row of messages that is filled with one message.
-/
import Derived.Test.YtnnhnidefjhakaaMsgsMem
import Derived.Test.YtnnhnidefjhakaaOnly
import Derived.Laws.MakeOwn
namespace Go.Proofs.Ytnnhnidefjhakaa
open Go.ChangeShapes Go.WideShapes Go.ChangeAt Go.RowKit

def setL (w : World) (b o : Nat) : List Value → World
  | [] => w
  | v :: vs => setL (w.setCell ⟨b, o, none⟩ v) b (o + 1) vs
theorem setL_other {b b' o' : Nat} : ∀ (vs : List Value) (w : World) (o : Nat), b' ≠ b ∨ o' < o ∨ o + vs.length ≤ o' → (setL w b o vs).cell? ⟨b', o', none⟩ = w.cell? ⟨b', o', none⟩
  | [], _, _, _ => rfl
  | v :: vs, w, o, h => by
    rw [setL, setL_other vs _ _ (by simp only [List.length_cons] at h; omega)]
    exact World.cell?_setCell_other _ _ _ _ (fun e => by have e1 := congrArg Addr.block e; have e2 := congrArg Addr.off e; simp only [List.length_cons] at h e1 e2; omega)
theorem setL_at {b : Nat} : ∀ (vs : List Value) (w : World) (o : Nat), (∀ r, r < vs.length → ∃ u, w.cell? ⟨b, o + r, none⟩ = some u) → ∀ r, r < vs.length → (setL w b o vs).cell? ⟨b, o + r, none⟩ = vs[r]?
  | v :: vs, w, o, he, 0, _ => by
    rw [setL, setL_other vs _ _ (.inr (.inl (by omega)))]
    obtain ⟨u, hu⟩ := he 0 (by simp)
    exact World.cell?_setCell_same _ _ _ hu
  | v :: vs, w, o, he, r + 1, hr => by
    rw [setL, show o + (r + 1) = o + 1 + r by omega, setL_at vs _ _ (fun r' hr' => ?_) r (by simpa using hr)]
    · rfl
    · obtain ⟨u, hu⟩ := he (r' + 1) (by simp; omega)
      exact ⟨u, (World.cell?_setCell_other _ _ _ _ (fun e => by have := congrArg Addr.off e; simp only at this; omega)).trans (by rw [← hu]; congr 2; omega)⟩
theorem setL_frozen {b : Nat} (a : Addr) : ∀ (vs : List Value) (w : World) (o : Nat), (setL w b o vs).frozen? a = w.frozen? a
  | [], _, _ => rfl
  | v :: vs, w, o => by rw [setL, setL_frozen a vs]; exact World.frozen?_setCell _ _ _ _
theorem setL_only {b : Nat} : ∀ (vs : List Value) (w w0 : World) (o : Nat), Only b (b + 1) w0 w → Only b (b + 1) w0 (setL w b o vs)
  | [], _, _, _, h => h
  | v :: vs, _, w0, o, h => setL_only vs _ w0 (o + 1) (h.setCell (Nat.le_refl _) (Nat.lt_succ_self _) v)

def zMV : List Value := [.int .i64 0, .int .i64 0, .int .i64 0, .slice none 0 0, .int .i64 0, .int .i64 0, .int .i64 0, .int .i64 0, .int .i64 0, .bool false, .bool false]

/-- A row of N messages: the first i of them read as the cells V, the others are zero. -/
structure Full (N i : Nat) (V : List Value) (w : World) (x : Nat) : Prop where
  lt : x < w.heap.size
  cell : ∀ q r, q < N → r < 11 → w.cell? ⟨x, q * 11 + r, none⟩ = (if q < i then V else zMV)[r]?
  frozen : ∀ q r, q < N → r < 11 → w.frozen? ⟨x, q * 11 + r, none⟩ = false
theorem Full.of_made {base N g : Nat} {V : List Value} {w : World} (h : w.ownsRow base 29 11 (.slice (some ⟨g, 0, none⟩) N N) N (madeCells (Value.agg #[.int .i64 0, .int .i64 0, .int .i64 0, .slice none 0 0, .int .i64 0, .int .i64 0, .int .i64 0, .int .i64 0, .int .i64 0, .bool false, .bool false]).cells (N * 11)).toList) : Full N 0 V w g := by
  refine ⟨(h.lt g rfl).2, fun q r hq hr => ?_, fun q r hq hr => h.frozenAt _⟩
  rw [h.cellAt _ (by omega), if_neg (Nat.not_lt_zero _), Array.getElem?_toList]
  have e : (q * 11 + r) % 11 = r := by omega
  have hl : q * 11 + r < N * 11 := by omega
  simp only [madeCells, Value.cells, Array.getElem?_map, Array.getElem?_range, hl, if_true, Option.map_some]
  match r, hr, e with
  | 0, _, e | 1, _, e | 2, _, e | 3, _, e | 4, _, e | 5, _, e | 6, _, e | 7, _, e | 8, _, e | 9, _, e | 10, _, e => simp [zMV, e]
  | n + 11, h, _ => omega
theorem Full.step {N i x : Nat} {V : List Value} {w : World} (h : Full N i V w x) (hi : i < N) (hV : V.length = 11) : Full N (i + 1) V (setL w x (i * 11) V) x := by
  refine ⟨by rw [(setL_only V w w (i * 11) (Only.refl _ _ _)).size]; exact h.lt, fun q r hq hr => ?_, fun q r hq hr => (setL_frozen _ _ _ _).trans (h.frozen q r hq hr)⟩
  by_cases e : q = i
  · subst e
    rw [if_pos (Nat.lt_succ_self _), setL_at V w _ (fun r' hr' => ?_) r (by omega)]
    have := h.cell q r' hi (by omega)
    rw [if_neg (Nat.lt_irrefl _)] at this
    rw [this]
    exact ⟨_, List.getElem?_eq_getElem (by show r' < 11; omega)⟩
  · rw [setL_other V w _ (.inr (by rw [hV]; omega)), h.cell q r hq hr]
    by_cases h1 : q < i
    · rw [if_pos h1, if_pos (by omega)]
    · rw [if_neg h1, if_neg (by omega)]
theorem Full.below {N i x : Nat} {V : List Value} {w w' : World} (h : Full N i V w x) (hb : Below w.heap.size w w') : Full N i V w' x :=
  ⟨Nat.lt_of_lt_of_le h.lt hb.size, fun q r hq hr => (hb.cell (p := ⟨x, q * 11 + r, none⟩) h.lt).trans (h.cell q r hq hr), fun q r hq hr => (hb.frozen (p := ⟨x, q * 11 + r, none⟩) h.lt).trans (h.frozen q r hq hr)⟩
/-- The cells of one of them. -/
theorem Full.at {N i x k : Nat} {V : List Value} {w : World} (h : Full N i V w x) (hk : k < N) (hV : V.length = 11) :
    ∀ r, r < 11 → (∃ u, w.cell? ⟨x, k * 11 + r, none⟩ = some u) ∧ w.frozen? ⟨x, k * 11 + r, none⟩ = false := fun r hr => by
  refine ⟨?_, h.frozen k r hk hr⟩
  rw [h.cell k r hk hr]
  split
  · exact ⟨_, List.getElem?_eq_getElem (by omega)⟩
  · exact ⟨_, List.getElem?_eq_getElem (show r < 11 from hr)⟩
theorem Full.row {N lo hi x : Nat} {w : World} {m : MgO} (h : Full N N (MvV m) w x) (hm : RowI lo hi w m.v m.is) (hN : N ≤ maxLen) : RowM 0 (max hi (x + 1)) w (.slice (some ⟨x, 0, none⟩) N N) (List.replicate N m.mg) := by
  refine ⟨List.replicate N m, by simp, ⟨some ⟨x, 0, none⟩, N, by simp, ⟨by simp, fun h => by cases h⟩, hN, fun _ => ⟨x, 0, rfl, Nat.zero_le _, by omega, fun j hj => ?_⟩⟩, fun y hy => ?_⟩
  · simp only [List.length_replicate] at hj
    have e : j = j / 11 * 11 + j % 11 := by omega
    have hq : j / 11 < N := by omega
    rw [Nat.zero_add, e, flat_at MvV_len _ (j / 11) (j % 11) (by simpa using hq) (by omega), h.cell _ _ hq (by omega), if_pos hq]
    exact ⟨by simp, h.frozen _ _ hq (by omega)⟩
  · obtain ⟨-, rfl⟩ := List.mem_replicate.1 hy
    exact hm.wide (Nat.zero_le _) (by omega)

end Go.Proofs.Ytnnhnidefjhakaa
