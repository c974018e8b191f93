
/-
  Who is heard in between: a view of two, its first peer's count written over; the states, and the lists in memory.
-/
import Derived.Test.YtagojonjohimfaaAgeBox
namespace Go.Proofs.Ytagojonjohimfaa
open Go.ChangeShapes Go.WideShapes Go.ChangeAt Go.RowKit

/-- 50 has missed x ticks; 3 has missed m, or is lost. -/
def hdX (x : Int) (m : Nat) : VSt := if m < 3 then ([⟨50, x⟩, ⟨3, (m : Int)⟩], []) else ([⟨50, x⟩], [3])
def hdM (m : Nat) : Nat := if m + 1 < 3 then m + 1 else 3
theorem hdX_tick : ∀ m : Nat, m < 4 → vwB 9 (hdX 0 m).1 (hdX 0 m).2 = true ∧ tkG (hdX 0 m) = [50, 3] ∧ tkS (hdX 0 m) = hdX 1 (hdM m) ∧ hdM m < 4 := by decide +kernel
/-- One tick: the state, its first peer heard, and the state behind it. -/
theorem hdX_step {m : Nat} (hm : m < 4) (x : Int) : ∃ (ys : List Pe) (is : List Int) (zs : List Pe) (js : List Int), hdX x m = (⟨50, x⟩ :: ys, is) ∧ vwB 9 (⟨50, 0⟩ :: ys) is = true ∧ tkG (⟨50, 0⟩ :: ys, is) = [50, 3] ∧ tkS (⟨50, 0⟩ :: ys, is) = (⟨50, 1⟩ :: zs, js) ∧ hdX 1 (hdM m) = (⟨50, 1⟩ :: zs, js) := by
  have e : ∀ (x : Int) (m : Nat), hdX x m = (⟨50, x⟩ :: (hdX 0 m).1.tail, (hdX 0 m).2) := fun x m => by unfold hdX; split <;> rfl
  obtain ⟨v1, v2, v3, -⟩ := hdX_tick m hm
  have e0 := e 0 m
  have e1 := e 1 (hdM m)
  refine ⟨_, _, _, _, e x m, ?_, ?_, ?_, e1⟩
  · rw [e0] at v1
    exact v1
  · rw [← e0]
    exact v2
  · rw [← e0, v3]
    exact e1
theorem hdX_two (x : Int) (m : Nat) : (hdX x m).1.length + (hdX x m).2.length = 2 := by
  unfold hdX
  split <;> rfl

/-- The first peer's count, in its own cell. -/
theorem RowC.head {lo hi : Nat} {w : World} {v : Value} {y : Pe} {ys : List Pe} (h : RowP lo hi w v (y :: ys)) :
    ∃ b off c, v = .slice (some ⟨b, off, none⟩) (ys.length + 1) c ∧ lo ≤ b ∧ b < hi ∧ w.cell? ⟨b, off, none⟩ = some (.int .i64 y.n) ∧ w.cell? ⟨b, off + 1, none⟩ = some (.int .i64 y.m) ∧ w.frozen? ⟨b, off + 1, none⟩ = false ∧
      ∀ x : Int, RowP lo hi (w.setCell ⟨b, off + 1, none⟩ (.int .i64 x)) v (⟨y.n, x⟩ :: ys) := by
  obtain ⟨p, c, rfl, hl, hc, hx⟩ := h
  obtain ⟨b, off, rfl, h1, h2, h3⟩ := hx (by simp)
  have e0 := h3 0 (by simp)
  have e1 := h3 1 (by simp; omega)
  refine ⟨b, off, c, rfl, h1, h2, e0.1.trans (by simp [PeV]), e1.1.trans (by simp [PeV]), e1.2, fun x => ?_⟩
  refine ⟨_, c, rfl, hl, hc, fun _ => ⟨b, off, rfl, h1, h2, fun j hj => ?_⟩⟩
  refine ⟨?_, (World.frozen?_setCell _ _ _ _).trans (h3 j hj).2⟩
  by_cases e : j = 1
  · subst e
    exact (World.cell?_setCell_same _ _ _ (e1.1.trans (by simp [PeV] : _ = some (Value.int .i64 y.m)))).trans (by simp [PeV])
  · have hne : (⟨b, off + 1, none⟩ : Addr) ≠ ⟨b, off + j, none⟩ := fun e' => e (by have : off + 1 = off + j := congrArg Addr.off e'; omega)
    rw [World.cell?_setCell_other _ _ _ _ hne, (h3 j hj).1]
    match j, e with
    | 0, _ => rfl
    | j + 2, _ => rfl

theorem VwBut.hear {base b : Nat} {w : World} {p q : Value} {y : Pe} {ys : List Pe} {is : List Int} (h : VwBut base b w p q (y :: ys) is) :
    ∃ pb off c, p = .slice (some ⟨pb, off, none⟩) (ys.length + 1) c ∧ base ≤ pb ∧ pb < w.heap.size ∧ pb ≠ b ∧ w.cell? ⟨pb, off, none⟩ = some (.int .i64 y.n) ∧ w.cell? ⟨pb, off + 1, none⟩ = some (.int .i64 y.m) ∧ w.frozen? ⟨pb, off + 1, none⟩ = false ∧
      ∀ x : Int, VwBut base b (w.setCell ⟨pb, off + 1, none⟩ (.int .i64 x)) p q (⟨y.n, x⟩ :: ys) is := by
  obtain ⟨lo1, hi1, lo2, hi2, P, Q, h1, h2, h3, h4, h5, h6, h7⟩ := h.out
  obtain ⟨pb, off, c, e, k1, k2, k3, k4, k5, k6⟩ := P.head
  refine ⟨pb, off, c, e, by omega, by omega, by omega, k3, k4, k5, fun x => ?_⟩
  have hS := (Only.refl pb (pb + 1) w).setCell (b := pb) (o := off + 1) (Nat.le_refl _) (Nat.lt_succ_self _) (.int .i64 x)
  have := hS.size
  exact ⟨lo1, hi1, lo2, hi2, k6 x, Q.only hS (by omega), h1, by omega, h3, by omega, h5, h6, h7⟩
/-- Lists that were made above block b. -/
theorem VwNew.butUp {base base' b : Nat} {w : World} {p q : Value} {ps : List Pe} {is : List Int} (h : VwNew base w p q ps is) (hb : b < base) (h0 : base' ≤ base) : VwBut base' b w p q ps is := by
  obtain ⟨lo1, hi1, lo2, hi2, P, Q, h1, h2, h3, h4, h5⟩ := h.out
  exact ⟨lo1, hi1, lo2, hi2, P, Q, by omega, h2, by omega, h4, h5, .inr (by omega), .inr (by omega)⟩

end Go.Proofs.Ytagojonjohimfaa
