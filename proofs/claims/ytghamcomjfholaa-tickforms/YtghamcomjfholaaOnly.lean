
/-
  Lists of ints in memory: what a slice value reads as, between which blocks its cells lie, and what stays of it behind other writes.
-/
import Derived.WalkKit
import Derived.ProofKit
import Derived.OpenShut
import Derived.Below
import Derived.Laws.OwnMore
import Derived.Deep.QuietTactic
import Derived.BigQuiet
import Derived.Laws.AppendOwnNone
namespace Go.RowKit
theorem Below.on {w a b : World} (h : Below w.heap.size w a) (k : Below a.heap.size a b) : Below w.heap.size w b := h.trans (k.mono h.size)
theorem Below.onA {w a : World} (h : Below w.heap.size w a) (o : Obj) : Below w.heap.size w (a.alloc o) := h.alloc h.size o
theorem Below.onD {B : Nat} {w a : World} (h : Below B w a) (q : Nat) : Below B w (a.drewN q) := ⟨h.os, h.tape, h.output, h.size, h.block⟩
end Go.RowKit
namespace Go.Proofs.Ytghamcomjfholaa
open Go.RowKit

/-- The slice value v reads as zs; its cells lie in one block from lo on and below hi, and none of them is frozen. -/
structure RowI (lo hi : Nat) (w : World) (v : Value) (zs : List Int) : Prop where
  out : ∃ p cap, v = .slice p zs.length cap ∧ (zs.length ≤ cap ∧ (p = none → cap = 0)) ∧ cap ≤ maxLen ∧
    (zs ≠ [] → ∃ b off, p = some ⟨b, off, none⟩ ∧ lo ≤ b ∧ b < hi ∧ ∀ j, j < zs.length → w.cell? ⟨b, off + j, none⟩ = some (.int .i64 (zs.getD j 0)) ∧ w.frozen? ⟨b, off + j, none⟩ = false)

theorem RowI.below {lo hi B : Nat} {w w' : World} {v : Value} {zs : List Int} (h : RowI lo hi w v zs) (hb : Below B w w') (hB : hi ≤ B) : RowI lo hi w' v zs := by
  obtain ⟨p, cap, rfl, hl, hc, hx⟩ := h
  refine ⟨p, cap, rfl, hl, hc, fun hne => ?_⟩
  obtain ⟨b, off, rfl, h1, h2, h3⟩ := hx hne
  exact ⟨b, off, rfl, h1, h2, fun j hj => ⟨(hb.cell (p := ⟨b, off + j, none⟩) (by show b < B; omega)).trans (h3 j hj).1, (hb.frozen (p := ⟨b, off + j, none⟩) (by show b < B; omega)).trans (h3 j hj).2⟩⟩

theorem RowI.wide {lo hi lo' hi' : Nat} {w : World} {v : Value} {zs : List Int} (h : RowI lo hi w v zs) (h1 : lo' ≤ lo) (h2 : hi ≤ hi') : RowI lo' hi' w v zs := by
  obtain ⟨p, cap, rfl, hl, hc, hx⟩ := h
  refine ⟨p, cap, rfl, hl, hc, fun hne => ?_⟩
  obtain ⟨b, off, rfl, k1, k2, k3⟩ := hx hne
  exact ⟨b, off, rfl, by omega, by omega, k3⟩

theorem RowI.nil {lo hi : Nat} {w : World} {p : Option Addr} {cap : Nat} (hc : cap ≤ maxLen) (hp : p = none → cap = 0) : RowI lo hi w (.slice p 0 cap) [] :=
  ⟨p, cap, rfl, ⟨Nat.zero_le _, hp⟩, hc, fun h => absurd rfl h⟩

theorem RowI.nil0 {lo hi : Nat} {w : World} : RowI lo hi w (.slice none 0 0) [] := RowI.nil (Nat.zero_le _) (fun _ => rfl)

theorem RowI.cap {lo hi : Nat} {w : World} {v : Value} {zs : List Int} (h : RowI lo hi w v zs) : ∃ p cap, v = .slice p zs.length cap ∧ zs.length ≤ cap ∧ cap ≤ maxLen := by
  obtain ⟨p, cap, rfl, hl, hc, hx⟩ := h
  exact ⟨p, cap, rfl, hl.1, hc⟩

theorem RowI.max {lo hi : Nat} {w : World} {v : Value} {zs : List Int} (h : RowI lo hi w v zs) : zs.length ≤ maxLen := by
  obtain ⟨p, cap, rfl, hl, hc, hx⟩ := h
  omega

/-- A row that the call owns. -/
theorem RowI.of_owns {base : Nat} {w : World} {e : TypeId} {v : Value} {n : Nat} {zs : List Int} (h : w.ownsRow base e 1 v n (zs.map (Value.int .i64))) : RowI base w.heap.size w v zs := by
  have h0 := h
  obtain ⟨hl, hc⟩ := h
  have hn : n = zs.length := by simpa using hl.symm
  subst hn
  rcases hc with ⟨rfl, h1⟩ | ⟨g, cap, cur, rfl, hg, hh, hle, hcap, hsz, htk⟩
  · obtain rfl : zs = [] := List.length_eq_zero_iff.1 h1
    exact RowI.nil0
  · refine ⟨_, cap, rfl, ⟨hle, fun h => by cases h⟩, hcap, fun _ => ⟨g, 0, rfl, hg, (Array.getElem?_eq_some_iff.1 hh).1, fun j hj => ⟨?_, ?_⟩⟩⟩
    · rw [Nat.zero_add, h0.cellAt j (by omega)]
      simp [List.getD, List.getElem?_eq_getElem hj]
    · rw [Nat.zero_add]
      exact h0.frozenAt j

theorem RowI.alloc {lo hi : Nat} {w : World} {v : Value} {zs : List Int} (h : RowI lo hi w v zs) (o : Obj) : RowI lo hi (w.alloc o) v zs := by
  obtain ⟨p, cap, rfl, hl, hc, hx⟩ := h
  refine ⟨p, cap, rfl, hl, hc, fun hne => ?_⟩
  obtain ⟨b, off, rfl, h1, h2, h3⟩ := hx hne
  refine ⟨b, off, rfl, h1, h2, fun j hj => ?_⟩
  have hb : b < w.heap.size := World.block_lt_of_cell? _ _ (h3 j hj).1
  have hB := (Below.refl w.heap.size w).alloc (Nat.le_refl _) o
  exact ⟨(hB.cell (p := ⟨b, off + j, none⟩) hb).trans (h3 j hj).1, (hB.frozen (p := ⟨b, off + j, none⟩) hb).trans (h3 j hj).2⟩

theorem World.grownBy_refl (w : World) (r : Option Nat) : w.grownBy w r := by
  constructor <;> simp

/-- A list that was lent: two marks stand behind it, in the same memory. -/
structure LentI (lo hi : Nat) (w : World) (v : Value) (zs : List Int) : Prop where
  out : ∃ g cap, v = .slice (some ⟨g, 0, none⟩) zs.length cap ∧ zs.length + 2 ≤ cap ∧ cap ≤ maxLen ∧ lo ≤ g ∧ g < hi ∧
    ∀ j, j < zs.length + 2 → w.cell? ⟨g, j, none⟩ = some (.int .i64 ((zs ++ [-7777, -8888]).getD j 0)) ∧ w.frozen? ⟨g, j, none⟩ = false

theorem LentI.below {lo hi B : Nat} {w w' : World} {v : Value} {zs : List Int} (h : LentI lo hi w v zs) (hb : Below B w w') (hB : hi ≤ B) : LentI lo hi w' v zs := by
  obtain ⟨g, cap, rfl, hl, hc, h1, h2, h3⟩ := h
  exact ⟨g, cap, rfl, hl, hc, h1, h2, fun j hj => ⟨(hb.cell (p := ⟨g, j, none⟩) (by show g < B; omega)).trans (h3 j hj).1, (hb.frozen (p := ⟨g, j, none⟩) (by show g < B; omega)).trans (h3 j hj).2⟩⟩

theorem LentI.drewN {lo hi : Nat} {w : World} {v : Value} {zs : List Int} (h : LentI lo hi w v zs) (q : Nat) : LentI lo hi (w.drewN q) v zs := ⟨h.out⟩

theorem LentI.row {lo hi : Nat} {w : World} {v : Value} {zs : List Int} (h : LentI lo hi w v zs) : RowI lo hi w v zs := by
  obtain ⟨g, cap, rfl, hl, hc, h1, h2, h3⟩ := h
  refine ⟨_, cap, rfl, ⟨by omega, fun h => by cases h⟩, hc, fun _ => ⟨g, 0, rfl, h1, h2, fun j hj => ?_⟩⟩
  have := h3 j (by omega)
  rw [Nat.zero_add]
  simpa [List.getD, List.getElem?_append_left hj] using this

theorem below_drewN {B : Nat} {w w' : World} (h : Below B w w') (q : Nat) : Below B w (w'.drewN q) := ⟨h.os, h.tape, h.output, h.size, h.block⟩
theorem RowI.drewN {lo hi : Nat} {w : World} {v : Value} {zs : List Int} (h : RowI lo hi w v zs) (q : Nat) : RowI lo hi (w.drewN q) v zs := ⟨h.out⟩

/-! ### A plain item -/
structure It where
  k : Int
  c : Int
  u : Int
  x : Int
  g : Bool
deriving DecidableEq, Inhabited

def ItW (i : It) : Prop := (Lit.int .i64 i.k).wf = true ∧ (Lit.int .i64 i.c).wf = true ∧ (Lit.int .i64 i.u).wf = true ∧ (Lit.int .i64 i.x).wf = true

end Go.Proofs.Ytghamcomjfholaa

namespace Go.Proofs.Ytghamcomjfholaa
open Go.ChangeShapes Go.WideShapes Go.ChangeAt Go.RowKit

theorem toHid {p : Prop} (h : p) : Hid p := h

/-! ### A block of memory that reads as these cells, none of them frozen -/
def Box (w : World) (b : Nat) (xs : Array Value) : Prop := b < w.heap.size ∧ (∀ o, w.cell? ⟨b, o, none⟩ = xs[o]?) ∧ ∀ o, w.frozen? ⟨b, o, none⟩ = false
theorem Box.new (w : World) (xs : Array Value) (t : TypeId) : Box (w.alloc (.cells xs t)) w.heap.size xs :=
  ⟨by simp, fun o => World.cell?_alloc_at xs t _ o rfl, fun o => World.frozen?_alloc_at xs t _ o rfl⟩
theorem Box.newAt {w : World} {n : Nat} (xs : Array Value) (t : TypeId) (h : n = w.heap.size) : Box (w.alloc (.cells xs t)) n xs := h ▸ Box.new w xs t
theorem Box.new1 (w : World) (o : Obj) (xs : Array Value) (t : TypeId) : Box ((w.alloc o).alloc (.cells xs t)) (w.heap.size + 1) xs := Box.newAt xs t (by simp)
theorem Box.below {w w' : World} {b : Nat} {xs : Array Value} (h : Box w b xs) (hb : Below w.heap.size w w') : Box w' b xs :=
  ⟨Nat.lt_of_lt_of_le h.1 hb.size, fun o => (hb.cell (p := ⟨b, o, none⟩) h.1).trans (h.2.1 o), fun o => (hb.frozen (p := ⟨b, o, none⟩) h.1).trans (h.2.2 o)⟩
theorem Box.alloc {w : World} {b : Nat} {xs : Array Value} (h : Box w b xs) (o : Obj) : Box (w.alloc o) b xs := h.below ((Below.refl _ w).onA o)
theorem Box.drewN {w : World} {b : Nat} {xs : Array Value} (h : Box w b xs) (q : Nat) : Box (w.drewN q) b xs := h.below ((Below.refl _ w).onD q)

theorem Box.setS {w : World} {b : Nat} {xs ys : Array Value} (h : Box w b xs) (i : Nat) (v : Value) (hi : i < xs.size) (hy : ys = xs.setIfInBounds i v) : Box (w.setCell ⟨b, i, none⟩ v) b ys := by
  refine ⟨by rw [World.size_setCell]; exact h.1, fun o => ?_, fun o => (World.frozen?_setCell _ _ _ _).trans (h.2.2 o)⟩
  subst hy
  by_cases ho : i = o
  · subst ho
    rw [World.cell?_setCell_same _ _ _ ((h.2.1 i).trans (Array.getElem?_eq_getElem hi))]
    simp [hi]
  · rw [World.cell?_setCell_other _ _ _ _ (fun e => ho (congrArg Addr.off e)), h.2.1 o]
    simp [ho]

end Go.Proofs.Ytghamcomjfholaa

namespace Go.Proofs.Ytghamcomjfholaa
open Go.RowKit

/-- Nothing has turned but cells of the blocks from lo on and below hi. -/
structure Only (lo hi : Nat) (w w' : World) : Prop where
  below : Below lo w w'
  size : w'.heap.size = w.heap.size
  cell : ∀ b o, b < lo ∨ hi ≤ b → w'.cell? ⟨b, o, none⟩ = w.cell? ⟨b, o, none⟩
  frozen : ∀ b o, w'.frozen? ⟨b, o, none⟩ = w.frozen? ⟨b, o, none⟩
theorem Only.refl (lo hi : Nat) (w : World) : Only lo hi w w := ⟨Below.refl _ _, rfl, fun _ _ _ => rfl, fun _ _ => rfl⟩
theorem Only.setCell {lo hi : Nat} {w w' : World} (h : Only lo hi w w') {b o : Nat} (h1 : lo ≤ b) (h2 : b < hi) (x : Value) : Only lo hi w (w'.setCell ⟨b, o, none⟩ x) :=
  ⟨h.below.setCell h1 x, by rw [World.size_setCell]; exact h.size, fun b' o' h' => (World.cell?_setCell_other _ _ _ _ (fun e => by have : b = b' := congrArg Addr.block e; omega)).trans (h.cell b' o' h'), fun b' o' => (World.frozen?_setCell _ _ _ _).trans (h.frozen b' o')⟩
theorem RowI.only {lo hi lo' hi' : Nat} {w w' : World} {v : Value} {zs : List Int} (h : RowI lo hi w v zs) (hw : Only lo' hi' w w') (hd : hi ≤ lo' ∨ hi' ≤ lo) : RowI lo hi w' v zs := by
  obtain ⟨p, cap, rfl, hl, hc, hx⟩ := h
  refine ⟨p, cap, rfl, hl, hc, fun hne => ?_⟩
  obtain ⟨b, off, rfl, h1, h2, h3⟩ := hx hne
  exact ⟨b, off, rfl, h1, h2, fun j hj => ⟨(hw.cell b _ (by omega)).trans (h3 j hj).1, (hw.frozen b _).trans (h3 j hj).2⟩⟩

theorem Only.cellA {lo hi : Nat} {w w' : World} (S : Only lo hi w w') (o : Obj) (k : Nat) {b : Nat} (hb : b < w.heap.size) : (w'.alloc o).cell? ⟨b, k, none⟩ = w'.cell? ⟨b, k, none⟩ :=
  ((Below.refl _ w').onA o).cell (p := ⟨b, k, none⟩) (by show b < w'.heap.size; rw [S.size]; exact hb)

end Go.Proofs.Ytghamcomjfholaa
