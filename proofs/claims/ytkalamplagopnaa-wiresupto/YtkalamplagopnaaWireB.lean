
/-
  Contracts of the program's own reader: what tells a text's bytes one by one, a row of places, an item, a message.
-/
import Derived.Test.YtkalamplagopnaaWireRead
import Derived.Test.YtkalamplagopnaaWireRef
import Derived.Test.YtkalamplagopnaaLit
import Derived.Test.YtkalamplagopnaaMsgRow
import Derived.Test.YtkalamplagopnaaOnly
import Derived.Deep.RegionHeld3
import Derived.Deep.RegionWith
namespace Go.Proofs.Ytkalamplagopnaa
open Go.ChangeShapes Go.WideShapes Go.ChangeAt Go.RowKit

/-! ### A call that has turned one old block alone -/
theorem gb_trans {w a c : World} {b : Nat} (h : w.grownBy a (some b)) (k : a.grownBy c (some b)) : w.grownBy c (some b) :=
  ⟨k.os.trans h.os, k.tape.trans h.tape, k.output.trans h.output, Nat.le_trans h.size k.size, fun x hx hn => (k.block x (Nat.lt_of_lt_of_le hx h.size) hn).trans (h.block x hx hn)⟩
theorem gb_set {w a : World} {b : Nat} (h : w.grownBy a (some b)) (o : Nat) (v : Value) : w.grownBy (a.setCell ⟨b, o, none⟩ v) (some b) :=
  ⟨h.os, h.tape, h.output, by rw [World.size_setCell]; exact h.size, fun x hx hn => (Below.heap_setCell _ _ _ _ (fun e => hn (congrArg some e))).trans (h.block x hx hn)⟩
theorem gb_new {w a : World} {b : Nat} (h : w.grownBy a (some b)) {x : Nat} (hx : w.heap.size ≤ x) (o : Nat) (v : Value) : w.grownBy (a.setCell ⟨x, o, none⟩ v) (some b) :=
  ⟨h.os, h.tape, h.output, by rw [World.size_setCell]; exact h.size, fun y hy hn => (Below.heap_setCell _ _ _ _ (fun e => by have : y = x := e; omega)).trans (h.block y hy hn)⟩
theorem gb_alloc {w a : World} {b : Nat} (h : w.grownBy a (some b)) (o : Obj) : w.grownBy (a.alloc o) (some b) := gb_trans h (World.grownBy_alloc a o _)
theorem gb_drew {w a : World} {b : Nat} (h : w.grownBy a (some b)) (q : Nat) : w.grownBy (a.drewN q) (some b) := ⟨h.os, h.tape, h.output, h.size, h.block⟩
theorem gb_below {w a : World} {b : Nat} (h : Below w.heap.size w a) : w.grownBy a (some b) := ⟨h.os, h.tape, h.output, h.size, fun x hx _ => h.block x hx⟩
theorem Box.grown {w w' : World} {x b : Nat} {xs : Array Value} (h : Box w x xs) (hg : w.grownBy w' (some b)) (hn : x ≠ b) : Box w' x xs :=
  ⟨Nat.lt_of_lt_of_le h.1 hg.size, fun o => (World.cell?_of_block (w := w) (hg.block x h.1 (fun e => hn (Option.some.inj e)))).trans (h.2.1 o),
   fun o => (World.frozen?_of_block (w := w) (hg.block x h.1 (fun e => hn (Option.some.inj e)))).trans (h.2.2 o)⟩

/-! ### A text that is read -/
/-- So many of its bytes have been read: the variable that counts them, and the text, each in a block of its own. -/
structure Rd (w : World) (bA bS : Nat) (L : List Int) (i : Nat) : Prop where
  pos : Box w bA #[.int .i64 ((min i L.length : Nat) : Int)]
  txt : Box w bS #[.string (sb L)]
  ne : bA ≠ bS
theorem Rd.setO {w : World} {bA bS : Nat} {L : List Int} {i : Nat} (h : Rd w bA bS L i) {x : Nat} (o : Nat) (v : Value) (h1 : x ≠ bA) (h2 : x ≠ bS) : Rd (w.setCell ⟨x, o, none⟩ v) bA bS L i :=
  ⟨h.pos.setO x o v h1, h.txt.setO x o v h2, h.ne⟩
theorem Rd.below {w w' : World} {bA bS : Nat} {L : List Int} {i : Nat} (h : Rd w bA bS L i) (hb : Below w.heap.size w w') : Rd w' bA bS L i := ⟨h.pos.below hb, h.txt.below hb, h.ne⟩
theorem Rd.alloc {w : World} {bA bS : Nat} {L : List Int} {i : Nat} (h : Rd w bA bS L i) (o : Obj) : Rd (w.alloc o) bA bS L i := h.below ((Below.refl _ w).onA o)
theorem Rd.drewN {w : World} {bA bS : Nat} {L : List Int} {i : Nat} (h : Rd w bA bS L i) (q : Nat) : Rd (w.drewN q) bA bS L i := h.below ((Below.refl _ w).onD q)
theorem Rd.belowAt {B : Nat} {w w' : World} {bA bS : Nat} {L : List Int} {i : Nat} (h : Rd w bA bS L i) (hb : Below B w w') (h1 : bA < B) (h2 : bS < B) : Rd w' bA bS L i := ⟨h.pos.belowAt hb h1, h.txt.belowAt hb h2, h.ne⟩

theorem wNext_any {w : World} {bA bS : Nat} {L : List Int} {i : Nat} (hL : Byts L) (hm : L.length ≤ 140737488355328) (h : Rd w bA bS L i) :
    Calls Try.prog 50 #[.pointer (some ⟨bA, 0, none⟩), .pointer (some ⟨bS, 0, none⟩)] w fun e w' => e = .returned (.int .i64 (L.getD i 0)) ∧ Rd w' bA bS L (i + 1) ∧ w.grownBy w' (some bA) := by
  have sZ := sb_len L
  have B1 := toHid h.pos
  have B2 := toHid h.txt
  have hne := h.ne
  have hne' : bS ≠ bA := fun e => hne e.symm
  by_cases hlt : i < L.length
  · have e1 : min i L.length = i := by omega
    rw [e1] at B1
    have e2 : Hid (min (i + 1) L.length = i + 1) := toHid (by omega)
    obtain ⟨z, hz, hz0, hz1, hz2⟩ := sb_at hL hlt
    rw [hz]
    clear e1 hz h
    have hn : ¬ (i : Int) = (L.length : Int) := by omega
    have hl' : (i : Int) < (L.length : Int) := by omega
    have hi0 : 0 ≤ (i : Int) := by omega
    obtain ⟨a1, a2, a3⟩ := B1.out
    obtain ⟨b1, b2, b3⟩ := B2.out
    go_enter Try.func50, Try.ntmps50
    go_wp2
    go_ret
    refine ⟨rfl, ⟨?_, ?_, hne⟩, ?_⟩
    · rw [e2.out]
      exact B1.out.setS 0 _ (by simp) (by simp)
    · exact B2.out.setO _ _ _ hne
    · exact gb_set (World.grownBy.refl w _) _ _
  · have e1 : min i L.length = L.length := by omega
    rw [e1] at B1
    have e2 : Hid (min (i + 1) L.length = L.length) := toHid (by omega)
    have e3 : L.getD i 0 = 0 := by simp [List.getD, show L.length ≤ i by omega]
    rw [e3]
    clear e1 e3 h
    obtain ⟨a1, a2, a3⟩ := B1.out
    obtain ⟨b1, b2, b3⟩ := B2.out
    go_enter Try.func50, Try.ntmps50
    go_wp2
    go_ret
    exact ⟨rfl, ⟨by rw [e2.out]; exact B1.out, B2.out, hne⟩, World.grownBy.refl w _⟩

end Go.Proofs.Ytkalamplagopnaa
