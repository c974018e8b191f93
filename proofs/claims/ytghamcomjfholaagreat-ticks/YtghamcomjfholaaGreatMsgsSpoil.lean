
/-
  The statements' own helpers on lists of messages: copying, comparing.
-/
import Derived.Test.YtghamcomjfholaaGreatMsgsMem
import Derived.Test.YtghamcomjfholaaGreatSameM
import Derived.Test.YtghamcomjfholaaGreatOld
import Derived.BigRegion
namespace Go.Proofs.YtghamcomjfholaaGreat
open Go.ChangeShapes Go.WideShapes Go.ChangeAt Go.RowKit

/-- What stands at place j, cell by cell. -/
theorem MgAt.cells {lo hi : Nat} {w : World} {b o : Nat} {x : MgO} (h : MgAt lo hi w b o x) :
    w.cell? ⟨b, o, none⟩ = some (.int .i64 x.n) ∧ w.cell? ⟨b, o + 1, none⟩ = some (.int .i64 x.a) ∧ w.cell? ⟨b, o + 2, none⟩ = some (.int .i64 x.b) ∧ w.cell? ⟨b, o + 3, none⟩ = some x.v ∧ w.cell? ⟨b, o + 4, none⟩ = some (.int .i64 x.k) ∧ w.cell? ⟨b, o + 5, none⟩ = some (.int .i64 x.t.k) ∧
    w.cell? ⟨b, o + 6, none⟩ = some (.int .i64 x.t.c) ∧ w.cell? ⟨b, o + 7, none⟩ = some (.int .i64 x.t.u) ∧ w.cell? ⟨b, o + 8, none⟩ = some (.int .i64 x.t.x) ∧ w.cell? ⟨b, o + 9, none⟩ = some (.bool x.t.g) ∧ w.cell? ⟨b, o + 10, none⟩ = some (.bool x.h) :=
  ⟨h.1 0 (by decide), h.1 1 (by decide), h.1 2 (by decide), h.1 3 (by decide), h.1 4 (by decide), h.1 5 (by decide), h.1 6 (by decide), h.1 7 (by decide), h.1 8 (by decide), h.1 9 (by decide), h.1 10 (by decide)⟩

end Go.Proofs.YtghamcomjfholaaGreat

namespace Go.Proofs.YtghamcomjfholaaGreat
open Go.ChangeShapes Go.WideShapes Go.ChangeAt Go.RowKit

/-- Nothing has turned but cells of block b that held ints: they hold ints still. -/
structure Turn (b : Nat) (w w' : World) : Prop where
  grown : w.grownBy w' (some b)
  ints : ∀ a z, w.cell? a = some (.int .i64 z) → ∃ z', w'.cell? a = some (.int .i64 z')
  frozen : ∀ a, a.block < w.heap.size → w'.frozen? a = w.frozen? a
theorem Turn.refl (b : Nat) (w : World) : Turn b w w := ⟨World.grownBy_refl w _, fun _ z h => ⟨z, h⟩, fun _ _ => rfl⟩
theorem Turn.set {b : Nat} {w w' : World} (h : Turn b w w') {o : Nat} {z : Int} (hc : ∃ y, w'.cell? ⟨b, o, none⟩ = some (.int .i64 y)) (z' : Int) (_ : z' = z) : Turn b w (w'.setCell ⟨b, o, none⟩ (.int .i64 z')) := by
  refine ⟨⟨h.grown.os, h.grown.tape, h.grown.output, by rw [World.size_setCell]; exact h.grown.size, fun x hx hn => (Below.heap_setCell _ _ _ _ (fun e => hn (congrArg some e))).trans (h.grown.block x hx hn)⟩, fun a y hy => ?_, fun a ha => (World.frozen?_setCell _ _ _ _).trans (h.frozen a ha)⟩
  obtain ⟨y', hy'⟩ := h.ints a y hy
  by_cases e : a = ⟨b, o, none⟩
  · obtain ⟨y2, hc⟩ := hc
    subst e
    exact ⟨_, World.cell?_setCell_same _ _ _ hc⟩
  · exact ⟨y', (World.cell?_setCell_other _ _ _ _ (fun e' => e e'.symm)).trans hy'⟩

set_option maxHeartbeats 400000 in
theorem spoilInts_fine {w : World} {b : Nat} {p : Option Addr} {n c : Nat} (hn : n ≤ 9223372036854775807) (hp : 0 < n → p = some ⟨b, 0, none⟩) (hc : ∀ j, j < n → (∃ z, w.cell? ⟨b, j, none⟩ = some (.int .i64 z)) ∧ w.frozen? ⟨b, j, none⟩ = false) :
    Calls Tryz.prog 31 #[.slice p n c] w fun e w' => e = .returned (.tuple #[]) ∧ Turn b w w' := by
  have hlt0 : ∀ j, j < n → b < w.heap.size := fun j hj => by
    obtain ⟨z, hz⟩ := (hc j hj).1
    exact World.block_lt_of_cell? _ _ hz
  go_enter Tryz.func31, Tryz.ntmps31
  go_wp2
  go_loopw [2] (fun i wr => ∃ k : Nat, k ≤ n ∧ i = .int .i64 k ∧ Turn b w wr) (fun i _ => n - (intOf i).toNat)
  case atStart => exact ⟨0, Nat.zero_le _, rfl, Turn.refl _ _⟩
  case round =>
    obtain ⟨k, hk, rfl, ht⟩ := hrel
    by_cases hlt : k < n
    · obtain rfl := hp (by omega)
      obtain ⟨z, hz⟩ := (hc k hlt).1
      obtain ⟨y, hc1⟩ := ht.ints _ _ hz
      have hf1 : wr.frozen? ⟨b, k, none⟩ = false := (ht.frozen _ (hlt0 k hlt)).trans (hc k hlt).2
      have hlt' : (k : Int) < (n : Int) := by omega
      have T := toHid (fun z' : Int => ht.set (o := k) ⟨y, hc1⟩ z' rfl)
      clear hp hc hlt0 ht hz
      go_wp2
      go_roundw
      case rel => exact ⟨k + 1, by omega, by go_num, T.out _⟩
      case measure => simp [intOf]; omega
    · replace ht := toHid ht
      clear hc hp hlt0
      go_wp2
      go_end0
      exact ⟨rfl, ht.out⟩

/-- So far written over: nothing old has turned; ints are ints still; the row's slices stand. -/
structure Spt (base g : Nat) (w wr : World) : Prop where
  below : Below base w wr
  ints : ∀ a z, w.cell? a = some (.int .i64 z) → ∃ z', wr.cell? a = some (.int .i64 z')
  frozen : ∀ a, a.block < w.heap.size → wr.frozen? a = w.frozen? a
  vs : ∀ j, wr.cell? ⟨g, j * 11 + 3, none⟩ = w.cell? ⟨g, j * 11 + 3, none⟩
theorem Spt.refl (base g : Nat) (w : World) : Spt base g w w := ⟨Below.refl _ _, fun _ z h => ⟨z, h⟩, fun _ _ => rfl, fun _ => rfl⟩
theorem Spt.turn {base g b : Nat} {w wr w2 : World} (h : Spt base g w wr) (hg : g < w.heap.size) (hb : base ≤ w.heap.size) (t : Turn b wr w2) (h1 : base ≤ b) (h2 : b ≠ g) : Spt base g w w2 :=
  ⟨h.below.grown t.grown (Nat.le_trans hb h.below.size) (fun q hq => by cases hq; exact h1), fun a z hz => by
    obtain ⟨z', hz'⟩ := h.ints a z hz
    exact t.ints a z' hz', fun a ha => (t.frozen a (Nat.lt_of_lt_of_le ha h.below.size)).trans (h.frozen a ha),
   fun j => (World.cell?_of_block (t.grown.block g (Nat.lt_of_lt_of_le hg h.below.size) (fun e => h2 (Option.some.inj e).symm))).trans (h.vs j)⟩
theorem Spt.set {base g : Nat} {w wr : World} (h : Spt base g w wr) (h1 : base ≤ g) {i : Nat} (hc : ∃ y, wr.cell? ⟨g, i * 11, none⟩ = some (.int .i64 y)) (z : Int) : Spt base g w (wr.setCell ⟨g, i * 11, none⟩ (.int .i64 z)) := by
  refine ⟨h.below.setCell (p := ⟨g, i * 11, none⟩) h1 _, fun a y hy => ?_, fun a ha => (World.frozen?_setCell _ _ _ _).trans (h.frozen a ha), fun j => ?_⟩
  · obtain ⟨y', hy'⟩ := h.ints a y hy
    by_cases e : a = ⟨g, i * 11, none⟩
    · obtain ⟨y2, hc⟩ := hc
      subst e
      exact ⟨_, World.cell?_setCell_same _ _ _ hc⟩
    · exact ⟨y', (World.cell?_setCell_other _ _ _ _ (fun e' => e e'.symm)).trans hy'⟩
  · exact (World.cell?_setCell_other _ _ _ _ (fun e => by have := congrArg Addr.off e; simp at this; omega)).trans (h.vs j)

set_option maxHeartbeats 2000000 in
theorem spoilMsgs_any {base : Nat} {w : World} {v : Value} {ms : List Mg} (h : OwnM base w v ms) (hbase : base ≤ w.heap.size) (hn : ms.length ≤ 9223372036854775807) :
    Calls Tryz.prog 11 #[v] w fun e w' => e = .returned (.tuple #[]) ∧ Below base w w' := by
  by_cases h0 : ms.length = 0
  · obtain ⟨p, c, rfl⟩ := h.cap
    rw [h0]
    clear h h0
    go_enter Tryz.func11, Tryz.ntmps11
    go_wp2
    go_loopw [2] (fun i wr => i = .int .i64 0 ∧ wr = w) (fun _ _ => 0)
    case atStart => exact ⟨rfl, rfl⟩
    case round =>
      obtain ⟨rfl, rfl⟩ := hrel
      go_wp2
      go_end0
      exact ⟨rfl, Below.refl _ _⟩
  · obtain ⟨g, c, xs, rfl, hc, hg0, hg1, em, cc, oi⟩ := h.at (by omega)
    have hxl : xs.length = ms.length := by rw [← em]; simp
    obtain ⟨ys, -, r, -⟩ := h
    have K1 : Hid (∀ i, i < ms.length → ∃ (p : Option Addr) (n cx b : Nat), w.cell? ⟨g, i * 11 + 3, none⟩ = some (.slice p n cx) ∧ n ≤ 9223372036854775807 ∧ base ≤ b ∧ b ≠ g ∧ (0 < n → p = some ⟨b, 0, none⟩) ∧ ∀ j, j < n → (∃ z, w.cell? ⟨b, j, none⟩ = some (.int .i64 z)) ∧ w.frozen? ⟨b, j, none⟩ = false) := toHid (by
      intro i hi
      have hx : i < xs.length := by omega
      have o := oi _ (List.getElem_mem hx)
      have hv : w.cell? ⟨g, i * 11 + 3, none⟩ = some xs[i].v := by
        rw [cc (i * 11 + 3) (by omega), flat_at MvV_len xs i 3 hx (by decide)]
        rfl
      have ap := apart_own o r (by decide)
      have o0 := o
      rcases o.2 with ⟨e, e2⟩ | ⟨b, cx, cur, e, hb, hh, hle, hcap, -⟩
      · exact ⟨none, 0, 0, g + base + 1, by rw [hv, e], by decide, by omega, by omega, fun q => by omega, fun j hj => by omega⟩
      · refine ⟨_, _, cx, b, by rw [hv, e], by unfold maxLen at hcap; omega, hb, ?_, fun _ => rfl, fun j hj => ⟨?_, ?_⟩⟩
        · intro e2
          subst e2
          rw [e] at ap
          rcases ap with ap | ap
          · cases ap
          · exact ap rfl
        · refine ⟨xs[i].is.getD j 0, ?_⟩
          rw [e] at o0
          rw [o0.cellAt j (by omega)]
          simp [List.getD, hj]
        · rw [e] at o0
          exact o0.frozenAt j)
    have K2 : Hid (∀ i, i < ms.length → (∃ z, w.cell? ⟨g, i * 11, none⟩ = some (.int .i64 z)) ∧ w.frozen? ⟨g, i * 11, none⟩ = false) := toHid (by
      intro i hi
      have hx : i < xs.length := by omega
      refine ⟨⟨xs[i].n, ?_⟩, r.frozenAt _⟩
      have := cc (i * 11 + 0) (by omega)
      rw [flat_at MvV_len xs i 0 hx (by decide)] at this
      exact this)
    clear em cc oi r hxl h0 hc
    go_enter Tryz.func11, Tryz.ntmps11
    go_wp2
    go_loopw [2] (fun s2 wr => ∃ i : Nat, i ≤ ms.length ∧ s2 = .int .i64 i ∧ Spt base g w wr) (fun s2 _ => ms.length - (intOf s2).toNat)
    case atStart => exact ⟨0, Nat.zero_le _, rfl, Spt.refl _ _ _⟩
    case round =>
      obtain ⟨i, hi, rfl, hs⟩ := hrel
      by_cases hlt : i < ms.length
      · obtain ⟨p, n, cx, b, k1, k2, k3, k4, k5, k6⟩ := K1.out i hlt
        have c3 := (hs.vs i).trans k1
        have hlt' : (i : Int) < (ms.length : Int) := by omega
        have hi0 : 0 ≤ (i : Int) := by omega
        have k6' : ∀ j, j < n → (∃ z, wr.cell? ⟨b, j, none⟩ = some (.int .i64 z)) ∧ wr.frozen? ⟨b, j, none⟩ = false := fun j hj => by
          obtain ⟨⟨z, hz⟩, hf⟩ := k6 j hj
          exact ⟨hs.ints _ _ hz, (hs.frozen _ (World.block_lt_of_cell? _ _ hz)).trans hf⟩
        have HC := toHid (spoilInts_fine (c := cx) k2 k5 k6')
        replace hs := toHid hs
        clear k1 k2 k5 k6 k6'
        go_wp2_with (first
          | (go_at_call 31; refine HC.out.mono ?_; rintro e w5 ⟨rfl, t5⟩
             have hs5 := hs.out.turn hg1 hbase t5 k3 k4
             obtain ⟨⟨z, hz⟩, hf⟩ := K2.out i hlt
             obtain ⟨z5, hz5⟩ := hs5.ints _ _ hz
             have hf5 := (hs5.frozen ⟨g, i * 11, none⟩ hg1).trans hf
             have T := toHid (fun z' : Int => hs5.set hg0 (i := i) ⟨z5, hz5⟩ z')
             clear t5 hs5 hz hf c3))
        go_roundw
        case rel => exact ⟨i + 1, by omega, by go_num, T.out _⟩
        case measure => simp [intOf]; omega
      · replace hs := toHid hs
        go_wp2
        go_end0
        exact ⟨rfl, hs.out.below⟩

end Go.Proofs.YtghamcomjfholaaGreat
