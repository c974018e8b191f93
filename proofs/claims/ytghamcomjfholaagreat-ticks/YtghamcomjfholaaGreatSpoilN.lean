
/-
  Writing over what a call has answered: nothing turns but ints of blocks from lo on and below hi, and ints are ints still.
-/
import Derived.Test.YtghamcomjfholaaGreatOld
import Derived.Test.YtghamcomjfholaaGreatOnly
import Derived.Test.YtghamcomjfholaaGreatIntRow
import Derived.Test.YtghamcomjfholaaGreatMsgRow
namespace Go.Proofs.YtghamcomjfholaaGreat
open Go.ChangeShapes Go.WideShapes Go.ChangeAt Go.RowKit

/-- Nothing has turned but cells of blocks from lo on and below hi; ints are ints still. -/
structure Spl (lo hi : Nat) (w w' : World) : Prop where
  below : Below lo w w'
  off : ∀ b, b < w.heap.size → b < lo ∨ hi ≤ b → w'.heap[b]? = w.heap[b]?
  ints : ∀ a z, w.cell? a = some (.int .i64 z) → ∃ z', w'.cell? a = some (.int .i64 z')
  frozen : ∀ a, a.block < w.heap.size → w'.frozen? a = w.frozen? a
theorem Spl.refl (lo hi : Nat) (w : World) : Spl lo hi w w := ⟨Below.refl _ _, fun _ _ _ => rfl, fun _ z h => ⟨z, h⟩, fun _ _ => rfl⟩
theorem Spl.trans {lo hi : Nat} {w w1 w2 : World} (h : Spl lo hi w w1) (h2 : Spl lo hi w1 w2) : Spl lo hi w w2 :=
  ⟨h.below.trans h2.below, fun b hb hn => (h2.off b (Nat.lt_of_lt_of_le hb h.below.size) hn).trans (h.off b hb hn), fun a z hz => by
    obtain ⟨z', hz'⟩ := h.ints a z hz
    exact h2.ints a z' hz', fun a ha => (h2.frozen a (Nat.lt_of_lt_of_le ha h.below.size)).trans (h.frozen a ha)⟩
theorem Spl.wide {lo hi lo' hi' : Nat} {w w' : World} (h : Spl lo hi w w') (h1 : lo' ≤ lo) (h2 : hi ≤ hi') : Spl lo' hi' w w' :=
  ⟨h.below.mono h1, fun b hb hn => h.off b hb (by omega), h.ints, h.frozen⟩
theorem Spl.set {lo hi g : Nat} {w wr : World} (h : Spl lo hi w wr) (h1 : lo ≤ g) (h2 : g < hi) {o : Nat} (hc : ∃ y, wr.cell? ⟨g, o, none⟩ = some (.int .i64 y)) (z : Int) : Spl lo hi w (wr.setCell ⟨g, o, none⟩ (.int .i64 z)) := by
  refine ⟨h.below.setCell (p := ⟨g, o, none⟩) h1 _, fun x hx hn => (Below.heap_setCell _ _ _ _ (fun e : x = g => by omega)).trans (h.off x hx hn), fun a y hy => ?_, fun a ha => (World.frozen?_setCell _ _ _ _).trans (h.frozen a ha)⟩
  obtain ⟨y', hy'⟩ := h.ints a y hy
  by_cases e : a = ⟨g, o, none⟩
  · obtain ⟨y2, hc⟩ := hc
    subst e
    exact ⟨_, World.cell?_setCell_same _ _ _ hc⟩
  · exact ⟨y', (World.cell?_setCell_other _ _ _ _ (fun e' => e e'.symm)).trans hy'⟩
/-- A call that turns no old memory. -/
theorem Spl.of_below {lo hi : Nat} {w w' : World} (h : Below w.heap.size w w') (hl : lo ≤ w.heap.size) : Spl lo hi w w' :=
  ⟨h.mono hl, fun b hb _ => h.block b hb, fun a z hz => ⟨z, (h.cell (p := a) (World.block_lt_of_cell? _ _ hz)).trans hz⟩, fun a ha => h.frozen (p := a) ha⟩
theorem Spl.cell {lo hi : Nat} {w w' : World} (h : Spl lo hi w w') {b : Nat} (hb : b < w.heap.size) (hn : b < lo ∨ hi ≤ b) (o : Nat) : w'.cell? ⟨b, o, none⟩ = w.cell? ⟨b, o, none⟩ := World.cell?_of_block (h.off b hb hn)
theorem Box.spl {lo hi b : Nat} {w w' : World} {xs : Array Value} (h : Box w b xs) (s : Spl lo hi w w') (hn : b < lo ∨ hi ≤ b) : Box w' b xs :=
  ⟨Nat.lt_of_lt_of_le h.1 s.below.size, fun o => (s.cell h.1 hn o).trans (h.2.1 o), fun o => (World.frozen?_of_block (s.off b h.1 hn)).trans (h.2.2 o)⟩

/-- A row of n structs of k cells each, whose f-th cells are ints that may be written over. -/
structure IntsIn (k f lo hi : Nat) (w : World) (v : Value) (n : Nat) : Prop where
  out : n ≤ 9223372036854775807 ∧ ∃ p c b off, v = .slice p n c ∧ lo ≤ b ∧ (0 < n → p = some ⟨b, off, none⟩ ∧ b < hi) ∧ ∀ j, j < n → (∃ z, w.cell? ⟨b, off + j * k + f, none⟩ = some (.int .i64 z)) ∧ w.frozen? ⟨b, off + j * k + f, none⟩ = false
theorem IntsIn.of_row {α : Type} {k f lo hi : Nat} {enc : α → List Value} {w : World} {v : Value} {xs : List α} (h : RowC k enc lo hi w v xs) (henc : ∀ a, (enc a).length = k) (hf : f < k) (hi' : ∀ a, ∃ z, (enc a)[f]? = some (.int .i64 z)) : IntsIn k f lo hi w v xs.length := by
  obtain ⟨p, c, rfl, hl, hc, hx⟩ := h
  unfold maxLen at hc
  by_cases h0 : xs = []
  · subst h0
    exact ⟨Nat.zero_le _, p, c, lo, 0, rfl, Nat.le_refl _, fun q => absurd q (Nat.lt_irrefl _), fun j hj => absurd hj (Nat.not_lt_zero _)⟩
  · obtain ⟨b, off, rfl, h1, h2, h3⟩ := hx h0
    refine ⟨by omega, _, c, b, off, rfl, h1, fun _ => ⟨rfl, h2⟩, fun j hj => ?_⟩
    have hlt : j * k + f < xs.length * k := by
      have := Nat.mul_le_mul_right k (show j + 1 ≤ xs.length by omega)
      rw [Nat.add_mul, Nat.one_mul] at this
      omega
    have := h3 (j * k + f) hlt
    rw [flat_at henc xs j f hj hf, ← Nat.add_assoc] at this
    obtain ⟨z, hz⟩ := hi' xs[j]
    exact ⟨⟨z, this.1.trans hz⟩, this.2⟩
theorem IntsIn.of_int {lo hi : Nat} {w : World} {v : Value} {xs : List Int} (h : RowI lo hi w v xs) : IntsIn 1 0 lo hi w v xs.length := by
  obtain ⟨p, c, rfl, hl, hc, hx⟩ := h
  unfold maxLen at hc
  by_cases h0 : xs = []
  · subst h0
    exact ⟨Nat.zero_le _, p, c, lo, 0, rfl, Nat.le_refl _, fun q => absurd q (Nat.lt_irrefl _), fun j hj => absurd hj (Nat.not_lt_zero _)⟩
  · obtain ⟨b, off, rfl, h1, h2, h3⟩ := hx h0
    refine ⟨by omega, _, c, b, off, rfl, h1, fun _ => ⟨rfl, h2⟩, fun j hj => ?_⟩
    rw [Nat.mul_one, Nat.add_zero]
    exact ⟨⟨_, (h3 j hj).1⟩, (h3 j hj).2⟩
theorem IntsIn.below {k f lo hi : Nat} {w w' : World} {v : Value} {n : Nat} (h : IntsIn k f lo hi w v n) (hb : Below w.heap.size w w') : IntsIn k f lo hi w' v n := by
  obtain ⟨hn, p, c, b, off, e, h0, h1, h2⟩ := h
  refine ⟨hn, p, c, b, off, e, h0, h1, fun j hj => ?_⟩
  obtain ⟨⟨z, hz⟩, hf⟩ := h2 j hj
  have hb' := World.block_lt_of_cell? _ _ hz
  exact ⟨⟨z, (hb.cell (p := ⟨b, off + j * k + f, none⟩) hb').trans hz⟩, (hb.frozen (p := ⟨b, off + j * k + f, none⟩) hb').trans hf⟩
theorem IntsIn.spl {k f lo hi lo' hi' : Nat} {w w' : World} {v : Value} {n : Nat} (h : IntsIn k f lo hi w v n) (s : Spl lo' hi' w w') : IntsIn k f lo hi w' v n := by
  obtain ⟨hn, p, c, b, off, e, h0, h1, h2⟩ := h
  refine ⟨hn, p, c, b, off, e, h0, h1, fun j hj => ?_⟩
  obtain ⟨⟨z, hz⟩, hf⟩ := h2 j hj
  exact ⟨s.ints _ z hz, (s.frozen ⟨b, off + j * k + f, none⟩ (World.block_lt_of_cell? _ _ hz)).trans hf⟩

set_option maxHeartbeats 1000000 in
theorem spoilInts_in {lo hi : Nat} {w : World} {v : Value} {n : Nat} (h : IntsIn 1 0 lo hi w v n) (_ : lo ≤ w.heap.size) :
    Calls Tryz.prog 31 #[v] w fun e w' => e = .returned (.tuple #[]) ∧ Spl lo hi w w' := by
  obtain ⟨hn, p, c, b, off, rfl, h0, h1, h2⟩ := h
  go_enter Tryz.func31, Tryz.ntmps31
  go_wp2
  go_loopw [2] (fun s2 wr => ∃ i : Nat, i ≤ n ∧ s2 = .int .i64 i ∧ Spl lo hi w wr) (fun s2 _ => n - (intOf s2).toNat)
  case atStart => exact ⟨0, Nat.zero_le _, rfl, Spl.refl _ _ _⟩
  case round =>
    obtain ⟨i, hi, rfl, hs⟩ := hrel
    by_cases hlt : i < n
    · obtain ⟨rfl, hbh⟩ := h1 (by omega)
      obtain ⟨⟨z, hz⟩, hf⟩ := h2 i hlt
      have hfr := (hs.frozen _ (World.block_lt_of_cell? _ _ hz)).trans hf
      obtain ⟨z', hz'⟩ := hs.ints _ _ hz
      have hlt' : (i : Int) < (n : Int) := by omega
      have hi0 : 0 ≤ (i : Int) := by omega
      have T := toHid (fun y : Int => hs.set h0 hbh ⟨z', hz'⟩ y)
      simp only [Nat.mul_one, Nat.add_zero] at hz' hfr T
      clear h1 h2 hz hf hs
      go_wp2
      go_roundw
      case rel => exact ⟨i + 1, by omega, by go_num, T.out _⟩
      case measure => simp [intOf]; omega
    · replace hs := toHid hs
      clear h1 h2
      go_wp2
      go_end0
      exact ⟨rfl, hs.out⟩

set_option maxHeartbeats 1000000 in
theorem spoilPeers_in {lo hi : Nat} {w : World} {v : Value} {n : Nat} (h : IntsIn 2 1 lo hi w v n) (_ : lo ≤ w.heap.size) :
    Calls Tryz.prog 53 #[v] w fun e w' => e = .returned (.tuple #[]) ∧ Spl lo hi w w' := by
  obtain ⟨hn, p, c, b, off, rfl, h0, h1, h2⟩ := h
  go_enter Tryz.func53, Tryz.ntmps53
  go_wp2
  go_loopw [2] (fun s2 wr => ∃ i : Nat, i ≤ n ∧ s2 = .int .i64 i ∧ Spl lo hi w wr) (fun s2 _ => n - (intOf s2).toNat)
  case atStart => exact ⟨0, Nat.zero_le _, rfl, Spl.refl _ _ _⟩
  case round =>
    obtain ⟨i, hi, rfl, hs⟩ := hrel
    by_cases hlt : i < n
    · obtain ⟨rfl, hbh⟩ := h1 (by omega)
      obtain ⟨⟨z, hz⟩, hf⟩ := h2 i hlt
      have hfr := (hs.frozen _ (World.block_lt_of_cell? _ _ hz)).trans hf
      obtain ⟨z', hz'⟩ := hs.ints _ _ hz
      have hlt' : (i : Int) < (n : Int) := by omega
      have hi0 : 0 ≤ (i : Int) := by omega
      have T := toHid (fun y : Int => hs.set h0 hbh ⟨z', hz'⟩ y)
      skip
      clear h1 h2 hz hf hs
      go_wp2
      go_roundw
      case rel => exact ⟨i + 1, by omega, by go_num, T.out _⟩
      case measure => simp [intOf]; omega
    · replace hs := toHid hs
      clear h1 h2
      go_wp2
      go_end0
      exact ⟨rfl, hs.out⟩

set_option maxHeartbeats 1000000 in
theorem spoilItems_in {lo hi : Nat} {w : World} {v : Value} {n : Nat} (h : IntsIn 5 3 lo hi w v n) (_ : lo ≤ w.heap.size) :
    Calls Tryz.prog 29 #[v] w fun e w' => e = .returned (.tuple #[]) ∧ Spl lo hi w w' := by
  obtain ⟨hn, p, c, b, off, rfl, h0, h1, h2⟩ := h
  go_enter Tryz.func29, Tryz.ntmps29
  go_wp2
  go_loopw [2] (fun s2 wr => ∃ i : Nat, i ≤ n ∧ s2 = .int .i64 i ∧ Spl lo hi w wr) (fun s2 _ => n - (intOf s2).toNat)
  case atStart => exact ⟨0, Nat.zero_le _, rfl, Spl.refl _ _ _⟩
  case round =>
    obtain ⟨i, hi, rfl, hs⟩ := hrel
    by_cases hlt : i < n
    · obtain ⟨rfl, hbh⟩ := h1 (by omega)
      obtain ⟨⟨z, hz⟩, hf⟩ := h2 i hlt
      have hfr := (hs.frozen _ (World.block_lt_of_cell? _ _ hz)).trans hf
      obtain ⟨z', hz'⟩ := hs.ints _ _ hz
      have hlt' : (i : Int) < (n : Int) := by omega
      have hi0 : 0 ≤ (i : Int) := by omega
      have T := toHid (fun y : Int => hs.set h0 hbh ⟨z', hz'⟩ y)
      skip
      clear h1 h2 hz hf hs
      go_wp2
      go_roundw
      case rel => exact ⟨i + 1, by omega, by go_num, T.out _⟩
      case measure => simp [intOf]; omega
    · replace hs := toHid hs
      clear h1 h2
      go_wp2
      go_end0
      exact ⟨rfl, hs.out⟩

set_option maxHeartbeats 1000000 in
theorem spoilTolds_in {lo hi : Nat} {w : World} {v : Value} {n : Nat} (h : IntsIn 3 2 lo hi w v n) (_ : lo ≤ w.heap.size) :
    Calls Tryz.prog 30 #[v] w fun e w' => e = .returned (.tuple #[]) ∧ Spl lo hi w w' := by
  obtain ⟨hn, p, c, b, off, rfl, h0, h1, h2⟩ := h
  go_enter Tryz.func30, Tryz.ntmps30
  go_wp2
  go_loopw [2] (fun s2 wr => ∃ i : Nat, i ≤ n ∧ s2 = .int .i64 i ∧ Spl lo hi w wr) (fun s2 _ => n - (intOf s2).toNat)
  case atStart => exact ⟨0, Nat.zero_le _, rfl, Spl.refl _ _ _⟩
  case round =>
    obtain ⟨i, hi, rfl, hs⟩ := hrel
    by_cases hlt : i < n
    · obtain ⟨rfl, hbh⟩ := h1 (by omega)
      obtain ⟨⟨z, hz⟩, hf⟩ := h2 i hlt
      have hfr := (hs.frozen _ (World.block_lt_of_cell? _ _ hz)).trans hf
      obtain ⟨z', hz'⟩ := hs.ints _ _ hz
      have hlt' : (i : Int) < (n : Int) := by omega
      have hi0 : 0 ≤ (i : Int) := by omega
      have T := toHid (fun y : Int => hs.set h0 hbh ⟨z', hz'⟩ y)
      skip
      clear h1 h2 hz hf hs
      go_wp2
      go_roundw
      case rel => exact ⟨i + 1, by omega, by go_num, T.out _⟩
      case measure => simp [intOf]; omega
    · replace hs := toHid hs
      clear h1 h2
      go_wp2
      go_end0
      exact ⟨rfl, hs.out⟩

end Go.Proofs.YtghamcomjfholaaGreat

namespace Go.Proofs.YtghamcomjfholaaGreat
open Go.ChangeShapes Go.WideShapes Go.ChangeAt Go.RowKit

theorem IntsIn.slice {k f lo hi : Nat} {w : World} {v : Value} {n : Nat} (h : IntsIn k f lo hi w v n) : ∃ p c, v = .slice p n c := by
  obtain ⟨-, p, c, b, off, e, -⟩ := h
  exact ⟨p, c, e⟩

set_option maxHeartbeats 1000000 in
theorem spoilView_in {lo hi : Nat} {w : World} {p q : Value} {n m : Nat} (i : Int) (h1 : IntsIn 2 1 lo hi w p n) (h2 : IntsIn 1 0 lo hi w q m) (hl : lo ≤ w.heap.size) (hh : hi ≤ w.heap.size) :
    Calls Tryz.prog 28 #[.agg #[.int .i64 i, p, q]] w fun e w' => e = .returned (.tuple #[]) ∧ Spl lo hi w w' := by
  have H1 := toHid (fun o : Obj => spoilPeers_in (h1.below ((Below.refl _ w).onA o)) (Nat.le_trans hl (by simp)))
  have H2 := toHid (fun (o : Obj) (w1 : World) (s : Spl lo hi (w.alloc o) w1) => spoilInts_in ((h2.below ((Below.refl _ w).onA o)).spl s) (Nat.le_trans (Nat.le_trans hl (by simp)) s.below.size))
  have B1 := toHid (fun (cs : Array Value) (t : TypeId) => Box.new w cs t)
  have S0 := toHid (fun o : Obj => Spl.of_below (lo := lo) (hi := hi) ((Below.refl _ w).onA o) hl)
  obtain ⟨a, c, rfl⟩ := h1.slice
  obtain ⟨a', c', rfl⟩ := h2.slice
  clear h1 h2
  go_enter Tryz.func28, Tryz.ntmps28
  go_wp2_with (first
    | (go_at_call 53; refine (H1.out _).mono ?_; rintro e w1 ⟨rfl, s1⟩
       have k1 := toHid s1
       obtain ⟨b1, b2, b3⟩ := (B1.out _ _).spl s1 (.inr hh)
       clear s1)
    | (go_at_call 31; refine (H2.out _ _ k1.out).mono ?_; rintro e w2 ⟨rfl, s2⟩))
  go_end0
  exact ⟨rfl, ((S0.out _).trans k1.out).trans s2⟩

set_option maxHeartbeats 1000000 in
theorem spoilNode_in {lo hi : Nat} {w : World} {p q r s : Value} {n m k l : Nat} (up : Bool) (i : Int) (h1 : IntsIn 2 1 lo hi w p n) (h2 : IntsIn 1 0 lo hi w q m) (h3 : IntsIn 5 3 lo hi w r k) (h4 : IntsIn 3 2 lo hi w s l) (hl : lo ≤ w.heap.size) (hh : hi ≤ w.heap.size) :
    Calls Tryz.prog 10 #[.agg #[.bool up, .int .i64 i, p, q, r, s]] w fun e w' => e = .returned (.tuple #[]) ∧ Spl lo hi w w' := by
  have H1 := toHid (fun o : Obj => spoilView_in i (h1.below ((Below.refl _ w).onA o)) (h2.below ((Below.refl _ w).onA o)) (Nat.le_trans hl (by simp)) (Nat.le_trans hh (by simp)))
  have H2 := toHid (fun (o : Obj) (w1 : World) (s : Spl lo hi (w.alloc o) w1) => spoilItems_in ((h3.below ((Below.refl _ w).onA o)).spl s) (Nat.le_trans (Nat.le_trans hl (by simp)) s.below.size))
  have H3 := toHid (fun (o : Obj) (w1 : World) (s : Spl lo hi (w.alloc o) w1) => spoilTolds_in ((h4.below ((Below.refl _ w).onA o)).spl s) (Nat.le_trans (Nat.le_trans hl (by simp)) s.below.size))
  have B1 := toHid (fun (cs : Array Value) (t : TypeId) => Box.new w cs t)
  have S0 := toHid (fun o : Obj => Spl.of_below (lo := lo) (hi := hi) ((Below.refl _ w).onA o) hl)
  obtain ⟨a, c, rfl⟩ := h1.slice
  obtain ⟨a', c', rfl⟩ := h2.slice
  obtain ⟨a2, c2, rfl⟩ := h3.slice
  obtain ⟨a3, c3, rfl⟩ := h4.slice
  clear h1 h2 h3 h4
  go_enter Tryz.func10, Tryz.ntmps10
  go_wp2_with (first
    | (go_at_call 28; refine (H1.out _).mono ?_; rintro e w1 ⟨rfl, s1⟩
       have k1 := toHid s1
       obtain ⟨b1, b2, b3⟩ := (B1.out _ _).spl s1 (.inr hh)
       clear s1)
    | (go_at_call 29; refine (H2.out _ _ k1.out).mono ?_; rintro e w2 ⟨rfl, s2⟩
       have k2 := toHid (k1.out.trans s2)
       clear s2 b1 b2 b3
       obtain ⟨b1, b2, b3⟩ := (B1.out _ _).spl k2.out (.inr hh))
    | (go_at_call 30; refine (H3.out _ _ k2.out).mono ?_; rintro e w3 ⟨rfl, s3⟩))
  go_end0
  exact ⟨rfl, ((S0.out _).trans k2.out).trans s3⟩

end Go.Proofs.YtghamcomjfholaaGreat

namespace Go.Proofs.YtghamcomjfholaaGreat
open Go.ChangeShapes Go.WideShapes Go.ChangeAt Go.RowKit

structure SpN (lo hi : Nat) (w : World) (p q r s : Value) (n m k l : Nat) : Prop where
  a : IntsIn 2 1 lo hi w p n
  b : IntsIn 1 0 lo hi w q m
  c : IntsIn 5 3 lo hi w r k
  d : IntsIn 3 2 lo hi w s l
theorem NdAt.spn {lo hi : Nat} {w : World} {p q r s : Value} {ps : List Pe} {is : List Int} {ts : List It} {ls : List Te} (h : NdAt lo hi w p q r s ps is ts ls) : SpN lo hi w p q r s ps.length is.length ts.length ls.length :=
  ⟨IntsIn.of_row h.vw.ps PeV_len (by decide) (fun a => ⟨a.m, rfl⟩), IntsIn.of_int h.vw.is, IntsIn.of_row h.ts ItV_len (by decide) (fun a => ⟨a.x, rfl⟩), IntsIn.of_row h.ls TeV_len (by decide) (fun a => ⟨a.x, rfl⟩)⟩
theorem SpN.below {lo hi : Nat} {w w' : World} {p q r s : Value} {n m k l : Nat} (h : SpN lo hi w p q r s n m k l) (hb : Below w.heap.size w w') : SpN lo hi w' p q r s n m k l := ⟨h.a.below hb, h.b.below hb, h.c.below hb, h.d.below hb⟩
theorem SpN.spl {lo hi lo' hi' : Nat} {w w' : World} {p q r s : Value} {n m k l : Nat} (h : SpN lo hi w p q r s n m k l) (hb : Spl lo' hi' w w') : SpN lo hi w' p q r s n m k l := ⟨h.a.spl hb, h.b.spl hb, h.c.spl hb, h.d.spl hb⟩
theorem spoilNode_sp {lo hi : Nat} {w : World} {p q r s : Value} {n m k l : Nat} (up : Bool) (i : Int) (h : SpN lo hi w p q r s n m k l) (hl : lo ≤ w.heap.size) (hh : hi ≤ w.heap.size) :
    Calls Tryz.prog 10 #[.agg #[.bool up, .int .i64 i, p, q, r, s]] w fun e w' => e = .returned (.tuple #[]) ∧ Spl lo hi w w' := spoilNode_in up i h.a h.b h.c h.d hl hh

end Go.Proofs.YtghamcomjfholaaGreat
