
/-
  The statements' own helper that writes a list of messages over: between which blocks it writes, and what stays elsewhere.
-/
import Derived.Test.YtnnhnidefjhakaaMsgsSpoil
namespace Go.Proofs.Ytnnhnidefjhakaa
open Go.ChangeShapes Go.WideShapes Go.ChangeAt Go.RowKit

/-- Nothing has turned but cells of blocks from lo on and below hi; ints are ints still. -/
structure Spoilt (lo hi : Nat) (w w' : World) : Prop where
  below : Below lo w w'
  off : ∀ b, b < w.heap.size → b < lo ∨ hi ≤ b → w'.heap[b]? = w.heap[b]?
  ints : ∀ a z, w.cell? a = some (.int .i64 z) → ∃ z', w'.cell? a = some (.int .i64 z')
  frozen : ∀ a, a.block < w.heap.size → w'.frozen? a = w.frozen? a
theorem Spoilt.refl (lo hi : Nat) (w : World) : Spoilt lo hi w w := ⟨Below.refl _ _, fun _ _ _ => rfl, fun _ z h => ⟨z, h⟩, fun _ _ => rfl⟩
theorem Spoilt.turn {lo hi b : Nat} {w wr w2 : World} (h : Spoilt lo hi w wr) (hl : lo ≤ w.heap.size) (t : Turn b wr w2) (h1 : lo ≤ b) (h2 : b < hi ∨ w.heap.size ≤ b) : Spoilt lo hi w w2 :=
  ⟨h.below.grown t.grown (Nat.le_trans hl h.below.size) (fun q hq => by cases hq; exact h1), fun x hx hn => (t.grown.block x (Nat.lt_of_lt_of_le hx h.below.size) (fun e => by have := Option.some.inj e; omega)).trans (h.off x hx hn),
   fun a z hz => by
    obtain ⟨z', hz'⟩ := h.ints a z hz
    exact t.ints a z' hz', fun a ha => (t.frozen a (Nat.lt_of_lt_of_le ha h.below.size)).trans (h.frozen a ha)⟩
theorem Spoilt.set {lo hi g : Nat} {w wr : World} (h : Spoilt lo hi w wr) (h1 : lo ≤ g) (h2 : g < hi) {o : Nat} (hc : ∃ y, wr.cell? ⟨g, o, none⟩ = some (.int .i64 y)) (z : Int) : Spoilt lo hi w (wr.setCell ⟨g, o, none⟩ (.int .i64 z)) := by
  refine ⟨h.below.setCell (p := ⟨g, o, none⟩) h1 _, fun x hx hn => (Below.heap_setCell _ _ _ _ (fun e : x = g => by omega)).trans (h.off x hx hn), fun a y hy => ?_, fun a ha => (World.frozen?_setCell _ _ _ _).trans (h.frozen a ha)⟩
  obtain ⟨y', hy'⟩ := h.ints a y hy
  by_cases e : a = ⟨g, o, none⟩
  · obtain ⟨y2, hc⟩ := hc
    subst e
    exact ⟨_, World.cell?_setCell_same _ _ _ hc⟩
  · exact ⟨y', (World.cell?_setCell_other _ _ _ _ (fun e' => e e'.symm)).trans hy'⟩
theorem Spoilt.cell {lo hi : Nat} {w w' : World} (h : Spoilt lo hi w w') {b : Nat} (hb : b < w.heap.size) (hn : b < lo ∨ hi ≤ b) (o : Nat) : w'.cell? ⟨b, o, none⟩ = w.cell? ⟨b, o, none⟩ := World.cell?_of_block (h.off b hb hn)
theorem Box.spoilt {lo hi b : Nat} {w w' : World} {xs : Array Value} (h : Box w b xs) (s : Spoilt lo hi w w') (hn : b < lo ∨ hi ≤ b) : Box w' b xs :=
  ⟨Nat.lt_of_lt_of_le h.1 s.below.size, fun o => (s.cell h.1 hn o).trans (h.2.1 o), fun o => (World.frozen?_of_block (s.off b h.1 hn)).trans (h.2.2 o)⟩

/-- A row of ints that may be written over. -/
def IntsAt (lo : Nat) (w : World) (v : Value) (n : Nat) : Prop := n ≤ 9223372036854775807 ∧ ∃ p c b, v = .slice p n c ∧ lo ≤ b ∧ (0 < n → p = some ⟨b, 0, none⟩) ∧ ∀ j, j < n → (∃ z, w.cell? ⟨b, j, none⟩ = some (.int .i64 z)) ∧ w.frozen? ⟨b, j, none⟩ = false
theorem IntsAt.of_own {base : Nat} {w : World} {v : Value} {is : List Int} {n : Nat} (o : w.ownsRow base 3 1 v n (is.map (Value.int .i64))) : IntsAt base w v n := by
  have hl : is.length = n := by simpa using o.1
  have hn := (RowI.of_owns o).max
  unfold maxLen at hn
  have o0 := o
  rcases o.2 with ⟨e, e2⟩ | ⟨b, cx, cur, e, hb, hh, hle, hcap, -⟩
  · exact ⟨by omega, none, 0, base, by rw [e, e2], Nat.le_refl _, fun q => by omega, fun j hj => by omega⟩
  · refine ⟨by omega, _, cx, b, e, hb, fun _ => rfl, fun j hj => ⟨⟨is.getD j 0, ?_⟩, ?_⟩⟩
    · rw [e] at o0
      rw [o0.cellAt j (by omega)]
      simp [List.getD, show j < is.length by omega]
    · rw [e] at o0
      exact o0.frozenAt j
theorem IntsAt.below {lo : Nat} {w w' : World} {v : Value} {n : Nat} (h : IntsAt lo w v n) (hb : Below w.heap.size w w') : IntsAt lo w' v n := by
  obtain ⟨hn, p, c, b, e, h0, h1, h2⟩ := h
  refine ⟨hn, p, c, b, e, h0, h1, fun j hj => ?_⟩
  obtain ⟨⟨z, hz⟩, hf⟩ := h2 j hj
  have hb' : b < w.heap.size := World.block_lt_of_cell? _ _ hz
  exact ⟨⟨z, (hb.cell (p := ⟨b, j, none⟩) hb').trans hz⟩, (hb.frozen (p := ⟨b, j, none⟩) hb').trans hf⟩
theorem IntsAt.spoilt {lo' lo hi : Nat} {w w' : World} {v : Value} {n : Nat} (h : IntsAt lo' w v n) (s : Spoilt lo hi w w') : IntsAt lo' w' v n := by
  obtain ⟨hn, p, c, b, e, h0, h1, h2⟩ := h
  refine ⟨hn, p, c, b, e, h0, h1, fun j hj => ?_⟩
  obtain ⟨⟨z, hz⟩, hf⟩ := h2 j hj
  exact ⟨s.ints _ z hz, (s.frozen ⟨b, j, none⟩ (World.block_lt_of_cell? _ _ hz)).trans hf⟩
theorem spoilInts_at {lo : Nat} {w : World} {v : Value} {n : Nat} (h : IntsAt lo w v n) (hl : lo ≤ w.heap.size) :
    Calls Try.prog 19 #[v] w fun e w' => e = .returned (.tuple #[]) ∧ Below lo w w' := by
  obtain ⟨hn, p, c, b, rfl, h0, h1, h2⟩ := h
  exact (spoilInts_fine hn h1 h2).mono fun e w' ⟨he, t⟩ => ⟨he, (Below.refl lo w).grown t.grown hl (fun q hq => by cases hq; exact h0)⟩

theorem RowM.only {lo hi lo' hi' : Nat} {w w' : World} {v : Value} {ms : List Mg} (h : RowM lo hi w v ms) (hw : Only lo' hi' w w') (hd : hi ≤ lo' ∨ hi' ≤ lo) : RowM lo hi w' v ms := by
  obtain ⟨xs, e, ⟨p, cap, rfl, hl, hc, hx⟩, f⟩ := h
  refine ⟨xs, e, ⟨p, cap, rfl, hl, hc, fun hne => ?_⟩, fun x hx => (f x hx).only hw hd⟩
  obtain ⟨b, off, rfl, h1, h2, h3⟩ := hx hne
  exact ⟨b, off, rfl, h1, h2, fun j hj => ⟨(hw.cell b _ (by omega)).trans (h3 j hj).1, (hw.frozen b _).trans (h3 j hj).2⟩⟩

/-- A row of messages that may be written over: all its cells lie in blocks from lo on and below hi. -/
def SpM (lo hi : Nat) (w : World) (v : Value) (n : Nat) : Prop :=
  ∃ p c, v = .slice p n c ∧ n ≤ 9223372036854775807 ∧ (0 < n → ∃ g, p = some ⟨g, 0, none⟩ ∧ lo ≤ g ∧ g < hi ∧ g < w.heap.size ∧ ∀ i, i < n → ((∃ z, w.cell? ⟨g, i * 11, none⟩ = some (.int .i64 z)) ∧ w.frozen? ⟨g, i * 11, none⟩ = false) ∧
    ∃ (p : Option Addr) (m cx b : Nat), w.cell? ⟨g, i * 11 + 3, none⟩ = some (.slice p m cx) ∧ m ≤ 9223372036854775807 ∧ (0 < m → p = some ⟨b, 0, none⟩ ∧ lo ≤ b ∧ b < hi ∧ b ≠ g) ∧ ∀ j, j < m → (∃ z, w.cell? ⟨b, j, none⟩ = some (.int .i64 z)) ∧ w.frozen? ⟨b, j, none⟩ = false)
theorem SpM.of_own {base : Nat} {w : World} {v : Value} {ms : List Mg} (h : OwnM base w v ms) : SpM base w.heap.size w v ms.length := by
  obtain ⟨-, -, -, hn, -⟩ := h.row.at
  by_cases h0 : ms.length = 0
  · obtain ⟨p, c, rfl⟩ := h.cap
    exact ⟨p, c, rfl, hn, fun q => by omega⟩
  · obtain ⟨g, c, xs, rfl, hc, hg0, hg1, em, cc, oi⟩ := h.at (by omega)
    have hxl : xs.length = ms.length := by rw [← em]; simp
    obtain ⟨ys, -, r, -⟩ := h
    refine ⟨_, c, rfl, hn, fun _ => ⟨g, rfl, hg0, hg1, hg1, fun i hi => ⟨?_, ?_⟩⟩⟩
    · have hx : i < xs.length := by omega
      refine ⟨⟨xs[i].n, ?_⟩, r.frozenAt _⟩
      have := cc (i * 11 + 0) (by omega)
      rw [flat_at MvV_len xs i 0 hx (by decide)] at this
      exact this
    · have hx : i < xs.length := by omega
      have o := oi _ (List.getElem_mem hx)
      have hv : w.cell? ⟨g, i * 11 + 3, none⟩ = some xs[i].v := by
        rw [cc (i * 11 + 3) (by omega), flat_at MvV_len xs i 3 hx (by decide)]
        rfl
      have ap := apart_own o r (by decide)
      have o0 := o
      rcases o.2 with ⟨e, e2⟩ | ⟨b, cx, cur, e, hb, hh, hle, hcap, -⟩
      · exact ⟨none, 0, 0, 0, by rw [hv, e], by decide, fun q => by omega, fun j hj => by omega⟩
      · refine ⟨_, _, cx, b, by rw [hv, e], by unfold maxLen at hcap; omega, fun _ => ⟨rfl, hb, (o0.lt b (by rw [e]; rfl)).2, ?_⟩, fun j hj => ⟨?_, ?_⟩⟩
        · intro e2
          subst e2
          rw [e] at ap
          rcases ap with ap | ap
          · cases ap
          · exact ap rfl
        · refine ⟨xs[i].is.getD j 0, ?_⟩
          rw [e] at o0
          rw [o0.cellAt j (by omega)]
          simp [List.getD, hj]
        · rw [e] at o0
          exact o0.frozenAt j
theorem SpM.keep {lo hi : Nat} {w w' : World} {v : Value} {n : Nat} (h : SpM lo hi w v n) (hs : w.heap.size ≤ w'.heap.size) (hk : ∀ b, b < w.heap.size → lo ≤ b → b < hi → w'.heap[b]? = w.heap[b]?) : SpM lo hi w' v n := by
  obtain ⟨p, c, rfl, hn, hx⟩ := h
  refine ⟨p, c, rfl, hn, fun q => ?_⟩
  obtain ⟨g, rfl, h1, h2, h3, h4⟩ := hx q
  have bg := hk g h3 h1 h2
  refine ⟨g, rfl, h1, h2, by omega, fun i hi => ?_⟩
  obtain ⟨⟨⟨z, hz⟩, hf⟩, p2, m, cx, b, k1, k2, k3, k4⟩ := h4 i hi
  refine ⟨⟨⟨z, (World.cell?_of_block bg).trans hz⟩, (World.frozen?_of_block bg).trans hf⟩, p2, m, cx, b, (World.cell?_of_block bg).trans k1, k2, k3, fun j hj => ?_⟩
  obtain ⟨⟨z2, hz2⟩, hf2⟩ := k4 j hj
  obtain ⟨-, l1, l2, -⟩ := k3 (by omega)
  have bb := hk b (World.block_lt_of_cell? _ _ hz2) l1 l2
  exact ⟨⟨z2, (World.cell?_of_block bb).trans hz2⟩, (World.frozen?_of_block bb).trans hf2⟩
theorem SpM.below {lo hi : Nat} {w w' : World} {v : Value} {n : Nat} (h : SpM lo hi w v n) (hb : Below w.heap.size w w') : SpM lo hi w' v n :=
  h.keep hb.size fun b h1 _ _ => hb.block b h1
theorem SpM.spoilt {lo hi lo' hi' : Nat} {w w' : World} {v : Value} {n : Nat} (h : SpM lo hi w v n) (s : Spoilt lo' hi' w w') (hd : hi ≤ lo' ∨ hi' ≤ lo) : SpM lo hi w' v n :=
  h.keep s.below.size fun b h1 h2 h3 => s.off b h1 (by omega)

set_option maxHeartbeats 2000000 in
theorem spoilMsgs_at {lo hi : Nat} {w : World} {v : Value} {n : Nat} (h : SpM lo hi w v n) (hbase : lo ≤ w.heap.size) :
    Calls Try.prog 18 #[v] w fun e w' => e = .returned (.tuple #[]) ∧ Spoilt lo hi w w' := by
  by_cases h0 : n = 0
  · obtain ⟨p, c, rfl, -⟩ := h
    rw [h0]
    clear h0
    go_enter Try.func18, Try.ntmps18
    go_wp2
    go_loopw [2] (fun i wr => i = .int .i64 0 ∧ wr = w) (fun _ _ => 0)
    case atStart => exact ⟨rfl, rfl⟩
    case round =>
      obtain ⟨rfl, rfl⟩ := hrel
      go_wp2
      go_end0
      exact ⟨rfl, Spoilt.refl _ _ _⟩
  · obtain ⟨p, c, rfl, hn, hx⟩ := h
    obtain ⟨g, rfl, hg0, hg1, hg2, K⟩ := hx (by omega)
    have K1 : Hid (∀ i, i < n → ∃ (p : Option Addr) (m cx b : Nat), w.cell? ⟨g, i * 11 + 3, none⟩ = some (.slice p m cx) ∧ m ≤ 9223372036854775807 ∧ lo ≤ b ∧ (b < hi ∨ w.heap.size ≤ b) ∧ b ≠ g ∧ (0 < m → p = some ⟨b, 0, none⟩) ∧ ∀ j, j < m → (∃ z, w.cell? ⟨b, j, none⟩ = some (.int .i64 z)) ∧ w.frozen? ⟨b, j, none⟩ = false) := toHid (by
      intro i hi
      obtain ⟨-, p2, m, cx, b, k1, k2, k3, k4⟩ := K i hi
      by_cases hm : 0 < m
      · obtain ⟨l0, l1, l2, l3⟩ := k3 hm
        exact ⟨p2, m, cx, b, k1, k2, l1, .inl l2, l3, fun _ => l0, k4⟩
      · exact ⟨p2, m, cx, w.heap.size + lo + g + 1, k1, k2, by omega, .inr (by omega), by omega, fun q => absurd q hm, fun j hj => by omega⟩)
    have K2 : Hid (∀ i, i < n → (∃ z, w.cell? ⟨g, i * 11, none⟩ = some (.int .i64 z)) ∧ w.frozen? ⟨g, i * 11, none⟩ = false) := toHid (fun i hi => (K i hi).1)
    clear K hx
    go_enter Try.func18, Try.ntmps18
    go_wp2
    go_loopw [2] (fun s2 wr => ∃ i : Nat, i ≤ n ∧ s2 = .int .i64 i ∧ Spoilt lo hi w wr ∧ ∀ j, wr.cell? ⟨g, j * 11 + 3, none⟩ = w.cell? ⟨g, j * 11 + 3, none⟩) (fun s2 _ => n - (intOf s2).toNat)
    case atStart => exact ⟨0, Nat.zero_le _, rfl, Spoilt.refl _ _ _, fun _ => rfl⟩
    case round =>
      obtain ⟨i, hi, rfl, hs, hv⟩ := hrel
      by_cases hlt : i < n
      · obtain ⟨p, m, cx, b, k1, k2, k3, kb, k4, k5, k6⟩ := K1.out i hlt
        have c3 := (hv i).trans k1
        have hlt' : (i : Int) < (n : Int) := by omega
        have hi0 : 0 ≤ (i : Int) := by omega
        have k6' : ∀ j, j < m → (∃ z, wr.cell? ⟨b, j, none⟩ = some (.int .i64 z)) ∧ wr.frozen? ⟨b, j, none⟩ = false := fun j hj => by
          obtain ⟨⟨z, hz⟩, hf⟩ := k6 j hj
          exact ⟨hs.ints _ _ hz, (hs.frozen _ (World.block_lt_of_cell? _ _ hz)).trans hf⟩
        have HC := toHid (spoilInts_fine (c := cx) k2 k5 k6')
        have hv' := toHid hv
        replace hs := toHid hs
        clear k1 k2 k5 k6 k6' hv
        go_wp2_with (first
          | (go_at_call 19; refine HC.out.mono ?_; rintro e w5 ⟨rfl, t5⟩
             have hs5 := hs.out.turn hbase t5 k3 kb
             have hv5 := toHid (fun j : Nat => (World.cell?_of_block (a := ⟨g, j * 11 + 3, none⟩) (t5.grown.block g (Nat.lt_of_lt_of_le hg2 hs.out.below.size) (fun e => k4 (Option.some.inj e).symm))).trans (hv'.out j))
             obtain ⟨⟨z, hz⟩, hf⟩ := K2.out i hlt
             obtain ⟨z5, hz5⟩ := hs5.ints _ _ hz
             have hf5 := (hs5.frozen ⟨g, i * 11, none⟩ hg2).trans hf
             have T := toHid (fun z' : Int => hs5.set hg0 hg1 (o := i * 11) ⟨z5, hz5⟩ z')
             clear t5 hs5 hz hf c3))
        go_roundw
        case rel => exact ⟨i + 1, by omega, by go_num, T.out _, fun j => (World.cell?_setCell_other _ _ _ _ (fun e => by have := congrArg Addr.off e; simp at this; omega)).trans (hv5.out j)⟩
        case measure => simp [intOf]; omega
      · replace hs := toHid hs
        clear hv
        go_wp2
        go_end0
        exact ⟨rfl, hs.out⟩

end Go.Proofs.Ytnnhnidefjhakaa
