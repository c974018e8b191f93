
/-
  The statement HelloAll: a node that is greeted by each of some, one behind the other, knows just them; and one greeting that names them all makes each of them a peer.
-/
import Derived.Test.YtgopjjclobgekaaRows
import Derived.Test.YtgopjjclobgekaaOpen
import Derived.Test.YtgopjjclobgekaaHelloLaw
import Derived.Test.YtgopjjclobgekaaHelloIn
namespace Go.Proofs.Ytgopjjclobgekaa.helloAll
open Go.ChangeShapes Go.WideShapes Go.ChangeAt Go.RowKit
set_option linter.unusedVariables false

/-! ### The walk -/
theorem rowI_grown {lo hi : Nat} {w w' : World} {row : Option Nat} {v : Value} {zs : List Int} (h : RowI lo hi w v zs) (hg : w.grownBy w' row) (hh : hi ≤ w.heap.size) (hr : ∀ g, row = some g → g < lo) : RowI lo hi w' v zs := by
  obtain ⟨p, cap, rfl, hl, hc, hx⟩ := h
  refine ⟨p, cap, rfl, hl, hc, fun hne => ?_⟩
  obtain ⟨b, off, rfl, h1, h2, h3⟩ := hx hne
  have hb := hg.block b (by omega) fun e => by have := hr b e.symm; omega
  exact ⟨b, off, rfl, h1, h2, fun j hj => ⟨(World.cell?_of_block (w := w) hb).trans (h3 j hj).1, (World.frozen?_of_block (w := w) hb).trans (h3 j hj).2⟩⟩
theorem rowP_grown {lo hi : Nat} {w w' : World} {row : Option Nat} {v : Value} {zs : List Pe} (h : RowP lo hi w v zs) (hg : w.grownBy w' row) (hh : hi ≤ w.heap.size) (hr : ∀ g, row = some g → g < lo) : RowP lo hi w' v zs := by
  obtain ⟨p, cap, rfl, hl, hc, hx⟩ := h
  refine ⟨p, cap, rfl, hl, hc, fun hne => ?_⟩
  obtain ⟨b, off, rfl, h1, h2, h3⟩ := hx hne
  have hb := hg.block b (by omega) fun e => by have := hr b e.symm; omega
  exact ⟨b, off, rfl, h1, h2, fun j hj => ⟨(World.cell?_of_block (w := w) hb).trans (h3 j hj).1, (World.frozen?_of_block (w := w) hb).trans (h3 j hj).2⟩⟩
theorem vw_grown {lo hi : Nat} {w w' : World} {row : Option Nat} {p q : Value} {ps : List Pe} {is : List Int} (h : VwAt lo hi w p q ps is) (hg : w.grownBy w' row) (hh : hi ≤ w.heap.size) (hr : ∀ g, row = some g → g < lo) : VwAt lo hi w' p q ps is := ⟨rowP_grown h.ps hg hh hr, rowI_grown h.is hg hh hr⟩
theorem vw_only {lo hi lo' hi' : Nat} {w w' : World} {p q : Value} {ps : List Pe} {is : List Int} (h : VwAt lo hi w p q ps is) (hS : Only lo' hi' w w') (hd : hi ≤ lo' ∨ hi' ≤ lo) : VwAt lo hi w' p q ps is := ⟨h.ps.only hS hd, h.is.only hS hd⟩

set_option maxHeartbeats 8000000 in
theorem walk (v0 : Value) (x0 : List Int) (w : World) (r0 : RowI 0 w.heap.size w v0 x0) (s0 : x0.length * 8 ≤ 140737488351232) (w0 : ∀ x ∈ x0, (Lit.int .i64 x).wf = true) :
    Calls Try.prog 9 #[v0] w fun e w' => e = .returned (.bool true) ∧ Below w.heap.size w w' := by
  have RI := toHid (r0.ints (Nat.le_refl _))
  obtain ⟨p2, c2, e2, -⟩ := r0
  subst e2
  have hlen : x0.length ≤ 9223372036854775807 := by omega
  clear s0 w0
  go_enter Try.func9, Try.ntmps9
  go_wp2_with (first
    | (go_at_call 18; refine (awake10_any _).mono ?_; rintro e w1 ⟨rfl, h1⟩))
  have hW1 : w.heap.size ≤ w1.heap.size := h1.size
  go_loopw [4, 5] (fun al j wr => ∃ (k : Nat) (s : VSt) (L : List Int) (p q : Value), k ≤ 12 ∧ k ≤ x0.length ∧ j = .int .i64 k ∧ Hid (AllI s L k) ∧ Hid (wr.ownsRow (w1.heap.size + 1) 3 1 al L.length (L.map (Value.int .i64))) ∧ Hid (VwAt (w1.heap.size + 1) wr.heap.size wr p q s.1 s.2) ∧ Hid (Box wr w1.heap.size #[.int .i64 100, p, q]) ∧ Below w1.heap.size w1 wr) (fun _ j _ => 12 - (intOf j).toNat)
  case atStart => exact ⟨0, ([], []), [], _, _, Nat.zero_le _, Nat.zero_le _, rfl, toHid all_none, toHid ⟨rfl, .inl ⟨rfl, rfl⟩⟩, toHid ⟨RowC.nil0, RowI.nil0⟩, toHid (Box.new w1 _ _), (Below.refl _ w1).onA _⟩
  case round =>
    obtain ⟨k, ⟨s1, s2⟩, L, p, q, hk, hkn, rfl, A, own, X, BX, hbel⟩ := hrel
    dsimp only at X
    obtain ⟨ap, cp, aq, cq, ep, eq, hnp, hnq⟩ := X.out.shape
    subst ep eq
    have O1 := toHid (RowI.of_owns own.out)
    obtain ⟨al, cl, el, -⟩ := O1.out
    subst el
    obtain ⟨b1, b2, b3⟩ := id BX.out
    by_cases hlt : k < x0.length ∧ k < 12
    · obtain ⟨g1, g2⟩ := hlt
      have g1' : (k : Int) < (x0.length : Int) := by omega
      have g2' : (k : Int) < 12 := by omega
      have g2'' : decide ((k : Int) < 12) = true := decide_eq_true g2'
      obtain ⟨px, cx, ex, -, hcs⟩ := RI.out
      cases ex
      obtain ⟨b, off, rfl, -, hbw, hc⟩ := hcs (by omega)
      have c1 := ((h1.on hbel).cell (p := ⟨b, off + k, none⟩) hbw).trans (hc k g1)
      have e255 := and255 (x0.getD k 0)
      have hpl := place_mod (x0.getD k 0)
      clear hc hcs RI
      generalize x0.getD k 0 = y at c1 e255 hpl
      generalize y % 256 = z at e255 hpl
      by_cases hz : z = 100
      · subst hz
        have A' := toHid (all_skip A.out)
        clear hpl
        go_wp2
        go_roundw
        case rel => exact ⟨k + 1, (s1, s2), L, _, _, by omega, by omega, by go_num, A', own, X, BX, hbel⟩
        case measure => simp [intOf]; omega
      · have hz2 : (z == 100) = false := by simpa using hz
        obtain ⟨hB, A'⟩ := all_step A.out g2 hpl hz
        obtain ⟨f1, f2, f3⟩ := he_yes hB
        obtain ⟨⟨u1, u2⟩, hu⟩ : ∃ s, heS 100 (s1, s2) z L = s := ⟨_, rfl⟩
        rw [hu] at f2 A'
        obtain ⟨n2, hn2⟩ : ∃ n, u1.length = n := ⟨_, rfl⟩
        obtain ⟨m2, hm2⟩ : ∃ n, u2.length = n := ⟨_, rfl⟩
        have KT := toHid (hTake_at X.out (Nat.le_refl _) O1.out (Nat.le_refl _) f1 f2 f3 hn2 hm2)
        have hal : ∀ g, (Value.slice al L.length cl).ownBlock = some g → g < wr.heap.size := fun g hg => (own.out.lt g hg).2
        have hAL := A.out.2.2.2.2.1
        replace A' := toHid A'
        replace hal := toHid hal
        clear f1 f2 f3 hB hu hn2 hm2 A hpl
        by_cases hin : z ∈ L
        · rw [if_pos hin] at A'
          have hb1 : w1.heap.size + 1 ≤ wr.heap.size := b1
          go_wp2_with (first
            | (go_at_call 12; refine KT.out.mono ?_; rintro e w2 ⟨a2, d2, a2', d2', rfl, X2, h2⟩
               clear b1 b2 b3
               obtain ⟨b1, b2, b3⟩ := BX.out.below h2
               have hS := toHid ((((Only.refl w1.heap.size (w1.heap.size + 1) w2).setCell (o := 0) (Nat.le_refl _) (Nat.lt_succ_self _) (.int .i64 100)).setCell (b := w1.heap.size) (o := 1) (Nat.le_refl _) (Nat.lt_succ_self _) (.slice a2 n2 d2)).setCell (b := w1.heap.size) (o := 2) (Nat.le_refl _) (Nat.lt_succ_self _) (.slice a2' m2 d2'))
               have XU := toHid (vw_only X2.at hS.out (.inr hb1))
               have XV : Hid (VwAt (w1.heap.size + 1) ((((w2.setCell ⟨w1.heap.size, 0, none⟩ (.int .i64 100)).setCell ⟨w1.heap.size, 1, none⟩ (.slice a2 n2 d2)).setCell ⟨w1.heap.size, 2, none⟩ (.slice a2' m2 d2')).alloc (.cells #[.int .i64 100, .slice a2 n2 d2, .slice a2' m2 d2'] 25)).heap.size ((((w2.setCell ⟨w1.heap.size, 0, none⟩ (.int .i64 100)).setCell ⟨w1.heap.size, 1, none⟩ (.slice a2 n2 d2)).setCell ⟨w1.heap.size, 2, none⟩ (.slice a2' m2 d2')).alloc (.cells #[.int .i64 100, .slice a2 n2 d2, .slice a2' m2 d2'] 25)) (.slice a2 n2 d2) (.slice a2' m2 d2') u1 u2) := toHid ((XU.out.alloc (.cells #[.int .i64 100, .slice a2 n2 d2, .slice a2' m2 d2'] 25)).wide hb1 (by simp))
               have BV := toHid (((((BX.out.below h2).setS (ys := #[.int .i64 100, .slice ap s1.length cp, .slice aq s2.length cq]) 0 (.int .i64 100) (by simp) (by simp)).setS (ys := #[.int .i64 100, .slice a2 n2 d2, .slice aq s2.length cq]) 1 (.slice a2 n2 d2) (by simp) (by simp)).setS (ys := #[.int .i64 100, .slice a2 n2 d2, .slice a2' m2 d2']) 2 (.slice a2' m2 d2') (by simp) (by simp)).alloc (.cells #[.int .i64 100, .slice a2 n2 d2, .slice a2' m2 d2'] 25))
               have OV := toHid ((ownsRow_setCell_below (ownsRow_setCell_below (ownsRow_setCell_below (ownsRow_below own.out h2) (a := ⟨w1.heap.size, 0, none⟩) (Nat.lt_succ_self _) (.int .i64 100)) (a := ⟨w1.heap.size, 1, none⟩) (Nat.lt_succ_self _) (.slice a2 n2 d2)) (a := ⟨w1.heap.size, 2, none⟩) (Nat.lt_succ_self _) (.slice a2' m2 d2')).alloc (.cells #[.int .i64 100, .slice a2 n2 d2, .slice a2' m2 d2'] 25))
               have hbelV := toHid (((hbel.on h2).trans hS.out.below).onA (.cells #[.int .i64 100, .slice a2 n2 d2, .slice a2' m2 d2'] 25))
               have hz2' := h2.size
               clear X2 hS)
            | (go_at_call 15; refine (num_any _ _).mono ?_; rintro e w' ⟨rfl, hw'⟩; subst w')
            | (go_at_call 20; refine (in_is (RowI.of_owns OV.out) (decide_eq_true hin)).mono ?_; rintro e w' ⟨rfl, hw'⟩; subst w'))
          go_roundw
          case rel => exact ⟨k + 1, (u1, u2), L, _, _, by omega, by omega, by go_num, A', OV, XV, BV, hbelV.out⟩
          case measure => simp [intOf]; omega
        · rw [if_neg hin] at A'
          have hb8 : (L.length + 1) * 8 ≤ 140737488355328 := by omega
          have hb1 : w1.heap.size + 1 ≤ wr.heap.size := b1
          go_wp2_with (first
            | (go_at_call 12; refine KT.out.mono ?_; rintro e w2 ⟨a2, d2, a2', d2', rfl, X2, h2⟩
               clear b1 b2 b3
               obtain ⟨b1, b2, b3⟩ := BX.out.below h2
               have hS := toHid ((((Only.refl w1.heap.size (w1.heap.size + 1) w2).setCell (o := 0) (Nat.le_refl _) (Nat.lt_succ_self _) (.int .i64 100)).setCell (b := w1.heap.size) (o := 1) (Nat.le_refl _) (Nat.lt_succ_self _) (.slice a2 n2 d2)).setCell (b := w1.heap.size) (o := 2) (Nat.le_refl _) (Nat.lt_succ_self _) (.slice a2' m2 d2'))
               have XU := toHid (vw_only X2.at hS.out (.inr hb1))
               have XV : Hid (VwAt (w1.heap.size + 1) ((((w2.setCell ⟨w1.heap.size, 0, none⟩ (.int .i64 100)).setCell ⟨w1.heap.size, 1, none⟩ (.slice a2 n2 d2)).setCell ⟨w1.heap.size, 2, none⟩ (.slice a2' m2 d2')).alloc (.cells #[.int .i64 100, .slice a2 n2 d2, .slice a2' m2 d2'] 25)).heap.size ((((w2.setCell ⟨w1.heap.size, 0, none⟩ (.int .i64 100)).setCell ⟨w1.heap.size, 1, none⟩ (.slice a2 n2 d2)).setCell ⟨w1.heap.size, 2, none⟩ (.slice a2' m2 d2')).alloc (.cells #[.int .i64 100, .slice a2 n2 d2, .slice a2' m2 d2'] 25)) (.slice a2 n2 d2) (.slice a2' m2 d2') u1 u2) := toHid ((XU.out.alloc (.cells #[.int .i64 100, .slice a2 n2 d2, .slice a2' m2 d2'] 25)).wide hb1 (by simp))
               have BV := toHid (((((BX.out.below h2).setS (ys := #[.int .i64 100, .slice ap s1.length cp, .slice aq s2.length cq]) 0 (.int .i64 100) (by simp) (by simp)).setS (ys := #[.int .i64 100, .slice a2 n2 d2, .slice aq s2.length cq]) 1 (.slice a2 n2 d2) (by simp) (by simp)).setS (ys := #[.int .i64 100, .slice a2 n2 d2, .slice a2' m2 d2']) 2 (.slice a2' m2 d2') (by simp) (by simp)).alloc (.cells #[.int .i64 100, .slice a2 n2 d2, .slice a2' m2 d2'] 25))
               have OV := toHid ((ownsRow_setCell_below (ownsRow_setCell_below (ownsRow_setCell_below (ownsRow_below own.out h2) (a := ⟨w1.heap.size, 0, none⟩) (Nat.lt_succ_self _) (.int .i64 100)) (a := ⟨w1.heap.size, 1, none⟩) (Nat.lt_succ_self _) (.slice a2 n2 d2)) (a := ⟨w1.heap.size, 2, none⟩) (Nat.lt_succ_self _) (.slice a2' m2 d2')).alloc (.cells #[.int .i64 100, .slice a2 n2 d2, .slice a2' m2 d2'] 25))
               have hbelV := toHid (((hbel.on h2).trans hS.out.below).onA (.cells #[.int .i64 100, .slice a2 n2 d2, .slice a2' m2 d2'] 25))
               have hz2' := h2.size
               have HZ : w1.heap.size + 1 ≤ (((((w2.setCell ⟨w1.heap.size, 0, none⟩ (.int .i64 100)).setCell ⟨w1.heap.size, 1, none⟩ (.slice a2 n2 d2)).setCell ⟨w1.heap.size, 2, none⟩ (.slice a2' m2 d2')).alloc (.cells #[.int .i64 100, .slice a2 n2 d2, .slice a2' m2 d2'] 25)).alloc (.cells #[.int .i64 z] 3)).heap.size := by simp; omega
               have CZ : Hid (∀ j, j < 1 → (((((w2.setCell ⟨w1.heap.size, 0, none⟩ (.int .i64 100)).setCell ⟨w1.heap.size, 1, none⟩ (.slice a2 n2 d2)).setCell ⟨w1.heap.size, 2, none⟩ (.slice a2' m2 d2')).alloc (.cells #[.int .i64 100, .slice a2 n2 d2, .slice a2' m2 d2'] 25)).alloc (.cells #[.int .i64 z] 3)).cell? ((⟨w2.heap.size + 1, 0, none⟩ : Addr).add j) = some (.int .i64 (([z] : List Int).getD j 0))) := toHid fun j hj => by
                 match j, hj with
                 | 0, _ => exact (Box.newAt (n := w2.heap.size + 1) (w := ((((w2.setCell ⟨w1.heap.size, 0, none⟩ (.int .i64 100)).setCell ⟨w1.heap.size, 1, none⟩ (.slice a2 n2 d2)).setCell ⟨w1.heap.size, 2, none⟩ (.slice a2' m2 d2')).alloc (.cells #[.int .i64 100, .slice a2 n2 d2, .slice a2' m2 d2'] 25))) #[.int .i64 z] 3 (by simp)).2.1 0
               clear X2 hS)
            | (go_at_call 15; refine (num_any _ _).mono ?_; rintro e w' ⟨rfl, hw'⟩; subst w')
            | (go_at_call 20; refine (in_is (RowI.of_owns OV.out) (decide_eq_false hin)).mono ?_; rintro e w' ⟨rfl, hw'⟩; subst w')
            | (at_builtin; refine app_ints rfl (.tmp 49) (.tmp 51) rfl (w1.heap.size + 1) _ L.length L rfl (OV.out.alloc _) ⟨w2.heap.size + 1, 0, none⟩ 1 1 [z] rfl rfl CZ.out hb8 HZ ?_))
          intro v5 w5 hown5 hgr5 hb5
          have A5 : Hid (w5.ownsRow (w1.heap.size + 1) 3 1 v5 (L ++ [z]).length ((L ++ [z]).map (Value.int .i64))) := toHid (by simpa using hown5)
          have X5 := toHid ((vw_grown ((XU.out.alloc (.cells #[.int .i64 100, .slice a2 n2 d2, .slice a2' m2 d2'] 25)).alloc _) hgr5 (by simp; omega) hal.out).wide (lo' := w1.heap.size + 1) (hi' := w5.heap.size) hb1 (Nat.le_trans (by simp; omega) hgr5.size))
          have B5 := toHid ((BV.out.alloc _).belowAt hb5 (Nat.lt_succ_self _))
          have H5 := toHid ((hbelV.out.onA _).trans (hb5.mono (Nat.le_succ _)))
          clear hown5 hgr5 hb5 XU XV BV hbelV OV
          go_wp2
          go_roundw
          case rel => exact ⟨k + 1, (u1, u2), L ++ [z], _, _, by omega, by omega, by go_num, A', A5, X5, B5, H5.out⟩
          case measure => simp [intOf]; omega
    · have hA := A.out
      obtain ⟨hB, hIn0, -⟩ := all_end hA hk
      obtain ⟨f1, f2, f3⟩ := he_yes hB
      obtain ⟨⟨u1, u2⟩, hu⟩ : ∃ s, heS 100 ([], []) 7 L = s := ⟨_, rfl⟩
      rw [hu] at f2 hIn0
      dsimp only at hIn0
      obtain ⟨n3, hn3⟩ : ∃ n, u1.length = n := ⟨_, rfl⟩
      obtain ⟨m3, hm3⟩ : ∃ n, u2.length = n := ⟨_, rfl⟩
      obtain ⟨g, hg⟩ : ∃ g : Nat → Pe, ∀ j, u1.getD j ⟨0, 0⟩ = g j := ⟨_, fun _ => rfl⟩
      have hIn : Hid (∀ y ∈ L, ∃ i, i < n3 ∧ (g i).n = y) := toHid fun y hy => by
        obtain ⟨p, hp, e⟩ := nmL_mem.1 (hIn0 y hy)
        obtain ⟨j, hj, rfl⟩ := List.mem_iff_getElem.1 hp
        exact ⟨j, by omega, by rw [← hg, getD_in _ _ hj]; exact e⟩
      have KE := toHid (hTake_at (ps := []) (is := []) (lo := 0) (hi := 0) (w := wr) ⟨RowC.nil0, RowI.nil0⟩ (Nat.zero_le _) O1.out (Nat.le_refl _) f1 f2 f3 hn3 hm3)
      have q1 : (s1.length : Int) = (L.length : Int) := by
        have := hA.2.2.2.1
        dsimp only at this
        omega
      have q2 : (s2.length : Int) = 0 := by
        have := hA.2.1
        dsimp only at this
        rw [this]
        rfl
      have hLL : L.length ≤ 12 := Nat.le_trans hA.2.2.2.2.1 hk
      have hn3' : n3 ≤ 9223372036854775807 := by
        have := ok_size (he_ok (d := 7) (ids := L) ok_none (by decide) (by decide) hA.2.2.2.2.2.1)
        rw [hu] at this
        have h2 : u1.length + u2.length ≤ 16 := this
        omega
      replace hn3 := toHid hn3
      replace hg := toHid hg
      clear f1 f2 f3 hB hu hm3 hIn0 hA RI
      rcases Nat.lt_or_ge k x0.length with hkl | hkl
      · have hk12 : ¬ (k : Int) < 12 := fun e => hlt ⟨hkl, by omega⟩
        have hk12' : decide ((k : Int) < 12) = false := decide_eq_false hk12
        have hkl' : (k : Int) < (x0.length : Int) := by omega
        clear hlt
        go_wp2_with (first
          | (go_at_call 12; refine KE.out.mono ?_; rintro e w3 ⟨a3, d3, a3', d3', rfl, X3, h3⟩
             have P3 := toHid ((X3.at.ps.alloc (.cells #[.int .i64 100, .slice a3 n3 d3, .slice a3' m3 d3'] 25) PeV_len).pes (by simp))
             have I3 := toHid (((O1.out.below h3 (Nat.le_refl _)).alloc (.cells #[.int .i64 100, .slice a3 n3 d3, .slice a3' m3 d3'] 25)).ints (Nat.le_trans h3.size (by simp)))
             have B3 := toHid (Box.new w3 #[.int .i64 100, .slice a3 n3 d3, .slice a3' m3 d3'] 25)
             have hB3 := toHid ((h1.on (hbel.on h3)).onA (.cells #[.int .i64 100, .slice a3 n3 d3, .slice a3' m3 d3'] 25))
             clear X3 h3 b1 b2 b3)
          | (go_at_call 15; refine (num_any _ _).mono ?_; rintro e w' ⟨rfl, hw'⟩; subst w'))
        clear KE O1 own X BX hbel A
        obtain ⟨W3, hW3⟩ : ∃ W, W = w3.alloc (.cells #[.int .i64 100, .slice a3 n3 d3, .slice a3' m3 d3'] 25) := ⟨_, rfl⟩
        rw [← hW3] at P3 I3 B3 hB3 ⊢
        clear hW3
        generalize w3.heap.size = bw at *
        go_loopw [11] (fun j wr2 => ∃ m q : Nat, m ≤ L.length ∧ j = .int .i64 m ∧ wr2 = W3.drewN q) (fun j _ => L.length - (intOf j).toNat)
        case atStart => exact ⟨0, 0, Nat.zero_le _, rfl, rfl⟩
        case round =>
          obtain ⟨m, q2, hm, rfl, rfl⟩ := hrel
          by_cases hlm : m < L.length
          · obtain ⟨px, cx, ex, -, hcs⟩ := I3.out
            cases ex
            obtain ⟨b, off, rfl, -, hbw, hc⟩ := hcs (by omega)
            have c1 := hc m hlm
            have hy := hIn.out _ (by rw [getD_in _ _ hlm]; exact List.getElem_mem hlm : L.getD m 0 ∈ L)
            have hlm' : (m : Int) < (L.length : Int) := by omega
            clear hc hcs I3 hIn
            generalize L.getD m 0 = y at c1 hy
            obtain ⟨b1, b2, b3⟩ := id B3.out
            go_wp2
            go_loopw [12, 13] (fun f j wr3 => ∃ (t q : Nat) (fb : Bool), t ≤ n3 ∧ j = .int .i64 t ∧ f = .bool fb ∧ Hid (fb = true ↔ ∃ i, i < t ∧ (g i).n = y) ∧ wr3 = W3.drewN q) (fun _ j _ => n3 - (intOf j).toNat)
            case atStart => exact ⟨0, q2, false, Nat.zero_le _, rfl, rfl, toHid ⟨fun h => (by cases h), fun h => (by obtain ⟨i, hi, _⟩ := h; exact absurd hi (Nat.not_lt_zero _))⟩, rfl⟩
            case round =>
              obtain ⟨t, q3, fb, ht, rfl, rfl, hfb, rfl⟩ := hrel
              by_cases hlt : t < n3
              · obtain ⟨py, cy, ey, -, hcp⟩ := P3.out
                rw [hn3.out] at ey hcp
                cases ey
                obtain ⟨b', off', rfl, -, hbw', hcq⟩ := hcp (by omega)
                obtain ⟨k1, k2⟩ := hcq t hlt
                rw [hg.out] at k1 k2
                have hlt' : (t : Int) < (n3 : Int) := by omega
                have hnext : Hid ((fb || decide ((g t).n = y)) = true ↔ ∃ i, i < t + 1 ∧ (g i).n = y) := toHid (by
                  rw [Bool.or_eq_true, decide_eq_true_iff, hfb.out]
                  constructor
                  · rintro (⟨i, hi, e⟩ | e)
                    · exact ⟨i, by omega, e⟩
                    · exact ⟨t, by omega, e⟩
                  · rintro ⟨i, hi, e⟩
                    by_cases e' : i = t
                    · subst e'
                      exact .inr e
                    · exact .inl ⟨i, by omega, e⟩)
                clear hcq hcp P3 hfb
                generalize g t = z at k1 k2 hnext
                obtain ⟨zn, zm⟩ := z
                dsimp only at k1 k2 hnext
                cases fb with
                | true =>
                  rw [Bool.true_or] at hnext
                  go_wp2
                  go_quiet (fail)
                  go_wp2
                  go_roundw
                  case rel => exact ⟨t + 1, q3 + nq, true, by omega, by go_num, rfl, toHid (by have := hnext.out; simpa using this), rfl⟩
                  case measure => simp [intOf]; omega
                | false =>
                  rw [Bool.false_or] at hnext
                  by_cases he : zn = y
                  · rw [decide_eq_true he] at hnext
                    have he2 : (zn == y) = true := by simpa using he
                    go_wp2
                    go_quiet (fail)
                    go_wp2
                    go_roundw
                    case rel => exact ⟨t + 1, q3 + nq, true, by omega, by go_num, rfl, toHid (by have := hnext.out; simpa using this), rfl⟩
                    case measure => simp [intOf]; omega
                  · rw [decide_eq_false he] at hnext
                    have he2 : (zn == y) = false := by simpa using he
                    go_wp2
                    go_quiet (fail)
                    go_wp2
                    go_roundw
                    case rel => exact ⟨t + 1, q3 + nq, false, by omega, by go_num, rfl, hnext, rfl⟩
                    case measure => simp [intOf]; omega
              · obtain rfl : fb = true := hfb.out.2 (by
                  obtain ⟨i, hi, e⟩ := hy
                  exact ⟨i, by omega, e⟩)
                clear hfb P3
                go_wp2
                go_roundw
                case rel => exact ⟨m + 1, q3, by omega, by go_num, rfl⟩
                case measure => simp [intOf]; omega
          · clear I3 P3 hIn B3
            have hfd : ∀ (ga gb : Option Addr) (W : World), (Instr.field 25 (.agg #[.int .i64 100, .slice ga 3 3, .slice gb 2 2]) 1).run Try.prog W = .ok (.slice ga 3 3) W := fun _ _ _ => by kernel_rfl
            go_wp2_with (first
              | (go_at_call 21; refine (given10_any _).mono ?_; rintro e w9 ⟨ga, gb, rfl, -, h9⟩))
            go_ret
            exact ⟨rfl, (hB3.out.onD q2).on h9⟩
      · have hkl' : ¬ (k : Int) < (x0.length : Int) := by omega
        have hkl'' : decide ((k : Int) < (x0.length : Int)) = false := decide_eq_false hkl'
        clear hlt
        go_wp2_with (first
          | (go_at_call 12; refine KE.out.mono ?_; rintro e w3 ⟨a3, d3, a3', d3', rfl, X3, h3⟩
             have P3 := toHid ((X3.at.ps.alloc (.cells #[.int .i64 100, .slice a3 n3 d3, .slice a3' m3 d3'] 25) PeV_len).pes (by simp))
             have I3 := toHid (((O1.out.below h3 (Nat.le_refl _)).alloc (.cells #[.int .i64 100, .slice a3 n3 d3, .slice a3' m3 d3'] 25)).ints (Nat.le_trans h3.size (by simp)))
             have B3 := toHid (Box.new w3 #[.int .i64 100, .slice a3 n3 d3, .slice a3' m3 d3'] 25)
             have hB3 := toHid ((h1.on (hbel.on h3)).onA (.cells #[.int .i64 100, .slice a3 n3 d3, .slice a3' m3 d3'] 25))
             clear X3 h3 b1 b2 b3)
          | (go_at_call 15; refine (num_any _ _).mono ?_; rintro e w' ⟨rfl, hw'⟩; subst w'))
        clear KE O1 own X BX hbel A
        obtain ⟨W3, hW3⟩ : ∃ W, W = w3.alloc (.cells #[.int .i64 100, .slice a3 n3 d3, .slice a3' m3 d3'] 25) := ⟨_, rfl⟩
        rw [← hW3] at P3 I3 B3 hB3 ⊢
        clear hW3
        generalize w3.heap.size = bw at *
        go_loopw [11] (fun j wr2 => ∃ m q : Nat, m ≤ L.length ∧ j = .int .i64 m ∧ wr2 = W3.drewN q) (fun j _ => L.length - (intOf j).toNat)
        case atStart => exact ⟨0, 0, Nat.zero_le _, rfl, rfl⟩
        case round =>
          obtain ⟨m, q2, hm, rfl, rfl⟩ := hrel
          by_cases hlm : m < L.length
          · obtain ⟨px, cx, ex, -, hcs⟩ := I3.out
            cases ex
            obtain ⟨b, off, rfl, -, hbw, hc⟩ := hcs (by omega)
            have c1 := hc m hlm
            have hy := hIn.out _ (by rw [getD_in _ _ hlm]; exact List.getElem_mem hlm : L.getD m 0 ∈ L)
            have hlm' : (m : Int) < (L.length : Int) := by omega
            clear hc hcs I3 hIn
            generalize L.getD m 0 = y at c1 hy
            obtain ⟨b1, b2, b3⟩ := id B3.out
            go_wp2
            go_loopw [12, 13] (fun f j wr3 => ∃ (t q : Nat) (fb : Bool), t ≤ n3 ∧ j = .int .i64 t ∧ f = .bool fb ∧ Hid (fb = true ↔ ∃ i, i < t ∧ (g i).n = y) ∧ wr3 = W3.drewN q) (fun _ j _ => n3 - (intOf j).toNat)
            case atStart => exact ⟨0, q2, false, Nat.zero_le _, rfl, rfl, toHid ⟨fun h => (by cases h), fun h => (by obtain ⟨i, hi, _⟩ := h; exact absurd hi (Nat.not_lt_zero _))⟩, rfl⟩
            case round =>
              obtain ⟨t, q3, fb, ht, rfl, rfl, hfb, rfl⟩ := hrel
              by_cases hlt : t < n3
              · obtain ⟨py, cy, ey, -, hcp⟩ := P3.out
                rw [hn3.out] at ey hcp
                cases ey
                obtain ⟨b', off', rfl, -, hbw', hcq⟩ := hcp (by omega)
                obtain ⟨k1, k2⟩ := hcq t hlt
                rw [hg.out] at k1 k2
                have hlt' : (t : Int) < (n3 : Int) := by omega
                have hnext : Hid ((fb || decide ((g t).n = y)) = true ↔ ∃ i, i < t + 1 ∧ (g i).n = y) := toHid (by
                  rw [Bool.or_eq_true, decide_eq_true_iff, hfb.out]
                  constructor
                  · rintro (⟨i, hi, e⟩ | e)
                    · exact ⟨i, by omega, e⟩
                    · exact ⟨t, by omega, e⟩
                  · rintro ⟨i, hi, e⟩
                    by_cases e' : i = t
                    · subst e'
                      exact .inr e
                    · exact .inl ⟨i, by omega, e⟩)
                clear hcq hcp P3 hfb
                generalize g t = z at k1 k2 hnext
                obtain ⟨zn, zm⟩ := z
                dsimp only at k1 k2 hnext
                cases fb with
                | true =>
                  rw [Bool.true_or] at hnext
                  go_wp2
                  go_quiet (fail)
                  go_wp2
                  go_roundw
                  case rel => exact ⟨t + 1, q3 + nq, true, by omega, by go_num, rfl, toHid (by have := hnext.out; simpa using this), rfl⟩
                  case measure => simp [intOf]; omega
                | false =>
                  rw [Bool.false_or] at hnext
                  by_cases he : zn = y
                  · rw [decide_eq_true he] at hnext
                    have he2 : (zn == y) = true := by simpa using he
                    go_wp2
                    go_quiet (fail)
                    go_wp2
                    go_roundw
                    case rel => exact ⟨t + 1, q3 + nq, true, by omega, by go_num, rfl, toHid (by have := hnext.out; simpa using this), rfl⟩
                    case measure => simp [intOf]; omega
                  · rw [decide_eq_false he] at hnext
                    have he2 : (zn == y) = false := by simpa using he
                    go_wp2
                    go_quiet (fail)
                    go_wp2
                    go_roundw
                    case rel => exact ⟨t + 1, q3 + nq, false, by omega, by go_num, rfl, hnext, rfl⟩
                    case measure => simp [intOf]; omega
              · obtain rfl : fb = true := hfb.out.2 (by
                  obtain ⟨i, hi, e⟩ := hy
                  exact ⟨i, by omega, e⟩)
                clear hfb P3
                go_wp2
                go_roundw
                case rel => exact ⟨m + 1, q3, by omega, by go_num, rfl⟩
                case measure => simp [intOf]; omega
          · clear I3 P3 hIn B3
            have hfd : ∀ (ga gb : Option Addr) (W : World), (Instr.field 25 (.agg #[.int .i64 100, .slice ga 3 3, .slice gb 2 2]) 1).run Try.prog W = .ok (.slice ga 3 3) W := fun _ _ _ => by kernel_rfl
            go_wp2_with (first
              | (go_at_call 21; refine (given10_any _).mono ?_; rintro e w9 ⟨ga, gb, rfl, -, h9⟩))
            go_ret
            exact ⟨rfl, (hB3.out.onD q2).on h9⟩

/-! ### The row's step -/
set_option maxRecDepth 100000 in
theorem lifted (os : Os) (started : os.Started) (H : Type) (enc : TypeId × Value → H) :
    ReturnsInHanded {} Try.checked os 9 .any (Rows.helloAllSpec.pre6 enc Try.prog Try.f9 Rows.helloAllRow.domain false) (Rows.helloAllSpec.post enc Try.prog Try.f9 false true false false) := by
  refine returnsInHanded_of_change_sized (C := Try.checked) ownK started (by kernel_rfl) Try.func9
    (ChangeSpec.witness6 (enc := enc) (C := Try.checked) false ⟨#[], #[.slice none 0 0], []⟩ 8 (by kernel_rfl) (by kernel_rfl) (by kernel_rfl) (by kernel_rfl)) ?_
  intro W base args ds gs before hval0 hW hcnd hsz0 _
  have hsz : (DataW.weightsEach Try.prog (Try.f9.params.toList ++ Rows.helloAllSpec.plain.varTypes Try.prog) (ds ++ gs)).all (· ≤ reachBytes) = true := hsz0
  have hval : ∀ (j : Nat) t v, Try.f9.params[j]? = some t → args[j]? = some v → Value.okWide Try.prog W .any base t v := hval0
  have hW' := hW
  obtain ⟨p, q, hA0, hV, rfl, hfz, hnd⟩ := hW
  have hA : DataW.TrodAll enc Try.prog W 0 (fun _ => true) true Try.f9.params.toList args.toList ds p := hA0
  rw [Try.params9] at hA hval hsz
  obtain ⟨v0, vs0, d0, ds0, p0, q0, hargs, rfl, rfl, h0, r0⟩ := trodAll_cons hA
  obtain ⟨rfl, rfl, rfl⟩ := trodAll_nil r0
  obtain rfl : args = #[v0] := by cases args; simp_all
  obtain ⟨rfl, rfl⟩ := trodVars_none hV
  clear r0
  have k0 := h0
  have lt0 : ∀ x ∈ p0, x.block < W.heap.size := by obtain ⟨m, hm⟩ := k0; exact DataW.trod_lt m _ _ _ hm
  have z0 : ∀ n ∈ d0.weights Try.prog 23, n ≤ reachBytes := fun n hn => by simpa using List.all_eq_true.1 hsz _ (DataW.weights_mem_each (j := 0) rfl rfl n hn)
  have f0 : W.noneFrozen p0 := fun b off hm => hfz b off (by simp [hm])
  obtain ⟨x0, r0, s0, w0⟩ := open_rowI (hval 0 23 v0 rfl rfl) h0 f0 z0
  clear hA0 hval0
  refine (walk v0 x0 W r0 s0 w0).mono fun e W' ⟨he, bel⟩ => ?_
  subst he
  exact ⟨_, rfl, _, _, _, [], _, [], hW', trodAll_mk1 (shut_bool Try.underlying4 _), (trodAll_cons_mk (Below.trod laidOut (by kernel_rfl) (of_decide_eq_true (by kernel_rfl)) k0 bel lt0) trodAll_mk0), rfl, bel.frame _, fun h => by cases h⟩

theorem over : Rows.helloAllRow.holds Try.pinned (OpenSpec.ofChange Rows.helloAllSpec) :=
  OpenClaim.holds_of_wide 9 Try.f9 rfl rfl rfl rfl rfl rfl rfl ⟨rfl, rfl, rfl, rfl, rfl⟩ rfl rfl rfl rfl rfl (by kernel_rfl) Try.func9 (by kernel_rfl)
    (of_decide_eq_true (by kernel_rfl)) (by unfold Func.isWrapper; first | (rw [if_pos (by decide +kernel)]; kernel_rfl) | (rw [if_neg (by decide +kernel)]; exact ⟨rfl, rfl⟩))
    (fun os started H enc _ => lifted os started H enc)

end Go.Proofs.Ytgopjjclobgekaa.helloAll

namespace Go.Proofs.Ytgopjjclobgekaa
/-- The statement, by its short name. -/
theorem helloAll_holds : Rows.HelloAllSaid := helloAll.over
#print axioms helloAll_holds
end Go.Proofs.Ytgopjjclobgekaa
