
/-
  Contract of package age's Tick, at every view: what it returns, in new memory, and that no old memory has turned.
-/
import Derived.Test.YtghamcomjfholaaAgeA
import Derived.Test.YtghamcomjfholaaOld
import Derived.Deep.DeepCutAuto
import Derived.Deep.CutRange
import Derived.Deep.CutBlock
namespace Go.Proofs.Ytghamcomjfholaa
open Go.ChangeShapes Go.WideShapes Go.ChangeAt Go.RowKit

/-- Age, at peers that may be: its two answers as slices. -/
theorem pAge_yes {lo hi : Nat} {w : World} {v : Value} {xs : List Pe} {b : Int} (hx : RowP lo hi w v xs) (hh : hi ≤ w.heap.size) (hs : psB b xs = true) :
    Calls Try.prog 38 #[.int .i64 b, v] w fun e w' => ∃ a n c a' n' c', e = .returned (.tuple #[.slice a n c, .slice a' n' c', .int .i64 0]) ∧
      RowP w.heap.size w'.heap.size w' (.slice a n c) (agA xs) ∧ RowI w.heap.size w'.heap.size w' (.slice a' n' c') (agD xs) ∧ Below w.heap.size w w' := by
  refine (pAge_any hx hh b).mono fun e w' k => ?_
  obtain ⟨o, l, he, ⟨lo1, hi1, lo2, hi2, P, Q, -, h1, h2, h3, h4⟩, hb⟩ := k
  rw [(ag_yes hs).1] at P
  rw [(ag_yes hs).2.1] at Q
  rw [(ag_yes hs).2.2] at he
  obtain ⟨a, c, e1, -⟩ := id P
  obtain ⟨a', c', e2, -⟩ := id Q
  subst e1 e2
  exact ⟨a, _, c, a', _, c', he, P.wide h1 h2, Q.wide h3 h4, hb⟩

/-- Who is left, and who is lost, as two lists; then a view's variable behind them. -/
theorem tick_endA {base lo : Nat} {w2 W w3 : World} {p q : Value} {ps : List Pe} {is : List Int} {i : Int} {t : TypeId} (P : RowP lo w2.heap.size w2 p ps) (hlo : base ≤ lo) (hw : base ≤ w2.heap.size) (hB : Below w2.heap.size w2 w3) (Q : RowI W.heap.size w3.heap.size w3 q is) (hW : w2.heap.size ≤ W.heap.size) :
    Hid (Box (w3.alloc (.cells #[.int .i64 i, p, q] t)) w3.heap.size #[.int .i64 i, p, q]) ∧ Hid (VwNew base (w3.alloc (.cells #[.int .i64 i, p, q] t)) p q ps is) ∧ Below w2.heap.size w2 (w3.alloc (.cells #[.int .i64 i, p, q] t)) := by
  have := hB.size
  refine ⟨toHid (Box.new _ _ _), toHid ⟨lo, w2.heap.size, W.heap.size, w3.heap.size, (P.below hB (Nat.le_refl _)).alloc _ PeV_len, Q.alloc _, hlo, ?_, by omega, ?_, .inl hW⟩, hB.onA _⟩ <;> simp <;> omega
/-- The view's variable ahead of the second list. -/
theorem tick_endB {base lo : Nat} {w2 W w3 : World} {p q : Value} {ps : List Pe} {is : List Int} {i : Int} {x y z : Value} (P : RowP lo w2.heap.size w2 p ps) (hlo : base ≤ lo) (hw : base ≤ w2.heap.size) (hB : Below w2.heap.size w2 w3) (Q : RowI W.heap.size w3.heap.size w3 q is) (hW : w2.heap.size + 1 ≤ W.heap.size) (h3 : Below W.heap.size W w3) (b : Box W w2.heap.size #[x, y, z]) :
    Hid (Box (((w3.setCell ⟨w2.heap.size, 0, none⟩ (.int .i64 i)).setCell ⟨w2.heap.size, 1, none⟩ p).setCell ⟨w2.heap.size, 2, none⟩ q) w2.heap.size #[.int .i64 i, p, q]) ∧ Hid (VwNew base (((w3.setCell ⟨w2.heap.size, 0, none⟩ (.int .i64 i)).setCell ⟨w2.heap.size, 1, none⟩ p).setCell ⟨w2.heap.size, 2, none⟩ q) p q ps is) ∧ Below w2.heap.size w2 (((w3.setCell ⟨w2.heap.size, 0, none⟩ (.int .i64 i)).setCell ⟨w2.heap.size, 1, none⟩ p).setCell ⟨w2.heap.size, 2, none⟩ q) := by
  have h1 := hB.size
  have h2 := h3.size
  have hS := ((((Only.refl w2.heap.size (w2.heap.size + 1) w3).setCell (b := w2.heap.size) (o := 0) (Nat.le_refl _) (Nat.lt_succ_self _) (.int .i64 i)).setCell (b := w2.heap.size) (o := 1) (Nat.le_refl _) (Nat.lt_succ_self _) p).setCell (b := w2.heap.size) (o := 2) (Nat.le_refl _) (Nat.lt_succ_self _) q)
  have h4 := hS.size
  refine ⟨toHid ((((b.below h3).setS (ys := #[.int .i64 i, y, z]) 0 (.int .i64 i) (by simp) (by simp)).setS (ys := #[.int .i64 i, p, z]) 1 p (by simp) (by simp)).setS (ys := #[.int .i64 i, p, q]) 2 q (by simp) (by simp)), toHid ⟨lo, w2.heap.size, W.heap.size, w3.heap.size, (P.below hB (Nat.le_refl _)).only hS (.inl (Nat.le_refl _)), Q.only hS (.inr hW), hlo, by omega, by omega, by omega, .inl (by omega)⟩, hB.trans hS.below⟩

set_option maxHeartbeats 4000000 in
theorem aTick_any {lo hi : Nat} {w : World} {p q : Value} {ps : List Pe} {is : List Int} (i : Int) (h : VwAt lo hi w p q ps is) (hh : hi ≤ w.heap.size) :
    Calls Try.prog 21 #[.agg #[.int .i64 i, p, q]] w fun e w' => ∃ p' q' g, e = .returned (.tuple #[.agg #[.int .i64 (tkI i (ps, is)), p', q'], g, .int .i64 (tkE i (ps, is))]) ∧ VgNew w.heap.size w' p' q' g (tkV i (ps, is)).1 (tkV i (ps, is)).2 (tkL i (ps, is)) ∧ Below w.heap.size w w' := by
  have H1 := toHid (fun o1 o2 : Obj => vMay_any i ((h.alloc o1).alloc o2) (Nat.le_trans hh (by simp; omega)))
  have B1 := toHid (fun (o1 : Obj) (cs : Array Value) (t : TypeId) => (Box.new w cs t).alloc o1)
  have C1 := toHid (fun (o1 : Obj) (cs : Array Value) (t : TypeId) => Box.new1 w o1 cs t)
  have HV := toHid (fun (o1 o2 : Obj) (w1 : World) (hb : Below ((w.alloc o1).alloc o2).heap.size ((w.alloc o1).alloc o2) w1) => ((h.alloc o1).alloc o2).below hb (Nat.le_trans hh (by simp; omega)))
  obtain ⟨a, c, a', c', ep, eq, hn, hn'⟩ := h.shape
  subst ep eq
  clear h
  rcases Bool.eq_false_or_eq_true (vwB i ps is) with hB | hB
  · obtain ⟨e1, e2, e3, e4⟩ := tk_yes (s := (ps, is)) hB
    rw [e1, e2, e3, e4]
    have hps := toHid (vwB_iff.1 hB).1
    have hl : ps.length + is.length ≤ 16 := (vwB_iff.1 hB).2.2.1
    have hlT : Hid ((tkS (ps, is)).1.length + (tkS (ps, is)).2.length ≤ 1024) := toHid (by have : szS (tkS (ps, is)) = ps.length + is.length := tk_size (i := i) (s := (ps, is)) hB; unfold szS at this; omega)
    rw [hB] at H1
    clear e1 e2 e3 e4 hB
    go_enter Try.func21, Try.ntmps21
    go_wp2_with (first
      | (go_at_call 31; refine (H1.out _ _).mono ?_; rintro e w1 ⟨rfl, hk⟩
         obtain ⟨b1, b2, b3⟩ := (B1.out _ _ _).below hk)
      | (go_at_call 38; refine (pAge_yes (HV.out _ _ _ hk).ps (Nat.le_trans hh (Nat.le_trans (by simp; omega) hk.size)) hps.out).mono ?_; rintro e w2 ⟨a2, n2, c2, a2', n2', c2', rfl, P2, Q2, h2⟩
         have hz1 := hk.size
         simp only [World.size_alloc] at hz1
         have hz2 := h2.size
         replace hk := hk.on h2
         clear h2 b1 b2 b3))
    obtain ⟨b1, b2, b3⟩ := (B1.out _ _ _).below hk
    have g0 := b2 0
    have g2 := b2 2
    simp at g0 g2
    have HW := toHid (fun (W : World) (hW : Below w2.heap.size w2 W) => (aWith_any (((HV.out _ _ _ hk).is).below hW (Nat.le_trans hh (by omega))) (Q2.below hW (Nat.le_refl _)) hW.size (by omega)).mono fun e w3 (k : ∃ o, e = .returned o ∧ RowI W.heap.size w3.heap.size w3 o (tkF is (agD ps)) ∧ Below W.heap.size W w3) => (by
      obtain ⟨o, he, R, hb⟩ := k
      obtain ⟨a3, c3, e3, -⟩ := id R
      subst e3
      exact ⟨a3, _, c3, he, R, hb, hW.on hb⟩ : ∃ a3 n3 c3, e = .returned (.slice a3 n3 c3) ∧ RowI W.heap.size w3.heap.size w3 (.slice a3 n3 c3) (tkF is (agD ps)) ∧ Below W.heap.size W w3 ∧ Below w2.heap.size w2 w3))
    clear b2 b3 HV H1 Q2
    replace P2 := toHid P2
    have b1' : w.heap.size < w2.heap.size + 1 := by omega
    go_cut [8] from 22 to 29 (fun v8 wx => ∃ bo a3 n3 c3, v8 = .pointer (some ⟨bo, 0, none⟩) ∧ Hid (Box wx bo #[.int .i64 i, .slice a2 n2 c2, .slice a3 n3 c3]) ∧ Hid (VwNew (w.heap.size + 1 + 1) wx (.slice a2 n2 c2) (.slice a3 n3 c3) (agA ps) (tkF is (agD ps))) ∧ Below w2.heap.size w2 wx)
    case first =>
      go_region_with (first
        | (go_at_call 39; refine (HW.out _ ?_).mono ?_
           · first
               | exact Below.refl _ _
               | exact (Below.refl _ _).onD 1
               | exact ((Below.refl _ _).onA _).onD 1
               | exact (Below.refl _ _).onA _
           rintro e w3 ⟨a3, n3, c3, rfl, Q3, h3, hB3⟩
           have y0 := (hB3.cell (p := ⟨w.heap.size, 0, none⟩) b1).trans g0
           replace hB3 := toHid hB3
           have hc3 := (bcell h3).1
           have hf3 := (bcell h3).2
           have hz7 : w.heap.size < w3.heap.size := by have := h3.size; simp at this; omega
           first | (have hz6 : w2.heap.size < w3.heap.size := by have := h3.size; simp at this; omega) | skip
           replace h3 := toHid h3
           replace Q3 := toHid Q3))
      all_goals (go_wp2_with fail; go_meet)
      all_goals
        first
          | (have t6 := hz6; exact ⟨_, _, _, _, rfl, tick_endB P2.out hz1 (Nat.le_trans hz1 hz2) hB3.out Q3.out (by simp) h3.out ((Box.new _ _ _).drewN 1)⟩)
          | exact ⟨_, _, _, _, rfl, tick_endA P2.out hz1 (Nat.le_trans hz1 hz2) hB3.out Q3.out (by simp)⟩
    case rest =>
      obtain ⟨bo, a3, n3, c3, rfl, BX, X, hbc⟩ := hcut
      replace hk := hk.on hbc
      have CX := toHid ((C1.out _ _ _).below hk)
      have hbel := toHid ((((Below.refl _ w).onA _).onA _).on hk)
      have HG := toHid (fun (W : World) (hW : Below wc.heap.size wc W) => (aGreet_any i (X.out.at.below hW (Nat.le_refl _)) hW.size hlT.out).mono fun e w4 (k : ∃ u, e = .returned u ∧ RowI W.heap.size w4.heap.size w4 u (tkG (ps, is)) ∧ Below W.heap.size W w4) => (by
        obtain ⟨u, he, R, hb⟩ := k
        exact ⟨u, he, R.wide hW.size (Nat.le_refl _), hW.on hb⟩ : ∃ u, e = .returned u ∧ RowI wc.heap.size w4.heap.size w4 u (tkG (ps, is)) ∧ Below wc.heap.size wc w4))
      clear b1 b1' g0 g2 HW P2 hbc hk C1 B1 hz1 hz2 hps hlT
      obtain ⟨b1, b2, b3⟩ := id BX.out
      obtain ⟨d1, d2, d3⟩ := id CX.out
      go_wp2
      go_region_with (first
        | (go_at_call 40; refine (HG.out _ ?_).mono ?_
           · first
               | exact Below.refl _ _
               | exact (Below.refl _ _).onD 1
           rintro e w4 ⟨u4, rfl, R4, h4⟩
           obtain ⟨p1, p2, p3⟩ := BX.out.below h4
           obtain ⟨q1, q2, q3⟩ := CX.out.below h4
           have z4 := h4.size
           replace h4 := toHid h4
           replace R4 := toHid R4))
      all_goals
        clear b1 b2 b3 d2 d3 p1 p2 p3 HG
        have hS := toHid ((((Only.refl (w.heap.size + 1) (w.heap.size + 1 + 1) w4).setCell (o := 0) (Nat.le_refl _) (by omega) (.int .i64 i)).setCell (b := w.heap.size + 1) (o := 1) (Nat.le_refl _) (by omega) (.slice a2 n2 c2)).setCell (b := w.heap.size + 1) (o := 2) (Nat.le_refl _) (by omega) (.slice a3 n3 c3))
        go_wp2
        refine bodyPost_ret (v := .tuple #[.agg #[.int .i64 i, .slice a2 n2 c2, .slice a3 n3 c3], u4, .int .i64 0]) (by simp [results, Try.results21, go_sem, q2]) rfl ?_
        exact ⟨_, _, _, rfl, ((VgNew.of X.out (by omega) h4.out R4.out).only hS.out (Nat.le_refl _)).down (by omega), (hbel.out.on h4.out).trans (hS.out.below.mono (by omega))⟩
  · obtain ⟨e1, e2, e3, e4⟩ := tk_no (s := (ps, is)) hB
    rw [e1, e2, e3, e4]
    rw [hB] at H1
    clear e1 e2 e3 e4 hB HV
    dsimp only
    go_enter Try.func21, Try.ntmps21
    go_wp2_with (first
      | (go_at_call 31; refine (H1.out _ _).mono ?_; rintro e w1 ⟨rfl, hk⟩
         obtain ⟨b1, b2, b3⟩ := (B1.out _ _ _).below hk
         obtain ⟨d1, d2, d3⟩ := (C1.out _ _ _).below hk))
    have hS := toHid ((((Only.refl (w.heap.size + 1) (w.heap.size + 1 + 1) w1).setCell (o := 0) (Nat.le_refl _) (by omega) (.int .i64 0)).setCell (b := w.heap.size + 1) (o := 1) (Nat.le_refl _) (by omega) (.slice none 0 0)).setCell (b := w.heap.size + 1) (o := 2) (Nat.le_refl _) (by omega) (.slice none 0 0))
    have hB := (((Below.refl _ w).onA _).onA _).on hk
    refine bodyPost_ret (v := .tuple #[.agg #[.int .i64 0, .slice none 0 0, .slice none 0 0], .slice none 0 0, .int .i64 1100]) (by simp [results, Try.results21, go_sem, d2]) rfl ?_
    exact ⟨_, _, _, rfl, VgNew.nil _ _, hB.trans (hS.out.below.mono (by omega))⟩

end Go.Proofs.Ytghamcomjfholaa
