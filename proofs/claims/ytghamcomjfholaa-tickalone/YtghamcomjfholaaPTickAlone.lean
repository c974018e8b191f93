
/-
  The statement TickAlone: a node that hears nobody ticks on: all it knew are passive in the end, from the fourth tick on it greets them and sends nothing else, and it holds the items that it held.
-/
import Derived.Test.YtghamcomjfholaaRows
import Derived.Test.YtghamcomjfholaaOpen
import Derived.Test.YtghamcomjfholaaTickMsg
import Derived.Test.YtghamcomjfholaaNodeCopy
import Derived.Test.YtghamcomjfholaaOpenN
import Derived.Deep.DeepCutAuto
import Derived.Deep.CutRange
import Derived.Deep.CutBlock
namespace Go.Proofs.Ytghamcomjfholaa.tickAlone
open Go.ChangeShapes Go.WideShapes Go.ChangeAt Go.RowKit
set_option linter.unusedVariables false

/-! ### The walk -/
set_option maxRecDepth 20000 in
set_option maxHeartbeats 8000000 in
theorem walk (v0 : Value) (x0 : NdO) (a1 : Int) (w : World) (r0 : v0 = .agg #[.bool x0.up, .int .i64 x0.v.i, x0.v.p, x0.v.q, x0.r, x0.s]) (h0 : NdAt 0 w.heap.size w x0.v.p x0.v.q x0.r x0.s x0.v.ps x0.v.is x0.ts x0.ls) (s0 : x0.v.ps.length * 16 ≤ 140737488351232) (t0 : x0.v.is.length * 8 ≤ 140737488351232) (u0 : x0.ts.length * 40 ≤ 140737488351232) (y0 : x0.ls.length * 24 ≤ 140737488351232) (w0 : (Lit.int .i64 x0.v.i).wf = true) (i0 : ∀ y ∈ x0.v.ps, PeW y) (j0 : ∀ y ∈ x0.v.is, (Lit.int .i64 y).wf = true) (m0 : ∀ y ∈ x0.ts, ItW y) (n0 : ∀ y ∈ x0.ls, TeW y) (w1 : (Lit.int .i64 a1).wf = true) :
    Calls Try.prog 5 #[v0, .int .i64 a1] w fun e w' => e = .returned (.bool true) ∧ Below w.heap.size w w' := by
  obtain ⟨up, ⟨ni, ps, is, p, q⟩, ts, ls, r, s⟩ := x0
  dsimp only at r0 h0 s0 t0 u0 y0
  subst r0
  clear w0 w1 i0 j0 m0 n0
  have e7 : bits .and .i64 a1 7 = a1 % 8 := and7 a1
  obtain ⟨T, hT⟩ : ∃ T : Nat, (T : Int) = a1 % 8 := ⟨(a1 % 8).toNat, by omega⟩
  rw [← hT] at e7
  have hT8 : T < 8 := by omega
  clear hT
  obtain ⟨a, c, a', c', a2, c2, a3, c3, rfl, rfl, rfl, rfl⟩ := h0.shape
  have BM := toHid (Box.new w #[.bool up, .int .i64 ni, .slice a ps.length c, .slice a' is.length c', .slice a2 ts.length c2, .slice a3 ls.length c3] 30)
  have N0 := toHid (h0.alloc (.cells #[.bool up, .int .i64 ni, .slice a ps.length c, .slice a' is.length c', .slice a2 ts.length c2, .slice a3 ls.length c3] 30))
  have hB := toHid ((Below.refl _ w).onA (.cells #[.bool up, .int .i64 ni, .slice a ps.length c, .slice a' is.length c', .slice a2 ts.length c2, .slice a3 ls.length c3] 30))
  have e0 : Hid (w.heap.size < (w.alloc (.cells #[.bool up, .int .i64 ni, .slice a ps.length c, .slice a' is.length c', .slice a2 ts.length c2, .slice a3 ls.length c3] 30)).heap.size) := toHid (by simp)
  clear h0 s0 t0 u0 y0
  cases hn : (up && ndB ⟨up, ni, ps, is, ts, ls⟩) with
  | false =>
    have hE : Hid (tiE ⟨up, ni, ps, is, ts, ls⟩ = 1900) := toHid (by simp [tiE, hn])
    have hN : Hid (tiN ⟨up, ni, ps, is, ts, ls⟩ = ⟨false, 0, [], [], [], []⟩) := toHid (by simp [tiN, hn, zeroN])
    have hL : Hid (tiM ⟨up, ni, ps, is, ts, ls⟩ = []) := toHid (by simp [tiM, hn])
    have KT := toHid (fun (W : World) (hk : Below (w.alloc (.cells #[.bool up, .int .i64 ni, .slice a ps.length c, .slice a' is.length c', .slice a2 ts.length c2, .slice a3 ls.length c3] 30)).heap.size (w.alloc (.cells #[.bool up, .int .i64 ni, .slice a ps.length c, .slice a' is.length c', .slice a2 ts.length c2, .slice a3 ls.length c3] 30)) W) => tStep_at up ni (N0.out.below hk (Nat.le_of_lt e0.out)) (Nat.le_trans (Nat.le_of_lt e0.out) hk.size) hE.out hN.out hL.out)
    clear hE hN hL N0 hn
    go_enter Try.func5, Try.ntmps5
    go_upto_region 1 with (fail)
    generalize w.alloc (.cells #[.bool up, .int .i64 ni, .slice a ps.length c, .slice a' is.length c', .slice a2 ts.length c2, .slice a3 ls.length c3] 30) = wA at BM hB e0 KT ⊢
    go_upto_region 3 with (go_at_call 7; refine (awake19_any _).mono ?_; rintro e w1 ⟨rfl, h1⟩)
    obtain ⟨m1, m2, m3⟩ := BM.out.below h1
    go_upto_block 0 with (fail)
    have BY := toHid (Box.new w1 #[.bool up, .int .i64 ni, .slice a ps.length c, .slice a' is.length c', .slice a2 ts.length c2, .slice a3 ls.length c3] 30)
    have hb1 := toHid (h1.onA (.cells #[.bool up, .int .i64 ni, .slice a ps.length c, .slice a' is.length c', .slice a2 ts.length c2, .slice a3 ls.length c3] 30))
    clear m1 m2 m3 h1
    go_wp2
    generalize w1.heap.size = bo at *
    go_loopw [6] (fun j wr => j = .int .i64 0 ∧ Hid (Box wr bo #[.bool up, .int .i64 ni, .slice a ps.length c, .slice a' is.length c', .slice a2 ts.length c2, .slice a3 ls.length c3]) ∧ Hid (Below wA.heap.size wA wr)) (fun _ _ => 0)
    case atStart => exact ⟨rfl, BY, hb1⟩
    case round =>
      clear BY hb1
      obtain ⟨rfl, BX, hbel⟩ := hrel
      have hlt' : (0 : Int) < 3 + (T : Int) := by omega
      obtain ⟨b1, b2, b3⟩ := id BX.out
      go_wp2_with (first
        | (go_at_call 10; refine (KT.out _ hbel.out).mono ?_; rintro e w5 ⟨a5, c5, a6, c6, a7, c7, a8, c8, b9, d9, m9, rfl, N5, -, -, m2, h5⟩
           have k6 := toHid ((hbel.out.on h5).onA (.cells #[.bool false, .int .i64 0, .slice a5 ([] : List Pe).length c5, .slice a6 ([] : List Int).length c6, .slice a7 ([] : List It).length c7, .slice a8 ([] : List Te).length c8] 30))
           have N6 := toHid (N5.alloc (.cells #[.bool false, .int .i64 0, .slice a5 ([] : List Pe).length c5, .slice a6 ([] : List Int).length c6, .slice a7 ([] : List It).length c7, .slice a8 ([] : List Te).length c8] 30))
           have m3 : m9 ≤ (w5.alloc (.cells #[.bool false, .int .i64 0, .slice a5 ([] : List Pe).length c5, .slice a6 ([] : List Int).length c6, .slice a7 ([] : List It).length c7, .slice a8 ([] : List Te).length c8] 30)).heap.size := Nat.le_trans m2 (by simp)
           clear N5 h5 b1 b2 b3)
        | (go_at_call 11; refine (sameNode_same false 0 N6.out (NdAt.nil0 (lo := 0) (hi := 0)) m3 (Nat.zero_le _)).mono ?_; rintro e w6 ⟨rfl, h6⟩
           have k7 := toHid (k6.out.on h6)
           clear h6)
        | (go_at_call 12; refine (num_any _ _).mono ?_; rintro e w' ⟨rfl, hw'⟩; subst w'))
      go_ret
      exact ⟨rfl, hB.out.on k7.out⟩
  | true =>
    simp only [Bool.and_eq_true] at hn
    obtain ⟨rfl, hnd⟩ := hn
    have hv : okS ni (ps, is) := nd_vw (n := ⟨true, ni, ps, is, ts, ls⟩) rfl hnd
    obtain ⟨l1, l2, l3⟩ := nd_lens (n := ⟨true, ni, ps, is, ts, ls⟩) rfl hnd
    have hO := toHid (tkN_nd hnd)
    have hZ := toHid (tkN_size (i := ni) (s := (ps, is)) hv)
    have hG := toHid (tkN_gone hv)
    have hF := toHid (fun (k : Nat) (hk : 3 ≤ k) => ti_last hnd hk)
    dsimp only at l1 l2 l3
    have hlens := toHid (And.intro l1 (And.intro l2 l3))
    clear hnd hv l1 l2 l3
    go_enter Try.func5, Try.ntmps5
    go_upto_region 1 with (fail)
    generalize w.alloc (.cells #[.bool true, .int .i64 ni, .slice a ps.length c, .slice a' is.length c', .slice a2 ts.length c2, .slice a3 ls.length c3] 30) = wA at BM hB e0 N0 ⊢
    go_upto_region 3 with (go_at_call 7; refine (awake19_any _).mono ?_; rintro e w1 ⟨rfl, h1⟩)
    have BM1 := BM.out.below h1
    obtain ⟨m1, m2, m3⟩ := id BM1
    go_upto_block 0 with (fail)
    have hbo : Hid (w.heap.size < w1.heap.size) := toHid BM1.1
    have BX0 := toHid (Box.new w1 #[.bool true, .int .i64 ni, .slice a ps.length c, .slice a' is.length c', .slice a2 ts.length c2, .slice a3 ls.length c3] 30)
    have BV0 := toHid (BM1.alloc (.cells #[.bool true, .int .i64 ni, .slice a ps.length c, .slice a' is.length c', .slice a2 ts.length c2, .slice a3 ls.length c3] 30))
    have hb0 := toHid ((hB.out.on h1).onA (.cells #[.bool true, .int .i64 ni, .slice a ps.length c, .slice a' is.length c', .slice a2 ts.length c2, .slice a3 ls.length c3] 30))
    have NX := toHid ((N0.out.below h1 (Nat.le_of_lt e0.out)).alloc (.cells #[.bool true, .int .i64 ni, .slice a ps.length c, .slice a' is.length c', .slice a2 ts.length c2, .slice a3 ls.length c3] 30))
    have X0 : Hid (NaBut w1.heap.size (w1.alloc (.cells #[.bool true, .int .i64 ni, .slice a ps.length c, .slice a' is.length c', .slice a2 ts.length c2, .slice a3 ls.length c3] 30)) (.slice a ps.length c) (.slice a' is.length c') (.slice a2 ts.length c2) (.slice a3 ls.length c3) (tkN 0 (ps, is)).1 (tkN 0 (ps, is)).2 ts ls) := toHid ⟨_, _, NX.out, by have := hbo.out; simp; omega, .inl (Nat.le_of_lt hbo.out)⟩
    clear m1 m2 m3 h1 BM1 BM N0 hB e0
    go_wp2
    generalize w1.heap.size = bo at *
    go_loopw [6] (fun j wr => ∃ (k : Nat) (p q r s : Value), k ≤ 3 + T ∧ j = .int .i64 k ∧ Hid (NaBut bo wr p q r s (tkN k (ps, is)).1 (tkN k (ps, is)).2 ts ls) ∧ Hid (Box wr bo #[.bool true, .int .i64 ni, p, q, r, s]) ∧ Hid (Box wr w.heap.size #[.bool true, .int .i64 ni, .slice a ps.length c, .slice a' is.length c', .slice a2 ts.length c2, .slice a3 ls.length c3]) ∧ Hid (NdAt 0 w.heap.size wr (.slice a ps.length c) (.slice a' is.length c') (.slice a2 ts.length c2) (.slice a3 ls.length c3) ps is ts ls) ∧ Hid (Below w.heap.size w wr)) (fun j _ => 3 + T - (intOf j).toNat)
    case atStart => exact ⟨0, _, _, _, _, by omega, rfl, X0, BX0, BV0, NX, hb0⟩
    case round =>
      clear X0 BX0 BV0 hb0 NX
      obtain ⟨k, p, q, r, s, hk, rfl, X, BX, BV, NX, hbel⟩ := hrel
      obtain ⟨y1, z1, y2, z2, y3, z3, y4, z4, ep, eq, er, es⟩ := X.out.shape
      subst ep eq er es
      by_cases hlt : k < 3 + T
      · have hT1 := ti_yes (s := tkN k (ps, is)) (hO.out k)
        have hst : Hid (tkN (k + 1) (ps, is) = tkS (tkN k (ps, is))) := toHid rfl
        have hFk := toHid (hF.out k)
        obtain ⟨⟨s1, s2⟩, hs⟩ : ∃ s, tkN k (ps, is) = s := ⟨_, rfl⟩
        rw [hs] at X BX hT1 hst hFk
        obtain ⟨⟨u1, u2⟩, hu⟩ : ∃ s, tkS (s1, s2) = s := ⟨_, rfl⟩
        rw [hu] at hT1 hst
        dsimp only at X BX hT1 hFk
        obtain ⟨L, hL⟩ : ∃ L, tiM ⟨true, ni, s1, s2, ts, ls⟩ = L := ⟨_, rfl⟩
        rw [hL] at hFk
        have KT : Hid (∀ (W : World) (p q r s : Value), NaBut bo W p q r s s1 s2 ts ls → Calls Try.prog 10 #[.agg #[.bool true, .int .i64 ni, p, q, r, s]] W fun e w' => ∃ a5 c5 a6 c6 a7 c7 a8 c8 b d m, e = .returned (.tuple #[.agg #[.bool true, .int .i64 ni, .slice a5 u1.length c5, .slice a6 u2.length c6, .slice a7 ts.length c7, .slice a8 ls.length c8], .slice b L.length d, .int .i64 0]) ∧
            NdAt W.heap.size m w' (.slice a5 u1.length c5) (.slice a6 u2.length c6) (.slice a7 ts.length c7) (.slice a8 ls.length c8) u1 u2 ts ls ∧ OwnM m w' (.slice b L.length d) L ∧ W.heap.size ≤ m ∧ m ≤ w'.heap.size ∧ Below W.heap.size W w') := toHid (fun W p q r s h => by
          obtain ⟨lo, hi, V, h1, -⟩ := h.out
          exact tStep_at true ni V h1 hT1.1 hT1.2.1 hL)
        clear hT1 hL hs hu hO hZ hG hF
        have hlt' : (k : Int) < 3 + (T : Int) := by omega
        obtain ⟨b1, b2, b3⟩ := id BX.out
        have hz6 : bo < wr.heap.size := BX.out.1
        by_cases h3 : 3 ≤ k
        · have g1 : (3 : Int) ≤ (k : Int) := by omega
          have hLn : (L.length : Int) = (ps.length : Int) + (is.length : Int) := by rw [hFk.out h3]; simp
          clear h3 hFk
          obtain ⟨d1, d2, d3⟩ := id BV.out
          have l0 := hlens.out.1
          go_wp2_with (first
            | (go_at_call 10; refine (KT.out _ _ _ _ _ X.out).mono ?_; rintro e w6 ⟨a5, c5, a6, c6, a7, c7, a8, c8, b9, d9, m9, rfl, N6, -, m1, m2, h6⟩
               clear b1 b2 b3 d1 d2 d3
               have hS6 := (((((((Only.refl bo (bo + 1) w6).setCell (b := bo) (o := 0) (Nat.le_refl _) (Nat.lt_succ_self _) (.bool true)).setCell (b := bo) (o := 1) (Nat.le_refl _) (Nat.lt_succ_self _) (.int .i64 ni)).setCell (b := bo) (o := 2) (Nat.le_refl _) (Nat.lt_succ_self _) (.slice a5 u1.length c5)).setCell (b := bo) (o := 3) (Nat.le_refl _) (Nat.lt_succ_self _) (.slice a6 u2.length c6)).setCell (b := bo) (o := 4) (Nat.le_refl _) (Nat.lt_succ_self _) (.slice a7 ts.length c7)).setCell (b := bo) (o := 5) (Nat.le_refl _) (Nat.lt_succ_self _) (.slice a8 ls.length c8))
               have hz7 : w.heap.size < wr.heap.size := BV.out.1
               have X7 := toHid ((NaBut.set ⟨_, _, N6, m2, .inr hz6⟩ hS6).below ((Below.refl _ _).onA (.cells #[.bool true, .int .i64 ni, .slice a5 u1.length c5, .slice a6 u2.length c6, .slice a7 ts.length c7, .slice a8 ls.length c8] 30)))
               have BX7 := toHid (((BX.out.below h6).set6 (.bool true) (.int .i64 ni) (.slice a5 u1.length c5) (.slice a6 u2.length c6) (.slice a7 ts.length c7) (.slice a8 ls.length c8)).1.alloc (.cells #[.bool true, .int .i64 ni, .slice a5 u1.length c5, .slice a6 u2.length c6, .slice a7 ts.length c7, .slice a8 ls.length c8] 30))
               have BV7 := toHid (((BV.out.below h6).only2 hS6 (.inl hbo.out)).alloc (.cells #[.bool true, .int .i64 ni, .slice a5 u1.length c5, .slice a6 u2.length c6, .slice a7 ts.length c7, .slice a8 ls.length c8] 30))
               have NX7 := toHid (((NX.out.below h6 (Nat.le_of_lt hz7)).only hS6 (.inl (Nat.le_of_lt hbo.out))).alloc (.cells #[.bool true, .int .i64 ni, .slice a5 u1.length c5, .slice a6 u2.length c6, .slice a7 ts.length c7, .slice a8 ls.length c8] 30))
               have hbel7 := toHid (((hbel.out.on h6).trans (hS6.below.mono (Nat.le_of_lt hbo.out))).onA (.cells #[.bool true, .int .i64 ni, .slice a5 u1.length c5, .slice a6 u2.length c6, .slice a7 ts.length c7, .slice a8 ls.length c8] 30))
               clear hS6
               obtain ⟨b1, b2, b3⟩ := BX.out.below h6
               obtain ⟨d1, d2, d3⟩ := BV.out.below h6
               clear N6 h6)
            | (go_at_call 12; refine (num_any _ _).mono ?_; rintro e w' ⟨rfl, hw'⟩; subst w'))
          go_roundw
          case rel => exact ⟨k + 1, _, _, _, _, by omega, by go_num, by rw [hst.out]; exact X7, BX7, BV7, NX7, hbel7⟩
          case measure => simp [intOf]; omega
        · have g1 : decide ((3 : Int) ≤ (k : Int)) = false := by simp; omega
          have g2 : ¬ (3 : Int) ≤ (k : Int) := by omega
          have g3 : (k : Int) < 3 := by omega
          clear h3 hFk
          obtain ⟨d1, d2, d3⟩ := id BV.out
          have l0 := hlens.out.1
          go_wp2_with (first
            | (go_at_call 10; refine (KT.out _ _ _ _ _ X.out).mono ?_; rintro e w6 ⟨a5, c5, a6, c6, a7, c7, a8, c8, b9, d9, m9, rfl, N6, -, m1, m2, h6⟩
               clear b1 b2 b3 d1 d2 d3
               have hS6 := (((((((Only.refl bo (bo + 1) w6).setCell (b := bo) (o := 0) (Nat.le_refl _) (Nat.lt_succ_self _) (.bool true)).setCell (b := bo) (o := 1) (Nat.le_refl _) (Nat.lt_succ_self _) (.int .i64 ni)).setCell (b := bo) (o := 2) (Nat.le_refl _) (Nat.lt_succ_self _) (.slice a5 u1.length c5)).setCell (b := bo) (o := 3) (Nat.le_refl _) (Nat.lt_succ_self _) (.slice a6 u2.length c6)).setCell (b := bo) (o := 4) (Nat.le_refl _) (Nat.lt_succ_self _) (.slice a7 ts.length c7)).setCell (b := bo) (o := 5) (Nat.le_refl _) (Nat.lt_succ_self _) (.slice a8 ls.length c8))
               have hz7 : w.heap.size < wr.heap.size := BV.out.1
               have X7 := toHid ((NaBut.set ⟨_, _, N6, m2, .inr hz6⟩ hS6).below ((Below.refl _ _).onA (.cells #[.bool true, .int .i64 ni, .slice a5 u1.length c5, .slice a6 u2.length c6, .slice a7 ts.length c7, .slice a8 ls.length c8] 30)))
               have BX7 := toHid (((BX.out.below h6).set6 (.bool true) (.int .i64 ni) (.slice a5 u1.length c5) (.slice a6 u2.length c6) (.slice a7 ts.length c7) (.slice a8 ls.length c8)).1.alloc (.cells #[.bool true, .int .i64 ni, .slice a5 u1.length c5, .slice a6 u2.length c6, .slice a7 ts.length c7, .slice a8 ls.length c8] 30))
               have BV7 := toHid (((BV.out.below h6).only2 hS6 (.inl hbo.out)).alloc (.cells #[.bool true, .int .i64 ni, .slice a5 u1.length c5, .slice a6 u2.length c6, .slice a7 ts.length c7, .slice a8 ls.length c8] 30))
               have NX7 := toHid (((NX.out.below h6 (Nat.le_of_lt hz7)).only hS6 (.inl (Nat.le_of_lt hbo.out))).alloc (.cells #[.bool true, .int .i64 ni, .slice a5 u1.length c5, .slice a6 u2.length c6, .slice a7 ts.length c7, .slice a8 ls.length c8] 30))
               have hbel7 := toHid (((hbel.out.on h6).trans (hS6.below.mono (Nat.le_of_lt hbo.out))).onA (.cells #[.bool true, .int .i64 ni, .slice a5 u1.length c5, .slice a6 u2.length c6, .slice a7 ts.length c7, .slice a8 ls.length c8] 30))
               clear hS6
               obtain ⟨b1, b2, b3⟩ := BX.out.below h6
               obtain ⟨d1, d2, d3⟩ := BV.out.below h6
               clear N6 h6)
            | (go_at_call 12; refine (num_any _ _).mono ?_; rintro e w' ⟨rfl, hw'⟩; subst w'))
          go_roundw
          case rel => exact ⟨k + 1, _, _, _, _, by omega, by go_num, by rw [hst.out]; exact X7, BX7, BV7, NX7, hbel7⟩
          case measure => simp [intOf]; omega
      · obtain rfl : k = 3 + T := by omega
        have e0 : (tkN (3 + T) (ps, is)).1 = [] := by rw [Nat.add_comm]; exact hG.out T
        have e1 := hZ.out (3 + T)
        have hnd := hO.out (3 + T)
        obtain ⟨⟨s1, s2⟩, hs⟩ : ∃ s, tkN (3 + T) (ps, is) = s := ⟨_, rfl⟩
        rw [hs] at X BX e0 e1 hnd
        dsimp only at X BX e0 e1 hnd
        subst e0
        have hs2 : (s2.length : Int) = (ps.length : Int) + (is.length : Int) := by simp at e1; omega
        have hlt' : ¬ ((3 + T : Nat) : Int) < 3 + (T : Int) := by omega
        obtain ⟨lo, hi, V, h1, -⟩ := X.out.out
        have hwx : w.heap.size ≤ wr.heap.size := hbel.out.size
        obtain ⟨l0, l4, l5⟩ := hlens.out
        have HI := toHid (sameT_same V.ts NX.out.ts)
        have HM := toHid (fun (W : World) (hb : Below wr.heap.size wr W) => rNodeMay_is (V.below hb h1) (Nat.le_trans h1 hb.size) (by simp) (by omega) (by omega) (by omega) hnd)
        obtain ⟨b1, b2, b3⟩ := id BX.out
        obtain ⟨d1, d2, d3⟩ := id BV.out
        clear hO hZ hG hF hs X e1 V NX hnd l4 l5 hlens
        go_wp2_with (first
          | (go_at_call 16; refine HI.out.mono ?_; rintro e w7 ⟨rfl, h7⟩
             obtain ⟨b1', b2', b3'⟩ := BX.out.below h7)
          | (go_at_call 18; refine (HM.out _ h7).mono ?_; rintro e w8 ⟨rfl, h8⟩))
        go_ret
        exact ⟨rfl, (hbel.out.on h7).on h8⟩

/-! ### The row's step -/
set_option maxRecDepth 100000 in
theorem lifted (os : Os) (started : os.Started) (H : Type) (enc : TypeId × Value → H) :
    ReturnsInHanded {} Try.checked os 5 .any (Rows.tickAloneSpec.pre6 enc Try.prog Try.f5 Rows.tickAloneRow.domain false) (Rows.tickAloneSpec.post enc Try.prog Try.f5 false true false false) := by
  refine returnsInHanded_of_change_sized (C := Try.checked) ownK started (by kernel_rfl) Try.func5
    (ChangeSpec.witness6 (enc := enc) (C := Try.checked) false ⟨#[], #[.agg #[.bool false, .int .i64 0, .slice none 0 0, .slice none 0 0, .slice none 0 0, .slice none 0 0], .int .i64 0], []⟩ 8 (by kernel_rfl) (by kernel_rfl) (by kernel_rfl) (by kernel_rfl)) ?_
  intro W base args ds gs before hval0 hW hcnd hsz0 _
  have hsz : (DataW.weightsEach Try.prog (Try.f5.params.toList ++ Rows.tickAloneSpec.plain.varTypes Try.prog) (ds ++ gs)).all (· ≤ reachBytes) = true := hsz0
  have hval : ∀ (j : Nat) t v, Try.f5.params[j]? = some t → args[j]? = some v → Value.okWide Try.prog W .any base t v := hval0
  have hW' := hW
  obtain ⟨p, q, hA0, hV, rfl, hfz, hnd⟩ := hW
  have hA : DataW.TrodAll enc Try.prog W 0 (fun _ => true) true Try.f5.params.toList args.toList ds p := hA0
  rw [Try.params5] at hA hval hsz
  obtain ⟨v0, vs0, d0, ds0, p0, q0, hargs, rfl, rfl, h0, r0⟩ := trodAll_cons hA
  obtain ⟨v1, vs1, d1, ds1, p1, q1, rfl, rfl, rfl, h1, r1⟩ := trodAll_cons r0
  obtain ⟨rfl, rfl, rfl⟩ := trodAll_nil r1
  obtain rfl : args = #[v0, v1] := by cases args; simp_all
  obtain ⟨rfl, rfl⟩ := trodVars_none hV
  clear r0 r1
  have k0 := h0
  have lt0 : ∀ x ∈ p0, x.block < W.heap.size := by obtain ⟨m, hm⟩ := k0; exact DataW.trod_lt m _ _ _ hm
  have z0 : ∀ n ∈ d0.weights Try.prog 30, n ≤ reachBytes := fun n hn => by simpa using List.all_eq_true.1 hsz _ (DataW.weights_mem_each (j := 0) rfl rfl n hn)
  have f0 : W.noneFrozen p0 := fun b off hm => hfz b off (by simp [hm])
  have k1 := h1
  have lt1 : ∀ x ∈ p1, x.block < W.heap.size := by obtain ⟨m, hm⟩ := k1; exact DataW.trod_lt m _ _ _ hm
  obtain ⟨x0, r0, h0, s0, t0, u0, y0, w0, i0, j0, m0, n0⟩ := open_node (hval 0 30 v0 rfl rfl) h0 f0 z0
  obtain ⟨a1, rfl, rfl, rfl, w1⟩ := open_int Try.underlying3 (hval 1 3 v1 rfl rfl) h1
  clear hA0 hval0
  refine (walk v0 x0 a1 W r0 h0 s0 t0 u0 y0 w0 i0 j0 m0 n0 w1).mono fun e W' ⟨he, bel⟩ => ?_
  subst he
  exact ⟨_, rfl, _, _, _, [], _, [], hW', trodAll_mk1 (shut_bool Try.underlying4 _), (trodAll_cons_mk (Below.trod laidOut (by kernel_rfl) (of_decide_eq_true (by kernel_rfl)) k0 bel lt0) (trodAll_cons_mk (Below.trod laidOut (by kernel_rfl) (of_decide_eq_true (by kernel_rfl)) k1 bel lt1) trodAll_mk0)), rfl, bel.frame _, fun h => by cases h⟩

theorem over : Rows.tickAloneRow.holds Try.pinned (OpenSpec.ofChange Rows.tickAloneSpec) :=
  OpenClaim.holds_of_wide 5 Try.f5 rfl rfl rfl rfl rfl rfl rfl ⟨rfl, rfl, rfl, rfl, rfl⟩ rfl rfl rfl rfl rfl (by kernel_rfl) Try.func5 (by kernel_rfl)
    (of_decide_eq_true (by kernel_rfl)) (by unfold Func.isWrapper; first | (rw [if_pos (by decide +kernel)]; kernel_rfl) | (rw [if_neg (by decide +kernel)]; exact ⟨rfl, rfl⟩))
    (fun os started H enc _ => lifted os started H enc)

end Go.Proofs.Ytghamcomjfholaa.tickAlone

namespace Go.Proofs.Ytghamcomjfholaa
/-- The statement, by its short name. -/
theorem tickAlone_holds : Rows.TickAloneSaid := tickAlone.over
#print axioms tickAlone_holds
end Go.Proofs.Ytghamcomjfholaa
