
/-
  The document's own answers on writing: an item of a key is written or dropped.
-/
import Derived.Test.YtgakfbdaiogflaaNodeDo
import Derived.Test.YtgakfbdaiogflaaStorePut
namespace Go.Proofs.Ytgakfbdaiogflaa
open Go.ChangeShapes Go.WideShapes Go.ChangeAt Go.RowKit

/-- A value that reads as a node, its lists' cells in blocks from lo on and below hi. -/
structure NdV (lo hi : Nat) (w : World) (v : Value) (x : Nd) : Prop where
  out : ∃ p q r s, v = .agg #[.bool x.up, .int .i64 x.i, p, q, r, s] ∧ NdAt lo hi w p q r s x.ps x.is x.ts x.ls
def zeroN : Nd := ⟨false, 0, [], [], [], []⟩
theorem NdV.zero {lo hi : Nat} {w : World} : NdV lo hi w (.agg #[.bool false, .int .i64 0, .slice none 0 0, .slice none 0 0, .slice none 0 0, .slice none 0 0]) zeroN := ⟨_, _, _, _, rfl, NdAt.nil0⟩

/-- How new the next one is. -/
def wrC (ts : List It) (k : Int) : Int := (getI ts k).c + 1
def wrIt (i : Int) (ts : List It) (k x : Int) (g : Bool) : It := ⟨k, wrC ts k, i, x, g⟩
def wrOk (n : Nd) (k x : Int) : Bool := (n.up && ndB n) && (plB k && plB x)
def wrE (n : Nd) (k x : Int) (g : Bool) : Int := if wrOk n k x = true then (if 65535 < wrC n.ts k then 1701 else if putE n.ts (wrIt n.i n.ts k x g) = 0 then 0 else 1701) else 1700
def wrN (n : Nd) (k x : Int) (g : Bool) : Nd := if wrE n k x g = 0 then ⟨n.up, n.i, n.ps, n.is, putL n.ts (wrIt n.i n.ts k x g), n.ls⟩ else zeroN

theorem getI_cnt {ts : List It} (k : Int) (h : stB ts = true) : 0 ≤ (getI ts k).c ∧ (getI ts k).c ≤ 65535 := by
  have e : getI ts k = (look ts k).getD zeroI := by simp [getI, h]
  rw [e]
  cases hl : look ts k with
  | none => exact ⟨Int.le_refl _, by decide⟩
  | some a =>
    have := itB_bd (look_val (stB_iff.1 h).1 hl).1
    exact ⟨by show 0 ≤ a.c; omega, this.2.1⟩
theorem nd_st {n : Nd} (hu : n.up = true) (h : ndB n = true) : stB n.ts = true := by
  rw [ndB, if_pos hu] at h
  simp only [Bool.and_eq_true] at h
  exact h.2.2.1

section
variable {lo hi : Nat} {w : World} {p q r s : Value} {ps : List Pe} {is : List Int} {ts : List It} {ls : List Te}

set_option maxHeartbeats 4000000 in
theorem rWrote_up (i : Int) (h : NdAt lo hi w p q r s ps is ts ls) (hh : hi ≤ w.heap.size)
    (h1 : ps.length * 16 ≤ 140737488351232) (h2 : is.length * 8 ≤ 140737488351232) (h3 : ts.length * 40 ≤ 140737488351232) (h4 : ls.length * 24 ≤ 140737488351232) (k cc uu x : Int) (y : Bool)
    (hok : ndB ⟨true, i, ps, is, ts, ls⟩ = true) (hk : plB k = true) (hx : plB x = true) :
    Calls Try.prog 27 #[.agg #[.bool true, .int .i64 i, p, q, r, s], .agg #[.int .i64 k, .int .i64 cc, .int .i64 uu, .int .i64 x, .bool y]] w fun e w' => ∃ v, e = .returned (.tuple #[v, .int .i64 (wrE ⟨true, i, ps, is, ts, ls⟩ k x y)]) ∧
      NdV w.heap.size w'.heap.size w' v (wrN ⟨true, i, ps, is, ts, ls⟩ k x y) ∧ Below w.heap.size w w' := by
  have hcb := getI_cnt k (nd_st (n := ⟨true, i, ps, is, ts, ls⟩) rfl hok)
  have hE : Hid (wrE ⟨true, i, ps, is, ts, ls⟩ k x y = if 65535 < wrC ts k then 1701 else if putE ts (wrIt i ts k x y) = 0 then 0 else 1701) := toHid (by simp [wrE, wrOk, hok, hk, hx])
  have hN : Hid (wrN ⟨true, i, ps, is, ts, ls⟩ k x y = if wrE ⟨true, i, ps, is, ts, ls⟩ k x y = 0 then ⟨true, i, ps, is, putL ts (wrIt i ts k x y), ls⟩ else zeroN) := toHid rfl
  generalize wrE ⟨true, i, ps, is, ts, ls⟩ k x y = E at *
  generalize wrN ⟨true, i, ps, is, ts, ls⟩ k x y = XN at *
  have HU := toHid (fun (W : World) (hb : Below w.heap.size w W) => rUpMay_any true i (h.below hb hh) (Nat.le_trans hh hb.size) h1)
  rw [hok] at HU
  have HG := toHid (fun (W : World) (hb : Below w.heap.size w W) => rGet_any (h.below hb hh).ts (Nat.le_trans hh hb.size) k)
  have HP := toHid (fun (W : World) (hb : Below w.heap.size w W) => rPut_any (h.below hb hh).ts (Nat.le_trans hh hb.size) k (wrC ts k) i x y)
  have HC := toHid (fun (W : World) (hb : Below w.heap.size w W) => rCopyNode_any true i (h.below hb hh) (Nat.le_trans hh hb.size) (by omega) (by omega) (by omega) (by omega))
  obtain ⟨a, c, a', c', a2, c2, a3, c3, rfl, rfl, rfl, rfl⟩ := h.shape
  have BX := toHid (((Box.new w #[.bool true, .int .i64 i, .slice a ps.length c, .slice a' is.length c', .slice a2 ts.length c2, .slice a3 ls.length c3] 29).alloc (.cells #[.int .i64 k, .int .i64 cc, .int .i64 uu, .int .i64 x, .bool y] 47)).alloc (.cells #[.bool false, .int .i64 0, .slice none 0 0, .slice none 0 0, .slice none 0 0, .slice none 0 0] 29))
  have BI := toHid ((Box.new1 w (.cells #[.bool true, .int .i64 i, .slice a ps.length c, .slice a' is.length c', .slice a2 ts.length c2, .slice a3 ls.length c3] 29) #[.int .i64 k, .int .i64 cc, .int .i64 uu, .int .i64 x, .bool y] 47).alloc (.cells #[.bool false, .int .i64 0, .slice none 0 0, .slice none 0 0, .slice none 0 0, .slice none 0 0] 29))
  have BZ := toHid (Box.new2 w (.cells #[.bool true, .int .i64 i, .slice a ps.length c, .slice a' is.length c', .slice a2 ts.length c2, .slice a3 ls.length c3] 29) (.cells #[.int .i64 k, .int .i64 cc, .int .i64 uu, .int .i64 x, .bool y] 47) #[.bool false, .int .i64 0, .slice none 0 0, .slice none 0 0, .slice none 0 0, .slice none 0 0] 29)
  have hb0 := toHid ((((Below.refl _ w).onA (.cells #[.bool true, .int .i64 i, .slice a ps.length c, .slice a' is.length c', .slice a2 ts.length c2, .slice a3 ls.length c3] 29)).onA (.cells #[.int .i64 k, .int .i64 cc, .int .i64 uu, .int .i64 x, .bool y] 47)).onA (.cells #[.bool false, .int .i64 0, .slice none 0 0, .slice none 0 0, .slice none 0 0, .slice none 0 0] 29))
  have hW0 : w.heap.size + 1 + 1 < (((w.alloc (.cells #[.bool true, .int .i64 i, .slice a ps.length c, .slice a' is.length c', .slice a2 ts.length c2, .slice a3 ls.length c3] 29)).alloc (.cells #[.int .i64 k, .int .i64 cc, .int .i64 uu, .int .i64 x, .bool y] 47)).alloc (.cells #[.bool false, .int .i64 0, .slice none 0 0, .slice none 0 0, .slice none 0 0, .slice none 0 0] 29)).heap.size := by simp
  clear h
  go_enter Try.func27, Try.ntmps27
  go_upto_region 1 with (fail)
  generalize (((w.alloc (.cells #[.bool true, .int .i64 i, .slice a ps.length c, .slice a' is.length c', .slice a2 ts.length c2, .slice a3 ls.length c3] 29)).alloc (.cells #[.int .i64 k, .int .i64 cc, .int .i64 uu, .int .i64 x, .bool y] 47)).alloc (.cells #[.bool false, .int .i64 0, .slice none 0 0, .slice none 0 0, .slice none 0 0, .slice none 0 0] 29)) = W0 at BX BI BZ hb0 hW0 ⊢
  obtain ⟨x1, x2, x3⟩ := BX.out
  have t1 := trivial
  have hk' : Hid (plB k = true) := toHid hk
  have hx' : Hid (plB x = true) := toHid hx
  clear hk hx hok
  go_upto_region 4 with (first
    | (go_at_call 44; refine (HU.out _ hb0.out).mono ?_; rintro e w1 ⟨rfl, g1⟩
       have hk1 := toHid (hb0.out.on g1)
       have BX1 := toHid (BX.out.below g1)
       have BI1 := toHid (BI.out.below g1)
       have BZ1 := toHid (BZ.out.below g1)
       clear x1 x2 x3 g1 BX BI BZ hb0
       obtain ⟨x1, x2, x3⟩ := BX1.out
       obtain ⟨i1, i2, i3⟩ := BI1.out)
    | (go_at_call 32; clear t1; refine (hk'.out ▸ rByte16_any k _).mono ?_; rintro e w' ⟨rfl, hw'⟩; subst w')
    | (go_at_call 32; refine (hx'.out ▸ rByte16_any x _).mono ?_; rintro e w' ⟨rfl, hw'⟩; subst w')
    | (go_at_call 21; refine (HG.out _ hk1.out).mono ?_; rintro e w2 ⟨rfl, g2⟩
       have hk2 := toHid (hk1.out.on g2)
       have BX2 := toHid (BX1.out.below g2)
       have BI2 := toHid (BI1.out.below g2)
       have BZ2 := toHid (BZ1.out.below g2)
       clear x1 x2 x3 i1 i2 i3 g2 BX1 BI1 BZ1 hk1
       obtain ⟨x1, x2, x3⟩ := BX2.out
       obtain ⟨i1, i2, i3⟩ := BI2.out
       obtain ⟨z1, z2, z3⟩ := BZ2.out))
  obtain ⟨m, hm⟩ : ∃ m, (getI ts k).c = m := ⟨_, rfl⟩
  rw [hm] at hcb ⊢
  replace hE : Hid (E = if 65535 < m + 1 then 1701 else if putE ts ⟨k, m + 1, i, x, y⟩ = 0 then 0 else 1701) := toHid (by rw [hE.out, wrIt, wrC, hm])
  replace hN : Hid (XN = if E = 0 then ⟨true, i, ps, is, putL ts ⟨k, m + 1, i, x, y⟩, ls⟩ else zeroN) := toHid (by rw [hN.out, wrIt, wrC, hm])
  replace HP := toHid (fun (W : World) (hb : Below w.heap.size w W) => (by have := HP.out W hb; rw [wrC, hm] at this; exact this : Calls Try.prog 45 #[.slice a2 ts.length c2, .agg #[.int .i64 k, .int .i64 (m + 1), .int .i64 i, .int .i64 x, .bool y]] W fun e w' => ∃ o, e = .returned (.tuple #[o, .int .i64 (putE ts ⟨k, m + 1, i, x, y⟩)]) ∧ RowT W.heap.size w'.heap.size w' o (putL ts ⟨k, m + 1, i, x, y⟩) ∧ Below W.heap.size W w'))
  clear hm
  obtain ⟨m0, m1⟩ := hcb
  go_upto_region 5 with (fail)
  have BX3 := (((BX2.out.setO (w.heap.size + 1) 1 (.int .i64 (m + 1)) (by omega)).setO (w.heap.size + 1) 2 (.int .i64 i) (by omega)).alloc (.cells #[.int .i64 (getI ts k).k, .int .i64 m, .int .i64 (getI ts k).u, .int .i64 (getI ts k).x, .bool (getI ts k).g] 47))
  have BI3 := (((BI2.out.setS (ys := #[.int .i64 k, .int .i64 (m + 1), .int .i64 uu, .int .i64 x, .bool y]) 1 (.int .i64 (m + 1)) (by simp) (by simp)).setS (ys := #[.int .i64 k, .int .i64 (m + 1), .int .i64 i, .int .i64 x, .bool y]) 2 (.int .i64 i) (by simp) (by simp)).alloc (.cells #[.int .i64 (getI ts k).k, .int .i64 m, .int .i64 (getI ts k).u, .int .i64 (getI ts k).x, .bool (getI ts k).g] 47))
  have BZ3 := (((BZ2.out.setO (w.heap.size + 1) 1 (.int .i64 (m + 1)) (by omega)).setO (w.heap.size + 1) 2 (.int .i64 i) (by omega)).alloc (.cells #[.int .i64 (getI ts k).k, .int .i64 m, .int .i64 (getI ts k).u, .int .i64 (getI ts k).x, .bool (getI ts k).g] 47))
  have hk3 := ((hk2.out.setCell (p := ⟨w.heap.size + 1, 1, none⟩) (by show w.heap.size ≤ w.heap.size + 1; omega) (.int .i64 (m + 1))).setCell (p := ⟨w.heap.size + 1, 2, none⟩) (by show w.heap.size ≤ w.heap.size + 1; omega) (.int .i64 i)).onA (.cells #[.int .i64 (getI ts k).k, .int .i64 m, .int .i64 (getI ts k).u, .int .i64 (getI ts k).x, .bool (getI ts k).g] 47)
  clear x1 x2 x3 i1 i2 i3 z1 z2 z3 BX2 BI2 BZ2 hk2
  generalize (((w2.setCell ⟨w.heap.size + 1, 1, none⟩ (.int .i64 (m + 1))).setCell ⟨w.heap.size + 1, 2, none⟩ (.int .i64 i)).alloc (.cells #[.int .i64 (getI ts k).k, .int .i64 m, .int .i64 (getI ts k).u, .int .i64 (getI ts k).x, .bool (getI ts k).g] 47)) = W3 at BX3 BI3 BZ3 hk3 ⊢
  replace BX3 := toHid BX3
  replace BI3 := toHid BI3
  replace BZ3 := toHid BZ3
  replace hk3 := toHid hk3
  obtain ⟨x1, x2, x3⟩ := BX3.out
  obtain ⟨i1, i2, i3⟩ := BI3.out
  obtain ⟨z1, z2, z3⟩ := BZ3.out
  by_cases hm : 65535 < m + 1
  · obtain rfl : E = 1701 := by rw [hE.out, if_pos hm]
    obtain rfl : XN = zeroN := by rw [hN.out]; rfl
    have hm1 : 65535 < m + 1 := hm
    have hm2 : decide (65535 < m + 1) = true := decide_eq_true hm
    go_wp2
    have S5 := (((((((Only.refl (w.heap.size + 1 + 1) (w.heap.size + 1 + 1 + 1) W3).setCell (b := w.heap.size + 1 + 1) (o := 0) (by omega) (by omega) (.bool false)).setCell (b := w.heap.size + 1 + 1) (o := 1) (by omega) (by omega) (.int .i64 0)).setCell (b := w.heap.size + 1 + 1) (o := 2) (by omega) (by omega) (.slice none 0 0)).setCell (b := w.heap.size + 1 + 1) (o := 3) (by omega) (by omega) (.slice none 0 0)).setCell (b := w.heap.size + 1 + 1) (o := 4) (by omega) (by omega) (.slice none 0 0)).setCell (b := w.heap.size + 1 + 1) (o := 5) (by omega) (by omega) (.slice none 0 0))
    refine bodyPost_ret (v := .tuple #[.agg #[.bool false, .int .i64 0, .slice none 0 0, .slice none 0 0, .slice none 0 0, .slice none 0 0], .int .i64 1701]) (by simp [results, Try.results27, go_sem, z2]) rfl ?_
    exact ⟨_, rfl, NdV.zero, hk3.out.trans (S5.below.mono (by omega))⟩
  · have hm1 : ¬ 65535 < m + 1 := hm
    have hm2 : decide (65535 < m + 1) = false := decide_eq_false hm
    obtain ⟨q4, hq⟩ : ∃ q4, putE ts ⟨k, m + 1, i, x, y⟩ = q4 := ⟨_, rfl⟩
    replace HP := toHid (HP.out _ hk3.out)
    rw [hq] at HP
    replace hE : Hid (E = if q4 = 0 then 0 else 1701) := toHid (by rw [hE.out, if_neg hm, hq])
    clear hq
    generalize putL ts ⟨k, m + 1, i, x, y⟩ = L at *
    by_cases h0 : q4 = 0
    · obtain rfl : E = 0 := by rw [hE.out, if_pos h0]
      obtain rfl : XN = ⟨true, i, ps, is, L, ls⟩ := by rw [hN.out]; rfl
      subst h0
      go_wp2_with (first
        | (go_at_call 45; refine HP.out.mono ?_; rintro e w4 ⟨o, rfl, T4, g4⟩
           obtain ⟨po, co, rfl, -⟩ := id T4.out
           have hk4 := toHid (hk3.out.on g4)
           have BX4 := toHid (BX3.out.below g4)
           have BZ4 := toHid (BZ3.out.below g4)
           clear x1 x2 x3 i1 i2 i3 z1 z2 z3
           obtain ⟨x1, x2, x3⟩ := BX4.out)
        | (go_at_call 46; refine (HC.out _ hk4.out).mono ?_; rintro e w5 ⟨p5, q5, r5, s5, rfl, N5, g5⟩
           obtain ⟨b1, d1, b2, d2, b3, d3, b4, d4, rfl, rfl, rfl, rfl⟩ := id N5.shape
           have T5 := T4.below g5 (Nat.le_refl _)
           have hk5 := toHid (hk4.out.on g5)
           have BZ5 := toHid (BZ4.out.below g5)
           have z4 := hk4.out.size
           have z5 := g5.size
           clear x1 x2 x3
           obtain ⟨z1, z2, z3⟩ := BZ5.out))
      have zz := BZ3.out.1
      have zw := g4.size
      have S5 := (((((((Only.refl (w.heap.size + 1 + 1) (w.heap.size + 1 + 1 + 1) w5).setCell (b := w.heap.size + 1 + 1) (o := 0) (by omega) (by omega) (.bool true)).setCell (b := w.heap.size + 1 + 1) (o := 1) (by omega) (by omega) (.int .i64 i)).setCell (b := w.heap.size + 1 + 1) (o := 2) (by omega) (by omega) (.slice b1 ps.length d1)).setCell (b := w.heap.size + 1 + 1) (o := 3) (by omega) (by omega) (.slice b2 is.length d2)).setCell (b := w.heap.size + 1 + 1) (o := 4) (by omega) (by omega) (.slice po L.length co)).setCell (b := w.heap.size + 1 + 1) (o := 5) (by omega) (by omega) (.slice b4 ls.length d4))
      have e5 := fun k => S5.cellA (.cells #[.bool true, .int .i64 i, .slice b1 ps.length d1, .slice b2 is.length d2, .slice po L.length co, .slice b4 ls.length d4] 29) k (b := w.heap.size + 1 + 1) (by omega)
      have hz5 := S5.size
      refine bodyPost_ret (v := .tuple #[.agg #[.bool true, .int .i64 i, .slice b1 ps.length d1, .slice b2 is.length d2, .slice po L.length co, .slice b4 ls.length d4], .int .i64 0]) (by simp [results, Try.results27, go_sem, z2, e5]) rfl ?_
      exact ⟨_, rfl, ⟨_, _, _, _, rfl, NdAt.wide (lo := w.heap.size) (hi := w5.heap.size) ⟨⟨((N5.vw.ps.only S5 (.inr (by omega))).alloc _ PeV_len).wide (by omega) (by omega), ((N5.vw.is.only S5 (.inr (by omega))).alloc _).wide (by omega) (by omega)⟩, ((T5.only S5 (.inr (by omega))).alloc _ ItV_len).wide (by omega) (by omega), ((N5.ls.only S5 (.inr (by omega))).alloc _ TeV_len).wide (by omega) (by omega)⟩ (Nat.le_refl _) (by simp)⟩, (hk5.out.trans (S5.below.mono (by omega))).onA _⟩
    · obtain rfl : E = 1701 := by rw [hE.out, if_neg h0]
      obtain rfl : XN = zeroN := by rw [hN.out]; rfl
      have h02 : (q4 == 0) = false := by simpa using h0
      go_wp2_with (first
        | (go_at_call 45; refine HP.out.mono ?_; rintro e w4 ⟨o, rfl, T4, g4⟩
           obtain ⟨po, co, rfl, -⟩ := id T4.out
           have hk4 := toHid (hk3.out.on g4)
           have BZ4 := toHid (BZ3.out.below g4)
           clear x1 x2 x3 i1 i2 i3 z1 z2 z3 T4
           obtain ⟨z1, z2, z3⟩ := BZ4.out))
      have S5 := (((((((Only.refl (w.heap.size + 1 + 1) (w.heap.size + 1 + 1 + 1) w4).setCell (b := w.heap.size + 1 + 1) (o := 0) (by omega) (by omega) (.bool false)).setCell (b := w.heap.size + 1 + 1) (o := 1) (by omega) (by omega) (.int .i64 0)).setCell (b := w.heap.size + 1 + 1) (o := 2) (by omega) (by omega) (.slice none 0 0)).setCell (b := w.heap.size + 1 + 1) (o := 3) (by omega) (by omega) (.slice none 0 0)).setCell (b := w.heap.size + 1 + 1) (o := 4) (by omega) (by omega) (.slice none 0 0)).setCell (b := w.heap.size + 1 + 1) (o := 5) (by omega) (by omega) (.slice none 0 0))
      refine bodyPost_ret (v := .tuple #[.agg #[.bool false, .int .i64 0, .slice none 0 0, .slice none 0 0, .slice none 0 0, .slice none 0 0], .int .i64 1701]) (by simp [results, Try.results27, go_sem, z2]) rfl ?_
      exact ⟨_, rfl, NdV.zero, hk4.out.trans (S5.below.mono (by omega))⟩

set_option maxHeartbeats 4000000 in
theorem rWrote_no (up : Bool) (i : Int) (h : NdAt lo hi w p q r s ps is ts ls) (hh : hi ≤ w.heap.size)
    (h1 : ps.length * 16 ≤ 140737488351232) (k cc uu x : Int) (y : Bool) (hno : wrOk ⟨up, i, ps, is, ts, ls⟩ k x = false) :
    Calls Try.prog 27 #[.agg #[.bool up, .int .i64 i, p, q, r, s], .agg #[.int .i64 k, .int .i64 cc, .int .i64 uu, .int .i64 x, .bool y]] w fun e w' => ∃ v, e = .returned (.tuple #[v, .int .i64 1700]) ∧
      NdV w.heap.size w'.heap.size w' v zeroN ∧ Below w.heap.size w w' := by
  have HU := toHid (fun (W : World) (hb : Below w.heap.size w W) => rUpMay_any up i (h.below hb hh) (Nat.le_trans hh hb.size) h1)
  unfold wrOk at hno
  dsimp only at hno
  generalize (up && ndB ⟨up, i, ps, is, ts, ls⟩) = b at HU hno
  obtain ⟨a, c, a', c', a2, c2, a3, c3, rfl, rfl, rfl, rfl⟩ := h.shape
  have BI := toHid ((Box.new1 w (.cells #[.bool up, .int .i64 i, .slice a ps.length c, .slice a' is.length c', .slice a2 ts.length c2, .slice a3 ls.length c3] 29) #[.int .i64 k, .int .i64 cc, .int .i64 uu, .int .i64 x, .bool y] 47).alloc (.cells #[.bool false, .int .i64 0, .slice none 0 0, .slice none 0 0, .slice none 0 0, .slice none 0 0] 29))
  have BZ := toHid (Box.new2 w (.cells #[.bool up, .int .i64 i, .slice a ps.length c, .slice a' is.length c', .slice a2 ts.length c2, .slice a3 ls.length c3] 29) (.cells #[.int .i64 k, .int .i64 cc, .int .i64 uu, .int .i64 x, .bool y] 47) #[.bool false, .int .i64 0, .slice none 0 0, .slice none 0 0, .slice none 0 0, .slice none 0 0] 29)
  have hb0 := toHid ((((Below.refl _ w).onA (.cells #[.bool up, .int .i64 i, .slice a ps.length c, .slice a' is.length c', .slice a2 ts.length c2, .slice a3 ls.length c3] 29)).onA (.cells #[.int .i64 k, .int .i64 cc, .int .i64 uu, .int .i64 x, .bool y] 47)).onA (.cells #[.bool false, .int .i64 0, .slice none 0 0, .slice none 0 0, .slice none 0 0, .slice none 0 0] 29))
  have BX := toHid (((Box.new w #[.bool up, .int .i64 i, .slice a ps.length c, .slice a' is.length c', .slice a2 ts.length c2, .slice a3 ls.length c3] 29).alloc (.cells #[.int .i64 k, .int .i64 cc, .int .i64 uu, .int .i64 x, .bool y] 47)).alloc (.cells #[.bool false, .int .i64 0, .slice none 0 0, .slice none 0 0, .slice none 0 0, .slice none 0 0] 29))
  clear h
  go_enter Try.func27, Try.ntmps27
  go_upto_region 1 with (fail)
  generalize (((w.alloc (.cells #[.bool up, .int .i64 i, .slice a ps.length c, .slice a' is.length c', .slice a2 ts.length c2, .slice a3 ls.length c3] 29)).alloc (.cells #[.int .i64 k, .int .i64 cc, .int .i64 uu, .int .i64 x, .bool y] 47)).alloc (.cells #[.bool false, .int .i64 0, .slice none 0 0, .slice none 0 0, .slice none 0 0, .slice none 0 0] 29)) = W0 at BX BI BZ hb0 ⊢
  obtain ⟨x1, x2, x3⟩ := BX.out
  cases b with
  | false =>
    clear hno
    go_wp2_with (go_at_call 44; refine (HU.out _ hb0.out).mono ?_; rintro e w1 ⟨rfl, g1⟩
                 have hk1 := toHid (hb0.out.on g1)
                 have BZ1 := toHid (BZ.out.below g1)
                 clear x1 x2 x3 g1
                 obtain ⟨z1, z2, z3⟩ := BZ1.out)
    have S5 := (((((((Only.refl (w.heap.size + 1 + 1) (w.heap.size + 1 + 1 + 1) w1).setCell (b := w.heap.size + 1 + 1) (o := 0) (by omega) (by omega) (.bool false)).setCell (b := w.heap.size + 1 + 1) (o := 1) (by omega) (by omega) (.int .i64 0)).setCell (b := w.heap.size + 1 + 1) (o := 2) (by omega) (by omega) (.slice none 0 0)).setCell (b := w.heap.size + 1 + 1) (o := 3) (by omega) (by omega) (.slice none 0 0)).setCell (b := w.heap.size + 1 + 1) (o := 4) (by omega) (by omega) (.slice none 0 0)).setCell (b := w.heap.size + 1 + 1) (o := 5) (by omega) (by omega) (.slice none 0 0))
    refine bodyPost_ret (v := .tuple #[.agg #[.bool false, .int .i64 0, .slice none 0 0, .slice none 0 0, .slice none 0 0, .slice none 0 0], .int .i64 1700]) (by simp [results, Try.results27, go_sem, z2]) rfl ?_
    exact ⟨_, rfl, NdV.zero, hk1.out.trans (S5.below.mono (by omega))⟩
  | true =>
    have t1 := trivial
    cases hk : plB k with
    | false =>
      clear hno
      go_wp2_with (first
        | (go_at_call 44; refine (HU.out _ hb0.out).mono ?_; rintro e w1 ⟨rfl, g1⟩
           have hk1 := toHid (hb0.out.on g1)
           have BI1 := toHid (BI.out.below g1)
           have BZ1 := toHid (BZ.out.below g1)
           clear x1 x2 x3 g1
           obtain ⟨i1, i2, i3⟩ := BI1.out
           obtain ⟨z1, z2, z3⟩ := BZ1.out)
        | (go_at_call 32; refine (hk ▸ rByte16_any k _).mono ?_; rintro e w' ⟨rfl, hw'⟩; subst w'))
      have S5 := (((((((Only.refl (w.heap.size + 1 + 1) (w.heap.size + 1 + 1 + 1) w1).setCell (b := w.heap.size + 1 + 1) (o := 0) (by omega) (by omega) (.bool false)).setCell (b := w.heap.size + 1 + 1) (o := 1) (by omega) (by omega) (.int .i64 0)).setCell (b := w.heap.size + 1 + 1) (o := 2) (by omega) (by omega) (.slice none 0 0)).setCell (b := w.heap.size + 1 + 1) (o := 3) (by omega) (by omega) (.slice none 0 0)).setCell (b := w.heap.size + 1 + 1) (o := 4) (by omega) (by omega) (.slice none 0 0)).setCell (b := w.heap.size + 1 + 1) (o := 5) (by omega) (by omega) (.slice none 0 0))
      refine bodyPost_ret (v := .tuple #[.agg #[.bool false, .int .i64 0, .slice none 0 0, .slice none 0 0, .slice none 0 0, .slice none 0 0], .int .i64 1700]) (by simp [results, Try.results27, go_sem, z2]) rfl ?_
      exact ⟨_, rfl, NdV.zero, hk1.out.trans (S5.below.mono (by omega))⟩
    | true =>
      have hx : plB x = false := by simpa [hk] using hno
      clear hno
      go_wp2_with (first
        | (go_at_call 44; refine (HU.out _ hb0.out).mono ?_; rintro e w1 ⟨rfl, g1⟩
           have hk1 := toHid (hb0.out.on g1)
           have BI1 := toHid (BI.out.below g1)
           have BZ1 := toHid (BZ.out.below g1)
           clear x1 x2 x3 g1
           obtain ⟨i1, i2, i3⟩ := BI1.out
           obtain ⟨z1, z2, z3⟩ := BZ1.out)
        | (go_at_call 32; clear t1; refine (hk ▸ rByte16_any k _).mono ?_; rintro e w' ⟨rfl, hw'⟩; subst w')
        | (go_at_call 32; refine (hx ▸ rByte16_any x _).mono ?_; rintro e w' ⟨rfl, hw'⟩; subst w'))
      have S5 := (((((((Only.refl (w.heap.size + 1 + 1) (w.heap.size + 1 + 1 + 1) w1).setCell (b := w.heap.size + 1 + 1) (o := 0) (by omega) (by omega) (.bool false)).setCell (b := w.heap.size + 1 + 1) (o := 1) (by omega) (by omega) (.int .i64 0)).setCell (b := w.heap.size + 1 + 1) (o := 2) (by omega) (by omega) (.slice none 0 0)).setCell (b := w.heap.size + 1 + 1) (o := 3) (by omega) (by omega) (.slice none 0 0)).setCell (b := w.heap.size + 1 + 1) (o := 4) (by omega) (by omega) (.slice none 0 0)).setCell (b := w.heap.size + 1 + 1) (o := 5) (by omega) (by omega) (.slice none 0 0))
      refine bodyPost_ret (v := .tuple #[.agg #[.bool false, .int .i64 0, .slice none 0 0, .slice none 0 0, .slice none 0 0, .slice none 0 0], .int .i64 1700]) (by simp [results, Try.results27, go_sem, z2]) rfl ?_
      exact ⟨_, rfl, NdV.zero, hk1.out.trans (S5.below.mono (by omega))⟩

theorem rWrote_any (up : Bool) (i : Int) (h : NdAt lo hi w p q r s ps is ts ls) (hh : hi ≤ w.heap.size)
    (h1 : ps.length * 16 ≤ 140737488351232) (h2 : is.length * 8 ≤ 140737488351232) (h3 : ts.length * 40 ≤ 140737488351232) (h4 : ls.length * 24 ≤ 140737488351232) (k cc uu x : Int) (y : Bool) :
    Calls Try.prog 27 #[.agg #[.bool up, .int .i64 i, p, q, r, s], .agg #[.int .i64 k, .int .i64 cc, .int .i64 uu, .int .i64 x, .bool y]] w fun e w' => ∃ v, e = .returned (.tuple #[v, .int .i64 (wrE ⟨up, i, ps, is, ts, ls⟩ k x y)]) ∧
      NdV w.heap.size w'.heap.size w' v (wrN ⟨up, i, ps, is, ts, ls⟩ k x y) ∧ Below w.heap.size w w' := by
  cases hw : wrOk ⟨up, i, ps, is, ts, ls⟩ k x with
  | false =>
    have e : wrE ⟨up, i, ps, is, ts, ls⟩ k x y = 1700 := by simp [wrE, hw]
    have e2 : wrN ⟨up, i, ps, is, ts, ls⟩ k x y = zeroN := by simp [wrN, e]
    rw [e, e2]
    exact rWrote_no up i h hh h1 k cc uu x y hw
  | true =>
    simp only [wrOk, Bool.and_eq_true] at hw
    obtain ⟨⟨rfl, hn⟩, hk, hx⟩ := hw
    exact rWrote_up i h hh h1 h2 h3 h4 k cc uu x y hn hk hx

set_option maxHeartbeats 1000000 in
theorem rNPut_any (up : Bool) (i : Int) (h : NdAt lo hi w p q r s ps is ts ls) (hh : hi ≤ w.heap.size)
    (h1 : ps.length * 16 ≤ 140737488351232) (h2 : is.length * 8 ≤ 140737488351232) (h3 : ts.length * 40 ≤ 140737488351232) (h4 : ls.length * 24 ≤ 140737488351232) (k x : Int) :
    Calls Try.prog 10 #[.agg #[.bool up, .int .i64 i, p, q, r, s], .int .i64 k, .int .i64 x] w fun e w' => ∃ v, e = .returned (.tuple #[v, .int .i64 (wrE ⟨up, i, ps, is, ts, ls⟩ k x false)]) ∧
      NdV w.heap.size w'.heap.size w' v (wrN ⟨up, i, ps, is, ts, ls⟩ k x false) ∧ Below w.heap.size w w' := by
  have HW := toHid (fun (W : World) (hb : Below w.heap.size w W) => rWrote_any up i (h.below hb hh) (Nat.le_trans hh hb.size) h1 h2 h3 h4 k 0 0 x false)
  generalize wrE ⟨up, i, ps, is, ts, ls⟩ k x false = E at *
  generalize wrN ⟨up, i, ps, is, ts, ls⟩ k x false = XN at *
  obtain ⟨a, c, a', c', a2, c2, a3, c3, rfl, rfl, rfl, rfl⟩ := h.shape
  have BZ := toHid (Box.new1 w (.cells #[.bool up, .int .i64 i, .slice a ps.length c, .slice a' is.length c', .slice a2 ts.length c2, .slice a3 ls.length c3] 29) #[.bool false, .int .i64 0, .slice none 0 0, .slice none 0 0, .slice none 0 0, .slice none 0 0] 29)
  have hb0 := toHid (((Below.refl _ w).onA (.cells #[.bool up, .int .i64 i, .slice a ps.length c, .slice a' is.length c', .slice a2 ts.length c2, .slice a3 ls.length c3] 29)).onA (.cells #[.bool false, .int .i64 0, .slice none 0 0, .slice none 0 0, .slice none 0 0, .slice none 0 0] 29))
  have BX := toHid ((Box.new w #[.bool up, .int .i64 i, .slice a ps.length c, .slice a' is.length c', .slice a2 ts.length c2, .slice a3 ls.length c3] 29).alloc (.cells #[.bool false, .int .i64 0, .slice none 0 0, .slice none 0 0, .slice none 0 0, .slice none 0 0] 29))
  have z0 : Hid (w.heap.size + 1 < ((w.alloc (.cells #[.bool up, .int .i64 i, .slice a ps.length c, .slice a' is.length c', .slice a2 ts.length c2, .slice a3 ls.length c3] 29)).alloc (.cells #[.bool false, .int .i64 0, .slice none 0 0, .slice none 0 0, .slice none 0 0, .slice none 0 0] 29)).heap.size) := toHid (by simp)
  clear h
  go_enter Try.func10, Try.ntmps10
  go_upto_region 1 with (fail)
  generalize ((w.alloc (.cells #[.bool up, .int .i64 i, .slice a ps.length c, .slice a' is.length c', .slice a2 ts.length c2, .slice a3 ls.length c3] 29)).alloc (.cells #[.bool false, .int .i64 0, .slice none 0 0, .slice none 0 0, .slice none 0 0, .slice none 0 0] 29)) = W0 at BX BZ hb0 z0 ⊢
  obtain ⟨x1, x2, x3⟩ := BX.out
  go_wp2_with (go_at_call 27; refine (HW.out _ hb0.out).mono ?_; rintro e w1 ⟨v1, rfl, N1, g1⟩
               obtain ⟨p1, q1, r1, s1, rfl, M1⟩ := N1.out
               obtain ⟨b1, d1, b2, d2, b3, d3, b4, d4, rfl, rfl, rfl, rfl⟩ := id M1.shape
               have hk1 := toHid (hb0.out.on g1)
               have BZ1 := toHid (BZ.out.below g1)
               clear x1 x2 x3 g1
               obtain ⟨z1, z2, z3⟩ := BZ1.out)
  have zz := z0.out
  have S5 := (((((((Only.refl (w.heap.size + 1) (w.heap.size + 1 + 1) w1).setCell (b := w.heap.size + 1) (o := 0) (by omega) (by omega) (.bool XN.up)).setCell (b := w.heap.size + 1) (o := 1) (by omega) (by omega) (.int .i64 XN.i)).setCell (b := w.heap.size + 1) (o := 2) (by omega) (by omega) (.slice b1 XN.ps.length d1)).setCell (b := w.heap.size + 1) (o := 3) (by omega) (by omega) (.slice b2 XN.is.length d2)).setCell (b := w.heap.size + 1) (o := 4) (by omega) (by omega) (.slice b3 XN.ts.length d3)).setCell (b := w.heap.size + 1) (o := 5) (by omega) (by omega) (.slice b4 XN.ls.length d4))
  have hz5 := S5.size
  refine bodyPost_ret (v := .tuple #[.agg #[.bool XN.up, .int .i64 XN.i, .slice b1 XN.ps.length d1, .slice b2 XN.is.length d2, .slice b3 XN.ts.length d3, .slice b4 XN.ls.length d4], .int .i64 E]) (by simp [results, Try.results10, go_sem, z2]) rfl ?_
  exact ⟨_, rfl, ⟨_, _, _, _, rfl, (M1.only S5 (.inr (by omega))).wide (by omega) (by omega)⟩, hk1.out.trans (S5.below.mono (by omega))⟩


set_option maxHeartbeats 1000000 in
theorem rNDrop_any (up : Bool) (i : Int) (h : NdAt lo hi w p q r s ps is ts ls) (hh : hi ≤ w.heap.size)
    (h1 : ps.length * 16 ≤ 140737488351232) (h2 : is.length * 8 ≤ 140737488351232) (h3 : ts.length * 40 ≤ 140737488351232) (h4 : ls.length * 24 ≤ 140737488351232) (k : Int) :
    Calls Try.prog 12 #[.agg #[.bool up, .int .i64 i, p, q, r, s], .int .i64 k] w fun e w' => ∃ v, e = .returned (.tuple #[v, .int .i64 (wrE ⟨up, i, ps, is, ts, ls⟩ k 0 true)]) ∧
      NdV w.heap.size w'.heap.size w' v (wrN ⟨up, i, ps, is, ts, ls⟩ k 0 true) ∧ Below w.heap.size w w' := by
  have HW := toHid (fun (W : World) (hb : Below w.heap.size w W) => rWrote_any up i (h.below hb hh) (Nat.le_trans hh hb.size) h1 h2 h3 h4 k 0 0 0 true)
  generalize wrE ⟨up, i, ps, is, ts, ls⟩ k 0 true = E at *
  generalize wrN ⟨up, i, ps, is, ts, ls⟩ k 0 true = XN at *
  obtain ⟨a, c, a', c', a2, c2, a3, c3, rfl, rfl, rfl, rfl⟩ := h.shape
  have BZ := toHid (Box.new1 w (.cells #[.bool up, .int .i64 i, .slice a ps.length c, .slice a' is.length c', .slice a2 ts.length c2, .slice a3 ls.length c3] 29) #[.bool false, .int .i64 0, .slice none 0 0, .slice none 0 0, .slice none 0 0, .slice none 0 0] 29)
  have hb0 := toHid (((Below.refl _ w).onA (.cells #[.bool up, .int .i64 i, .slice a ps.length c, .slice a' is.length c', .slice a2 ts.length c2, .slice a3 ls.length c3] 29)).onA (.cells #[.bool false, .int .i64 0, .slice none 0 0, .slice none 0 0, .slice none 0 0, .slice none 0 0] 29))
  have BX := toHid ((Box.new w #[.bool up, .int .i64 i, .slice a ps.length c, .slice a' is.length c', .slice a2 ts.length c2, .slice a3 ls.length c3] 29).alloc (.cells #[.bool false, .int .i64 0, .slice none 0 0, .slice none 0 0, .slice none 0 0, .slice none 0 0] 29))
  have z0 : Hid (w.heap.size + 1 < ((w.alloc (.cells #[.bool up, .int .i64 i, .slice a ps.length c, .slice a' is.length c', .slice a2 ts.length c2, .slice a3 ls.length c3] 29)).alloc (.cells #[.bool false, .int .i64 0, .slice none 0 0, .slice none 0 0, .slice none 0 0, .slice none 0 0] 29)).heap.size) := toHid (by simp)
  clear h
  go_enter Try.func12, Try.ntmps12
  go_upto_region 1 with (fail)
  generalize ((w.alloc (.cells #[.bool up, .int .i64 i, .slice a ps.length c, .slice a' is.length c', .slice a2 ts.length c2, .slice a3 ls.length c3] 29)).alloc (.cells #[.bool false, .int .i64 0, .slice none 0 0, .slice none 0 0, .slice none 0 0, .slice none 0 0] 29)) = W0 at BX BZ hb0 z0 ⊢
  obtain ⟨x1, x2, x3⟩ := BX.out
  go_wp2_with (go_at_call 27; refine (HW.out _ hb0.out).mono ?_; rintro e w1 ⟨v1, rfl, N1, g1⟩
               obtain ⟨p1, q1, r1, s1, rfl, M1⟩ := N1.out
               obtain ⟨b1, d1, b2, d2, b3, d3, b4, d4, rfl, rfl, rfl, rfl⟩ := id M1.shape
               have hk1 := toHid (hb0.out.on g1)
               have BZ1 := toHid (BZ.out.below g1)
               clear x1 x2 x3 g1
               obtain ⟨z1, z2, z3⟩ := BZ1.out)
  have zz := z0.out
  have S5 := (((((((Only.refl (w.heap.size + 1) (w.heap.size + 1 + 1) w1).setCell (b := w.heap.size + 1) (o := 0) (by omega) (by omega) (.bool XN.up)).setCell (b := w.heap.size + 1) (o := 1) (by omega) (by omega) (.int .i64 XN.i)).setCell (b := w.heap.size + 1) (o := 2) (by omega) (by omega) (.slice b1 XN.ps.length d1)).setCell (b := w.heap.size + 1) (o := 3) (by omega) (by omega) (.slice b2 XN.is.length d2)).setCell (b := w.heap.size + 1) (o := 4) (by omega) (by omega) (.slice b3 XN.ts.length d3)).setCell (b := w.heap.size + 1) (o := 5) (by omega) (by omega) (.slice b4 XN.ls.length d4))
  have hz5 := S5.size
  refine bodyPost_ret (v := .tuple #[.agg #[.bool XN.up, .int .i64 XN.i, .slice b1 XN.ps.length d1, .slice b2 XN.is.length d2, .slice b3 XN.ts.length d3, .slice b4 XN.ls.length d4], .int .i64 E]) (by simp [results, Try.results12, go_sem, z2]) rfl ?_
  exact ⟨_, rfl, ⟨_, _, _, _, rfl, (M1.only S5 (.inr (by omega))).wide (by omega) (by omega)⟩, hk1.out.trans (S5.below.mono (by omega))⟩

end

end Go.Proofs.Ytgakfbdaiogflaa
