
/-
  Contracts of package write: an item of a key is written or dropped.
-/
import Derived.Test.YtgakfbdaiogflaaNodeWr
import Derived.Test.YtgakfbdaiogflaaApart
import Derived.Test.YtgakfbdaiogflaaNodeB
import Derived.Test.YtgakfbdaiogflaaStore
namespace Go.Proofs.Ytgakfbdaiogflaa
open Go.ChangeShapes Go.WideShapes Go.ChangeAt Go.RowKit

theorem wIsByte_any (a : Int) (w : World) :
    Calls Try.prog 40 #[.int .i64 a] w fun e w' => e = .returned (.bool (plB a)) ∧ w' = w := by
  by_cases h0 : 0 ≤ a
  · have e : plB a = decide (a ≤ 255) := by simp [plB, h0]; omega
    rw [e]
    clear e
    go_enter Try.func40, Try.ntmps40
    go_wp2
    go_ret
    exact ⟨rfl, rfl⟩
  · have e : plB a = false := by simp [plB, h0]
    have hd : decide (0 ≤ a) = false := by simpa using h0
    rw [e]
    clear e
    go_enter Try.func40, Try.ntmps40
    go_wp2
    go_ret
    exact ⟨rfl, rfl⟩

section
variable {lo hi : Nat} {w : World} {p q r s : Value} {ps : List Pe} {is : List Int} {ts : List It} {ls : List Te}

theorem nd_lens {i : Int} (h : ndB ⟨true, i, ps, is, ts, ls⟩ = true) : ps.length ≤ 16 ∧ is.length ≤ 16 ∧ ts.length ≤ 16 ∧ ls.length ≤ 64 ∧ stB ts = true := by
  rw [ndB_up] at h
  simp only [Bool.and_eq_true] at h
  obtain ⟨h1, h2, h3⟩ := h
  have v := vwB_iff.1 h1
  simp only [lgB, Bool.and_eq_true, decide_eq_true_eq] at h3
  exact ⟨vw_len h1, (paB_iff.1 v.2.1).1, (stB_iff.1 h2).2.2, h3.1, h2⟩
theorem putL_len (xs : List It) (x : It) : (putL xs x).length ≤ 16 := by
  unfold putL
  split
  · split
    · assumption
    · exact Nat.zero_le _
  · exact Nat.zero_le _
/-- One that is too new is refused too. -/
theorem wr_full {n : Nd} {k x : Int} {g : Bool} (h : wrOk n k x = true) : wrE n k x g = if putE n.ts (wrIt n.i n.ts k x g) = 0 then 0 else 1701 := by
  unfold wrE
  rw [if_pos h]
  split
  next h1 =>
    have : itB (wrIt n.i n.ts k x g) = false := by
      rw [Bool.eq_false_iff]
      intro e
      have := (itB_bd e).2.1
      simp only [wrIt] at this
      omega
    rw [(put_form (Or.inr this)).2]
    simp
  next => rfl

set_option maxHeartbeats 1000000 in
theorem wNext_any (up : Bool) (i : Int) (h : NdAt lo hi w p q r s ps is ts ls) (hh : hi ≤ w.heap.size) (k : Int) (hs : stB ts = true) :
    Calls Try.prog 41 #[.agg #[.bool up, .int .i64 i, p, q, r, s], .int .i64 k] w fun e w' => e = .returned (.agg #[.int .i64 (wrC ts k), .int .i64 i]) ∧ Below w.heap.size w w' := by
  have HG := toHid (fun (W : World) (hb : Below w.heap.size w W) => sGet_any (h.below hb hh).ts (Nat.le_trans hh hb.size) k)
  obtain ⟨m0, m1⟩ := getI_cnt k hs
  unfold wrC
  generalize getI ts k = z at *
  generalize getB ts k = b at *
  obtain ⟨zk, m, zu, zx, zg⟩ := z
  dsimp only at *
  obtain ⟨a, c, a', c', a2, c2, a3, c3, rfl, rfl, rfl, rfl⟩ := h.shape
  have BX := toHid ((Box.new w #[.bool up, .int .i64 i, .slice a ps.length c, .slice a' is.length c', .slice a2 ts.length c2, .slice a3 ls.length c3] 29).alloc (.cells #[.int .i64 0, .int .i64 0] 45))
  have BZ := toHid (Box.new1 w (.cells #[.bool up, .int .i64 i, .slice a ps.length c, .slice a' is.length c', .slice a2 ts.length c2, .slice a3 ls.length c3] 29) #[.int .i64 0, .int .i64 0] 45)
  have hk := toHid (((Below.refl _ w).onA (.cells #[.bool up, .int .i64 i, .slice a ps.length c, .slice a' is.length c', .slice a2 ts.length c2, .slice a3 ls.length c3] 29)).onA (.cells #[.int .i64 0, .int .i64 0] 45))
  clear h
  go_enter Try.func41, Try.ntmps41
  go_upto_region 1 with (fail)
  generalize (w.alloc (.cells #[.bool up, .int .i64 i, .slice a ps.length c, .slice a' is.length c', .slice a2 ts.length c2, .slice a3 ls.length c3] 29)).alloc (.cells #[.int .i64 0, .int .i64 0] 45) = W0 at BX BZ hk ⊢
  obtain ⟨x1, x2, x3⟩ := BX.out
  go_wp2_with (go_at_call 59; refine (HG.out _ hk.out).mono ?_; rintro e w1 ⟨rfl, g1⟩
               replace hk := toHid (hk.out.on g1)
               have g2 := toHid g1.size
               replace BX := toHid ((BX.out.below g1).alloc (.cells #[.int .i64 zk, .int .i64 m, .int .i64 zu, .int .i64 zx, .bool zg] 47))
               replace BZ := toHid ((BZ.out.below g1).alloc (.cells #[.int .i64 zk, .int .i64 m, .int .i64 zu, .int .i64 zx, .bool zg] 47))
               clear x1 x2 x3 g1
               obtain ⟨x1, x2, x3⟩ := BX.out
               obtain ⟨z1, z2, z3⟩ := BZ.out)
  have hk2 := hk.out.onA (.cells #[.int .i64 zk, .int .i64 m, .int .i64 zu, .int .i64 zx, .bool zg] 47)
  have S5 := (((Only.refl (w.heap.size + 1) (w.heap.size + 1 + 1) (w1.alloc (.cells #[.int .i64 zk, .int .i64 m, .int .i64 zu, .int .i64 zx, .bool zg] 47))).setCell (b := w.heap.size + 1) (o := 0) (by omega) (by omega) (.int .i64 (m + 1))).setCell (b := w.heap.size + 1) (o := 1) (by omega) (by omega) (.int .i64 i))
  refine bodyPost_ret (v := .agg #[.int .i64 (m + 1), .int .i64 i]) (by simp [results, Try.results41, go_sem, z2]) rfl ?_
  exact ⟨rfl, hk2.trans (S5.below.mono (by omega))⟩

set_option maxHeartbeats 4000000 in
theorem wWritten_up (i : Int) (h : NdAt lo hi w p q r s ps is ts ls) (hh : hi ≤ w.heap.size) (k cc uu x : Int) (y : Bool)
    (hok : ndB ⟨true, i, ps, is, ts, ls⟩ = true) (hk : plB k = true) (hx : plB x = true) :
    Calls Try.prog 26 #[.agg #[.bool true, .int .i64 i, p, q, r, s], .agg #[.int .i64 k, .int .i64 cc, .int .i64 uu, .int .i64 x, .bool y]] w fun e w' => ∃ v, e = .returned (.tuple #[v, .int .i64 (wrE ⟨true, i, ps, is, ts, ls⟩ k x y)]) ∧
      NdV w.heap.size w'.heap.size w' v (wrN ⟨true, i, ps, is, ts, ls⟩ k x y) ∧ Below w.heap.size w w' := by
  obtain ⟨n1, n2, n3, n4, n5⟩ := nd_lens hok
  have hE : Hid (wrE ⟨true, i, ps, is, ts, ls⟩ k x y = if putE ts (wrIt i ts k x y) = 0 then 0 else 1701) := toHid (wr_full (n := ⟨true, i, ps, is, ts, ls⟩) (by simp [wrOk, hok, hk, hx]))
  have hN : Hid (wrN ⟨true, i, ps, is, ts, ls⟩ k x y = if wrE ⟨true, i, ps, is, ts, ls⟩ k x y = 0 then ⟨true, i, ps, is, putL ts (wrIt i ts k x y), ls⟩ else zeroN) := toHid rfl
  generalize wrE ⟨true, i, ps, is, ts, ls⟩ k x y = E at *
  generalize wrN ⟨true, i, ps, is, ts, ls⟩ k x y = XN at *
  have HM := toHid (fun (W : World) (hb : Below w.heap.size w W) => nMay_is (up := true) (i := i) (h.below hb hh) (Nat.le_trans hh hb.size) hok)
  have HG := toHid (fun (W : World) (hb : Below w.heap.size w W) => wNext_any true i (h.below hb hh) (Nat.le_trans hh hb.size) k n5)
  have HP := toHid (fun (W : World) (hb : Below w.heap.size w W) => sPut_any (h.below hb hh).ts (Nat.le_trans hh hb.size) k (wrC ts k) i x y)
  have HL := putL_len ts (wrIt i ts k x y)
  rw [wrIt] at hE hN HL
  generalize wrC ts k = m at *
  have HB := toHid (fun (W : World) (hb : Below w.heap.size w W) => h.below hb hh)
  obtain ⟨a, c, a', c', a2, c2, a3, c3, rfl, rfl, rfl, rfl⟩ := h.shape
  have BX := toHid (((Box.new w #[.bool true, .int .i64 i, .slice a ps.length c, .slice a' is.length c', .slice a2 ts.length c2, .slice a3 ls.length c3] 29).alloc (.cells #[.int .i64 k, .int .i64 cc, .int .i64 uu, .int .i64 x, .bool y] 47)).alloc (.cells #[.bool false, .int .i64 0, .slice none 0 0, .slice none 0 0, .slice none 0 0, .slice none 0 0] 29))
  have BI := toHid ((Box.new1 w (.cells #[.bool true, .int .i64 i, .slice a ps.length c, .slice a' is.length c', .slice a2 ts.length c2, .slice a3 ls.length c3] 29) #[.int .i64 k, .int .i64 cc, .int .i64 uu, .int .i64 x, .bool y] 47).alloc (.cells #[.bool false, .int .i64 0, .slice none 0 0, .slice none 0 0, .slice none 0 0, .slice none 0 0] 29))
  have BZ := toHid (Box.new2 w (.cells #[.bool true, .int .i64 i, .slice a ps.length c, .slice a' is.length c', .slice a2 ts.length c2, .slice a3 ls.length c3] 29) (.cells #[.int .i64 k, .int .i64 cc, .int .i64 uu, .int .i64 x, .bool y] 47) #[.bool false, .int .i64 0, .slice none 0 0, .slice none 0 0, .slice none 0 0, .slice none 0 0] 29)
  have hb0 := toHid ((((Below.refl _ w).onA (.cells #[.bool true, .int .i64 i, .slice a ps.length c, .slice a' is.length c', .slice a2 ts.length c2, .slice a3 ls.length c3] 29)).onA (.cells #[.int .i64 k, .int .i64 cc, .int .i64 uu, .int .i64 x, .bool y] 47)).onA (.cells #[.bool false, .int .i64 0, .slice none 0 0, .slice none 0 0, .slice none 0 0, .slice none 0 0] 29))
  have hh0 := toHid hh
  clear h hh
  go_enter Try.func26, Try.ntmps26
  go_upto_region 1 with (fail)
  generalize (((w.alloc (.cells #[.bool true, .int .i64 i, .slice a ps.length c, .slice a' is.length c', .slice a2 ts.length c2, .slice a3 ls.length c3] 29)).alloc (.cells #[.int .i64 k, .int .i64 cc, .int .i64 uu, .int .i64 x, .bool y] 47)).alloc (.cells #[.bool false, .int .i64 0, .slice none 0 0, .slice none 0 0, .slice none 0 0, .slice none 0 0] 29)) = W0 at BX BI BZ hb0 ⊢
  obtain ⟨x1, x2, x3⟩ := BX.out
  have t1 := trivial
  have hk' : Hid (plB k = true) := toHid hk
  have hx' : Hid (plB x = true) := toHid hx
  clear hk hx hok
  go_upto_region 4 with (first
    | (go_at_call 39; refine (HM.out _ hb0.out).mono ?_; rintro e w1 ⟨rfl, g1⟩
       have hk1 := toHid (hb0.out.on g1)
       have BX1 := toHid (BX.out.below g1)
       have BI1 := toHid (BI.out.below g1)
       have BZ1 := toHid (BZ.out.below g1)
       clear x1 x2 x3 g1 BX BI BZ hb0
       obtain ⟨x1, x2, x3⟩ := BX1.out
       obtain ⟨i1, i2, i3⟩ := BI1.out)
    | (go_at_call 40; clear t1; refine (hk'.out ▸ wIsByte_any k _).mono ?_; rintro e w' ⟨rfl, hw'⟩; subst w')
    | (go_at_call 40; refine (hx'.out ▸ wIsByte_any x _).mono ?_; rintro e w' ⟨rfl, hw'⟩; subst w')
    | (go_at_call 41; refine (HG.out _ hk1.out).mono ?_; rintro e w2 ⟨rfl, g2⟩
       have hk2 := toHid (hk1.out.on g2)
       have BX2 := toHid (BX1.out.below g2)
       have BI2 := toHid (BI1.out.below g2)
       have BZ2 := toHid (BZ1.out.below g2)
       clear x1 x2 x3 i1 i2 i3 g2 BX1 BI1 BZ1 hk1
       obtain ⟨x1, x2, x3⟩ := BX2.out
       obtain ⟨i1, i2, i3⟩ := BI2.out
       obtain ⟨z1, z2, z3⟩ := BZ2.out))
  have BX3 := (BX2.out.setO (w.heap.size + 1) 1 (.int .i64 m) (by omega)).setO (w.heap.size + 1) 2 (.int .i64 i) (by omega)
  have BI3 := (BI2.out.setS (ys := #[.int .i64 k, .int .i64 m, .int .i64 uu, .int .i64 x, .bool y]) 1 (.int .i64 m) (by simp) (by simp)).setS (ys := #[.int .i64 k, .int .i64 m, .int .i64 i, .int .i64 x, .bool y]) 2 (.int .i64 i) (by simp) (by simp)
  have BZ3 := (BZ2.out.setO (w.heap.size + 1) 1 (.int .i64 m) (by omega)).setO (w.heap.size + 1) 2 (.int .i64 i) (by omega)
  have hk3 := (hk2.out.setCell (p := ⟨w.heap.size + 1, 1, none⟩) (by show w.heap.size ≤ w.heap.size + 1; omega) (.int .i64 m)).setCell (p := ⟨w.heap.size + 1, 2, none⟩) (by show w.heap.size ≤ w.heap.size + 1; omega) (.int .i64 i)
  clear x1 x2 x3 i1 i2 i3 z1 z2 z3 BX2 BI2 BZ2 hk2
  generalize (w2.setCell ⟨w.heap.size + 1, 1, none⟩ (.int .i64 m)).setCell ⟨w.heap.size + 1, 2, none⟩ (.int .i64 i) = W3 at BX3 BI3 BZ3 hk3 ⊢
  replace BX3 := toHid BX3
  replace BI3 := toHid BI3
  replace BZ3 := toHid BZ3
  replace hk3 := toHid hk3
  obtain ⟨x1, x2, x3⟩ := BX3.out
  obtain ⟨i1, i2, i3⟩ := BI3.out
  obtain ⟨q4, hq⟩ : ∃ q4, putE ts ⟨k, m, i, x, y⟩ = q4 := ⟨_, rfl⟩
  replace HP := toHid (HP.out _ hk3.out)
  rw [hq] at HP hE
  clear hq
  generalize putL ts ⟨k, m, i, x, y⟩ = L at *
  replace HL := toHid HL
  by_cases h0 : q4 = 0
  · obtain rfl : E = 0 := by rw [hE.out, if_pos h0]
    obtain rfl : XN = ⟨true, i, ps, is, L, ls⟩ := by rw [hN.out]; rfl
    subst h0
    go_upto_region 8 with (first
      | (go_at_call 42; refine HP.out.mono ?_; rintro e w4 ⟨o, rfl, T4, g4⟩
         obtain ⟨po, co, rfl, -⟩ := id T4.out
         have hk4 := toHid (hk3.out.on g4)
         have BX4 := toHid (BX3.out.below g4)
         have BZ4 := toHid (BZ3.out.below g4)
         have g5 := toHid g4
         clear x1 x2 x3 i1 i2 i3 g4
         obtain ⟨x1, x2, x3⟩ := BX4.out))
    have zz := BZ3.out.1
    have zw := g5.out.size
    have S4 := (Only.refl w.heap.size (w.heap.size + 1) w4).setCell (b := w.heap.size) (o := 4) (by omega) (by omega) (.slice po L.length co)
    have T5 := toHid (T4.only S4 (.inr (by omega)))
    have BX5 := toHid (BX4.out.setS (ys := #[.bool true, .int .i64 i, .slice a ps.length c, .slice a' is.length c', .slice po L.length co, .slice a3 ls.length c3]) 4 (.slice po L.length co) (by simp) (by simp))
    have BZ5 := toHid (BZ4.out.only S4 (.inr (by omega)))
    have hk5 := toHid (hk4.out.trans S4.below)
    have hz5 := S4.size
    clear x1 x2 x3 S4 BX4 BZ4 hk4 T4
    generalize w4.setCell ⟨w.heap.size, 4, none⟩ (.slice po L.length co) = W5 at T5 BX5 BZ5 hk5 hz5 ⊢
    obtain ⟨x1, x2, x3⟩ := BX5.out
    have hl5 := HL.out
    have HC := toHid (aNode_any true i (NdAt.mk (VwAt.wide (lo' := 0) (hi' := W5.heap.size) (HB.out _ hk5.out).vw (Nat.zero_le _) (by have := hh0.out; omega)) (T5.out.wide (Nat.zero_le _) (by omega)) ((HB.out _ hk5.out).ls.wide (Nat.zero_le _) (by have := hh0.out; omega))) (Nat.le_refl _) (by omega) (by omega) (by omega) (by omega))
    clear hl5 zz zw
    go_wp2_with (go_at_call 43; refine HC.out.mono ?_; rintro e w6 ⟨a5, c5, a6, c6, a7, c7, a8, c8, rfl, N6, g6⟩
                 have hk6 := toHid (hk5.out.on g6)
                 have BZ6 := toHid (BZ5.out.below g6)
                 have hg6 := toHid g6.size
                 clear x1 x2 x3 g6
                 obtain ⟨z1, z2, z3⟩ := BZ6.out)
    have zz := BZ5.out.1
    have zw := hg6.out
    have S5 := (((((((Only.refl (w.heap.size + 1 + 1) (w.heap.size + 1 + 1 + 1) w6).setCell (b := w.heap.size + 1 + 1) (o := 0) (by omega) (by omega) (.bool true)).setCell (b := w.heap.size + 1 + 1) (o := 1) (by omega) (by omega) (.int .i64 i)).setCell (b := w.heap.size + 1 + 1) (o := 2) (by omega) (by omega) (.slice a5 ps.length c5)).setCell (b := w.heap.size + 1 + 1) (o := 3) (by omega) (by omega) (.slice a6 is.length c6)).setCell (b := w.heap.size + 1 + 1) (o := 4) (by omega) (by omega) (.slice a7 L.length c7)).setCell (b := w.heap.size + 1 + 1) (o := 5) (by omega) (by omega) (.slice a8 ls.length c8))
    have hz5 := S5.size
    refine bodyPost_ret (v := .tuple #[.agg #[.bool true, .int .i64 i, .slice a5 ps.length c5, .slice a6 is.length c6, .slice a7 L.length c7, .slice a8 ls.length c8], .int .i64 0]) (by simp [results, Try.results26, go_sem, z2]) rfl ?_
    exact ⟨_, rfl, ⟨_, _, _, _, rfl, (N6.only S5 (.inr (by omega))).wide (by omega) (by omega)⟩, hk6.out.trans (S5.below.mono (by omega))⟩
  · obtain rfl : E = 1701 := by rw [hE.out, if_neg h0]
    obtain rfl : XN = zeroN := by rw [hN.out]; rfl
    have h02 : (q4 == 0) = false := by simpa using h0
    go_wp2_with (first
      | (go_at_call 42; refine HP.out.mono ?_; rintro e w4 ⟨o, rfl, T4, g4⟩
         obtain ⟨po, co, rfl, -⟩ := id T4.out
         have hk4 := toHid (hk3.out.on g4)
         have BZ4 := toHid (BZ3.out.below g4)
         clear x1 x2 x3 i1 i2 i3 T4
         obtain ⟨z1, z2, z3⟩ := BZ4.out))
    have S5 := (((((((Only.refl (w.heap.size + 1 + 1) (w.heap.size + 1 + 1 + 1) w4).setCell (b := w.heap.size + 1 + 1) (o := 0) (by omega) (by omega) (.bool false)).setCell (b := w.heap.size + 1 + 1) (o := 1) (by omega) (by omega) (.int .i64 0)).setCell (b := w.heap.size + 1 + 1) (o := 2) (by omega) (by omega) (.slice none 0 0)).setCell (b := w.heap.size + 1 + 1) (o := 3) (by omega) (by omega) (.slice none 0 0)).setCell (b := w.heap.size + 1 + 1) (o := 4) (by omega) (by omega) (.slice none 0 0)).setCell (b := w.heap.size + 1 + 1) (o := 5) (by omega) (by omega) (.slice none 0 0))
    refine bodyPost_ret (v := .tuple #[.agg #[.bool false, .int .i64 0, .slice none 0 0, .slice none 0 0, .slice none 0 0, .slice none 0 0], .int .i64 1701]) (by simp [results, Try.results26, go_sem, z2]) rfl ?_
    exact ⟨_, rfl, NdV.zero, hk4.out.trans (S5.below.mono (by omega))⟩

set_option maxHeartbeats 4000000 in
theorem wWritten_no (up : Bool) (i : Int) (h : NdAt lo hi w p q r s ps is ts ls) (hh : hi ≤ w.heap.size) (k cc uu x : Int) (y : Bool) (hno : wrOk ⟨up, i, ps, is, ts, ls⟩ k x = false) :
    Calls Try.prog 26 #[.agg #[.bool up, .int .i64 i, p, q, r, s], .agg #[.int .i64 k, .int .i64 cc, .int .i64 uu, .int .i64 x, .bool y]] w fun e w' => ∃ v, e = .returned (.tuple #[v, .int .i64 1700]) ∧
      NdV w.heap.size w'.heap.size w' v zeroN ∧ Below w.heap.size w w' := by
  have HM := toHid (fun (W : World) (hb : Below w.heap.size w W) => nMay_any up i (h.below hb hh) (Nat.le_trans hh hb.size))
  unfold wrOk at hno
  dsimp only at hno
  generalize ndB ⟨up, i, ps, is, ts, ls⟩ = b at HM hno
  obtain ⟨a, c, a', c', a2, c2, a3, c3, rfl, rfl, rfl, rfl⟩ := h.shape
  have BX := toHid (((Box.new w #[.bool up, .int .i64 i, .slice a ps.length c, .slice a' is.length c', .slice a2 ts.length c2, .slice a3 ls.length c3] 29).alloc (.cells #[.int .i64 k, .int .i64 cc, .int .i64 uu, .int .i64 x, .bool y] 47)).alloc (.cells #[.bool false, .int .i64 0, .slice none 0 0, .slice none 0 0, .slice none 0 0, .slice none 0 0] 29))
  have BI := toHid ((Box.new1 w (.cells #[.bool up, .int .i64 i, .slice a ps.length c, .slice a' is.length c', .slice a2 ts.length c2, .slice a3 ls.length c3] 29) #[.int .i64 k, .int .i64 cc, .int .i64 uu, .int .i64 x, .bool y] 47).alloc (.cells #[.bool false, .int .i64 0, .slice none 0 0, .slice none 0 0, .slice none 0 0, .slice none 0 0] 29))
  have BZ := toHid (Box.new2 w (.cells #[.bool up, .int .i64 i, .slice a ps.length c, .slice a' is.length c', .slice a2 ts.length c2, .slice a3 ls.length c3] 29) (.cells #[.int .i64 k, .int .i64 cc, .int .i64 uu, .int .i64 x, .bool y] 47) #[.bool false, .int .i64 0, .slice none 0 0, .slice none 0 0, .slice none 0 0, .slice none 0 0] 29)
  have hb0 := toHid ((((Below.refl _ w).onA (.cells #[.bool up, .int .i64 i, .slice a ps.length c, .slice a' is.length c', .slice a2 ts.length c2, .slice a3 ls.length c3] 29)).onA (.cells #[.int .i64 k, .int .i64 cc, .int .i64 uu, .int .i64 x, .bool y] 47)).onA (.cells #[.bool false, .int .i64 0, .slice none 0 0, .slice none 0 0, .slice none 0 0, .slice none 0 0] 29))
  clear h
  go_enter Try.func26, Try.ntmps26
  go_upto_region 1 with (fail)
  generalize (((w.alloc (.cells #[.bool up, .int .i64 i, .slice a ps.length c, .slice a' is.length c', .slice a2 ts.length c2, .slice a3 ls.length c3] 29)).alloc (.cells #[.int .i64 k, .int .i64 cc, .int .i64 uu, .int .i64 x, .bool y] 47)).alloc (.cells #[.bool false, .int .i64 0, .slice none 0 0, .slice none 0 0, .slice none 0 0, .slice none 0 0] 29)) = W0 at BX BI BZ hb0 ⊢
  obtain ⟨x1, x2, x3⟩ := BX.out
  cases b with
  | false =>
    clear hno
    go_wp2_with (first
      | (go_at_call 39; refine (HM.out _ hb0.out).mono ?_; rintro e w1 ⟨rfl, g1⟩
         have hk1 := toHid (hb0.out.on g1)
         have BX1 := toHid (BX.out.below g1)
         have BI1 := toHid (BI.out.below g1)
         have BZ1 := toHid (BZ.out.below g1)
         clear x1 x2 x3 g1
         obtain ⟨x1, x2, x3⟩ := BX1.out
         obtain ⟨i1, i2, i3⟩ := BI1.out
         obtain ⟨z1, z2, z3⟩ := BZ1.out))
    have S5 := (((((((Only.refl (w.heap.size + 1 + 1) (w.heap.size + 1 + 1 + 1) w1).setCell (b := w.heap.size + 1 + 1) (o := 0) (by omega) (by omega) (.bool false)).setCell (b := w.heap.size + 1 + 1) (o := 1) (by omega) (by omega) (.int .i64 0)).setCell (b := w.heap.size + 1 + 1) (o := 2) (by omega) (by omega) (.slice none 0 0)).setCell (b := w.heap.size + 1 + 1) (o := 3) (by omega) (by omega) (.slice none 0 0)).setCell (b := w.heap.size + 1 + 1) (o := 4) (by omega) (by omega) (.slice none 0 0)).setCell (b := w.heap.size + 1 + 1) (o := 5) (by omega) (by omega) (.slice none 0 0))
    refine bodyPost_ret (v := .tuple #[.agg #[.bool false, .int .i64 0, .slice none 0 0, .slice none 0 0, .slice none 0 0, .slice none 0 0], .int .i64 1700]) (by simp [results, Try.results26, go_sem, z2]) rfl ?_
    exact ⟨_, rfl, NdV.zero, hk1.out.trans (S5.below.mono (by omega))⟩
  | true =>
    cases up with
    | false =>
      clear hno
      go_wp2_with (first
        | (go_at_call 39; refine (HM.out _ hb0.out).mono ?_; rintro e w1 ⟨rfl, g1⟩
           have hk1 := toHid (hb0.out.on g1)
           have BX1 := toHid (BX.out.below g1)
           have BI1 := toHid (BI.out.below g1)
           have BZ1 := toHid (BZ.out.below g1)
           clear x1 x2 x3 g1
           obtain ⟨x1, x2, x3⟩ := BX1.out
           obtain ⟨i1, i2, i3⟩ := BI1.out
           obtain ⟨z1, z2, z3⟩ := BZ1.out))
      have S5 := (((((((Only.refl (w.heap.size + 1 + 1) (w.heap.size + 1 + 1 + 1) w1).setCell (b := w.heap.size + 1 + 1) (o := 0) (by omega) (by omega) (.bool false)).setCell (b := w.heap.size + 1 + 1) (o := 1) (by omega) (by omega) (.int .i64 0)).setCell (b := w.heap.size + 1 + 1) (o := 2) (by omega) (by omega) (.slice none 0 0)).setCell (b := w.heap.size + 1 + 1) (o := 3) (by omega) (by omega) (.slice none 0 0)).setCell (b := w.heap.size + 1 + 1) (o := 4) (by omega) (by omega) (.slice none 0 0)).setCell (b := w.heap.size + 1 + 1) (o := 5) (by omega) (by omega) (.slice none 0 0))
      refine bodyPost_ret (v := .tuple #[.agg #[.bool false, .int .i64 0, .slice none 0 0, .slice none 0 0, .slice none 0 0, .slice none 0 0], .int .i64 1700]) (by simp [results, Try.results26, go_sem, z2]) rfl ?_
      exact ⟨_, rfl, NdV.zero, hk1.out.trans (S5.below.mono (by omega))⟩
    | true =>
      have t1 := trivial
      cases hk : plB k with
      | false =>
        clear hno
        go_wp2_with (first
          | (go_at_call 39; refine (HM.out _ hb0.out).mono ?_; rintro e w1 ⟨rfl, g1⟩
             have hk1 := toHid (hb0.out.on g1)
             have BX1 := toHid (BX.out.below g1)
             have BI1 := toHid (BI.out.below g1)
             have BZ1 := toHid (BZ.out.below g1)
             clear x1 x2 x3 g1
             obtain ⟨x1, x2, x3⟩ := BX1.out
             obtain ⟨i1, i2, i3⟩ := BI1.out
             obtain ⟨z1, z2, z3⟩ := BZ1.out)
          | (go_at_call 40; refine (hk ▸ wIsByte_any k _).mono ?_; rintro e w' ⟨rfl, hw'⟩; subst w'))
        have S5 := (((((((Only.refl (w.heap.size + 1 + 1) (w.heap.size + 1 + 1 + 1) w1).setCell (b := w.heap.size + 1 + 1) (o := 0) (by omega) (by omega) (.bool false)).setCell (b := w.heap.size + 1 + 1) (o := 1) (by omega) (by omega) (.int .i64 0)).setCell (b := w.heap.size + 1 + 1) (o := 2) (by omega) (by omega) (.slice none 0 0)).setCell (b := w.heap.size + 1 + 1) (o := 3) (by omega) (by omega) (.slice none 0 0)).setCell (b := w.heap.size + 1 + 1) (o := 4) (by omega) (by omega) (.slice none 0 0)).setCell (b := w.heap.size + 1 + 1) (o := 5) (by omega) (by omega) (.slice none 0 0))
        refine bodyPost_ret (v := .tuple #[.agg #[.bool false, .int .i64 0, .slice none 0 0, .slice none 0 0, .slice none 0 0, .slice none 0 0], .int .i64 1700]) (by simp [results, Try.results26, go_sem, z2]) rfl ?_
        exact ⟨_, rfl, NdV.zero, hk1.out.trans (S5.below.mono (by omega))⟩
      | true =>
        have hx : plB x = false := by simpa [hk] using hno
        clear hno
        go_wp2_with (first
          | (go_at_call 39; refine (HM.out _ hb0.out).mono ?_; rintro e w1 ⟨rfl, g1⟩
             have hk1 := toHid (hb0.out.on g1)
             have BX1 := toHid (BX.out.below g1)
             have BI1 := toHid (BI.out.below g1)
             have BZ1 := toHid (BZ.out.below g1)
             clear x1 x2 x3 g1
             obtain ⟨x1, x2, x3⟩ := BX1.out
             obtain ⟨i1, i2, i3⟩ := BI1.out
             obtain ⟨z1, z2, z3⟩ := BZ1.out)
          | (go_at_call 40; clear t1; refine (hk ▸ wIsByte_any k _).mono ?_; rintro e w' ⟨rfl, hw'⟩; subst w')
          | (go_at_call 40; refine (hx ▸ wIsByte_any x _).mono ?_; rintro e w' ⟨rfl, hw'⟩; subst w'))
        have S5 := (((((((Only.refl (w.heap.size + 1 + 1) (w.heap.size + 1 + 1 + 1) w1).setCell (b := w.heap.size + 1 + 1) (o := 0) (by omega) (by omega) (.bool false)).setCell (b := w.heap.size + 1 + 1) (o := 1) (by omega) (by omega) (.int .i64 0)).setCell (b := w.heap.size + 1 + 1) (o := 2) (by omega) (by omega) (.slice none 0 0)).setCell (b := w.heap.size + 1 + 1) (o := 3) (by omega) (by omega) (.slice none 0 0)).setCell (b := w.heap.size + 1 + 1) (o := 4) (by omega) (by omega) (.slice none 0 0)).setCell (b := w.heap.size + 1 + 1) (o := 5) (by omega) (by omega) (.slice none 0 0))
        refine bodyPost_ret (v := .tuple #[.agg #[.bool false, .int .i64 0, .slice none 0 0, .slice none 0 0, .slice none 0 0, .slice none 0 0], .int .i64 1700]) (by simp [results, Try.results26, go_sem, z2]) rfl ?_
        exact ⟨_, rfl, NdV.zero, hk1.out.trans (S5.below.mono (by omega))⟩

theorem wWritten_any (up : Bool) (i : Int) (h : NdAt lo hi w p q r s ps is ts ls) (hh : hi ≤ w.heap.size) (k cc uu x : Int) (y : Bool) :
    Calls Try.prog 26 #[.agg #[.bool up, .int .i64 i, p, q, r, s], .agg #[.int .i64 k, .int .i64 cc, .int .i64 uu, .int .i64 x, .bool y]] w fun e w' => ∃ v, e = .returned (.tuple #[v, .int .i64 (wrE ⟨up, i, ps, is, ts, ls⟩ k x y)]) ∧
      NdV w.heap.size w'.heap.size w' v (wrN ⟨up, i, ps, is, ts, ls⟩ k x y) ∧ Below w.heap.size w w' := by
  cases hw : wrOk ⟨up, i, ps, is, ts, ls⟩ k x with
  | false =>
    have e : wrE ⟨up, i, ps, is, ts, ls⟩ k x y = 1700 := by simp [wrE, hw]
    have e2 : wrN ⟨up, i, ps, is, ts, ls⟩ k x y = zeroN := by simp [wrN, e]
    rw [e, e2]
    exact wWritten_no up i h hh k cc uu x y hw
  | true =>
    simp only [wrOk, Bool.and_eq_true] at hw
    obtain ⟨⟨rfl, hn⟩, hk, hx⟩ := hw
    exact wWritten_up i h hh k cc uu x y hn hk hx

set_option maxHeartbeats 1000000 in
theorem wPut17_any (up : Bool) (i : Int) (h : NdAt lo hi w p q r s ps is ts ls) (hh : hi ≤ w.heap.size) (k x : Int) :
    Calls Try.prog 9 #[.agg #[.bool up, .int .i64 i, p, q, r, s], .int .i64 k, .int .i64 x] w fun e w' => ∃ v, e = .returned (.tuple #[v, .int .i64 (wrE ⟨up, i, ps, is, ts, ls⟩ k x false)]) ∧
      NdV w.heap.size w'.heap.size w' v (wrN ⟨up, i, ps, is, ts, ls⟩ k x false) ∧ Below w.heap.size w w' := by
  have HW := toHid (fun (W : World) (hb : Below w.heap.size w W) => wWritten_any up i (h.below hb hh) (Nat.le_trans hh hb.size) k 0 0 x false)
  generalize wrE ⟨up, i, ps, is, ts, ls⟩ k x false = E at *
  generalize wrN ⟨up, i, ps, is, ts, ls⟩ k x false = XN at *
  obtain ⟨a, c, a', c', a2, c2, a3, c3, rfl, rfl, rfl, rfl⟩ := h.shape
  have BZ := toHid (Box.new1 w (.cells #[.bool up, .int .i64 i, .slice a ps.length c, .slice a' is.length c', .slice a2 ts.length c2, .slice a3 ls.length c3] 29) #[.bool false, .int .i64 0, .slice none 0 0, .slice none 0 0, .slice none 0 0, .slice none 0 0] 29)
  have hb0 := toHid (((Below.refl _ w).onA (.cells #[.bool up, .int .i64 i, .slice a ps.length c, .slice a' is.length c', .slice a2 ts.length c2, .slice a3 ls.length c3] 29)).onA (.cells #[.bool false, .int .i64 0, .slice none 0 0, .slice none 0 0, .slice none 0 0, .slice none 0 0] 29))
  have BX := toHid ((Box.new w #[.bool up, .int .i64 i, .slice a ps.length c, .slice a' is.length c', .slice a2 ts.length c2, .slice a3 ls.length c3] 29).alloc (.cells #[.bool false, .int .i64 0, .slice none 0 0, .slice none 0 0, .slice none 0 0, .slice none 0 0] 29))
  have z0 : Hid (w.heap.size + 1 < ((w.alloc (.cells #[.bool up, .int .i64 i, .slice a ps.length c, .slice a' is.length c', .slice a2 ts.length c2, .slice a3 ls.length c3] 29)).alloc (.cells #[.bool false, .int .i64 0, .slice none 0 0, .slice none 0 0, .slice none 0 0, .slice none 0 0] 29)).heap.size) := toHid (by simp)
  clear h
  go_enter Try.func9, Try.ntmps9
  go_upto_region 1 with (fail)
  generalize ((w.alloc (.cells #[.bool up, .int .i64 i, .slice a ps.length c, .slice a' is.length c', .slice a2 ts.length c2, .slice a3 ls.length c3] 29)).alloc (.cells #[.bool false, .int .i64 0, .slice none 0 0, .slice none 0 0, .slice none 0 0, .slice none 0 0] 29)) = W0 at BX BZ hb0 z0 ⊢
  obtain ⟨x1, x2, x3⟩ := BX.out
  go_wp2_with (go_at_call 26; refine (HW.out _ hb0.out).mono ?_; rintro e w1 ⟨v1, rfl, N1, g1⟩
               obtain ⟨p1, q1, r1, s1, rfl, M1⟩ := N1.out
               obtain ⟨b1, d1, b2, d2, b3, d3, b4, d4, rfl, rfl, rfl, rfl⟩ := id M1.shape
               have hk1 := toHid (hb0.out.on g1)
               have BZ1 := toHid (BZ.out.below g1)
               clear x1 x2 x3 g1
               obtain ⟨z1, z2, z3⟩ := BZ1.out)
  have zz := z0.out
  have S5 := (((((((Only.refl (w.heap.size + 1) (w.heap.size + 1 + 1) w1).setCell (b := w.heap.size + 1) (o := 0) (by omega) (by omega) (.bool XN.up)).setCell (b := w.heap.size + 1) (o := 1) (by omega) (by omega) (.int .i64 XN.i)).setCell (b := w.heap.size + 1) (o := 2) (by omega) (by omega) (.slice b1 XN.ps.length d1)).setCell (b := w.heap.size + 1) (o := 3) (by omega) (by omega) (.slice b2 XN.is.length d2)).setCell (b := w.heap.size + 1) (o := 4) (by omega) (by omega) (.slice b3 XN.ts.length d3)).setCell (b := w.heap.size + 1) (o := 5) (by omega) (by omega) (.slice b4 XN.ls.length d4))
  have hz5 := S5.size
  refine bodyPost_ret (v := .tuple #[.agg #[.bool XN.up, .int .i64 XN.i, .slice b1 XN.ps.length d1, .slice b2 XN.is.length d2, .slice b3 XN.ts.length d3, .slice b4 XN.ls.length d4], .int .i64 E]) (by simp [results, Try.results9, go_sem, z2]) rfl ?_
  exact ⟨_, rfl, ⟨_, _, _, _, rfl, (M1.only S5 (.inr (by omega))).wide (by omega) (by omega)⟩, hk1.out.trans (S5.below.mono (by omega))⟩

set_option maxHeartbeats 1000000 in
theorem wDrop17_any (up : Bool) (i : Int) (h : NdAt lo hi w p q r s ps is ts ls) (hh : hi ≤ w.heap.size) (k : Int) :
    Calls Try.prog 11 #[.agg #[.bool up, .int .i64 i, p, q, r, s], .int .i64 k] w fun e w' => ∃ v, e = .returned (.tuple #[v, .int .i64 (wrE ⟨up, i, ps, is, ts, ls⟩ k 0 true)]) ∧
      NdV w.heap.size w'.heap.size w' v (wrN ⟨up, i, ps, is, ts, ls⟩ k 0 true) ∧ Below w.heap.size w w' := by
  have HW := toHid (fun (W : World) (hb : Below w.heap.size w W) => wWritten_any up i (h.below hb hh) (Nat.le_trans hh hb.size) k 0 0 0 true)
  generalize wrE ⟨up, i, ps, is, ts, ls⟩ k 0 true = E at *
  generalize wrN ⟨up, i, ps, is, ts, ls⟩ k 0 true = XN at *
  obtain ⟨a, c, a', c', a2, c2, a3, c3, rfl, rfl, rfl, rfl⟩ := h.shape
  have BZ := toHid (Box.new1 w (.cells #[.bool up, .int .i64 i, .slice a ps.length c, .slice a' is.length c', .slice a2 ts.length c2, .slice a3 ls.length c3] 29) #[.bool false, .int .i64 0, .slice none 0 0, .slice none 0 0, .slice none 0 0, .slice none 0 0] 29)
  have hb0 := toHid (((Below.refl _ w).onA (.cells #[.bool up, .int .i64 i, .slice a ps.length c, .slice a' is.length c', .slice a2 ts.length c2, .slice a3 ls.length c3] 29)).onA (.cells #[.bool false, .int .i64 0, .slice none 0 0, .slice none 0 0, .slice none 0 0, .slice none 0 0] 29))
  have BX := toHid ((Box.new w #[.bool up, .int .i64 i, .slice a ps.length c, .slice a' is.length c', .slice a2 ts.length c2, .slice a3 ls.length c3] 29).alloc (.cells #[.bool false, .int .i64 0, .slice none 0 0, .slice none 0 0, .slice none 0 0, .slice none 0 0] 29))
  have z0 : Hid (w.heap.size + 1 < ((w.alloc (.cells #[.bool up, .int .i64 i, .slice a ps.length c, .slice a' is.length c', .slice a2 ts.length c2, .slice a3 ls.length c3] 29)).alloc (.cells #[.bool false, .int .i64 0, .slice none 0 0, .slice none 0 0, .slice none 0 0, .slice none 0 0] 29)).heap.size) := toHid (by simp)
  clear h
  go_enter Try.func11, Try.ntmps11
  go_upto_region 1 with (fail)
  generalize ((w.alloc (.cells #[.bool up, .int .i64 i, .slice a ps.length c, .slice a' is.length c', .slice a2 ts.length c2, .slice a3 ls.length c3] 29)).alloc (.cells #[.bool false, .int .i64 0, .slice none 0 0, .slice none 0 0, .slice none 0 0, .slice none 0 0] 29)) = W0 at BX BZ hb0 z0 ⊢
  obtain ⟨x1, x2, x3⟩ := BX.out
  go_wp2_with (go_at_call 26; refine (HW.out _ hb0.out).mono ?_; rintro e w1 ⟨v1, rfl, N1, g1⟩
               obtain ⟨p1, q1, r1, s1, rfl, M1⟩ := N1.out
               obtain ⟨b1, d1, b2, d2, b3, d3, b4, d4, rfl, rfl, rfl, rfl⟩ := id M1.shape
               have hk1 := toHid (hb0.out.on g1)
               have BZ1 := toHid (BZ.out.below g1)
               clear x1 x2 x3 g1
               obtain ⟨z1, z2, z3⟩ := BZ1.out)
  have zz := z0.out
  have S5 := (((((((Only.refl (w.heap.size + 1) (w.heap.size + 1 + 1) w1).setCell (b := w.heap.size + 1) (o := 0) (by omega) (by omega) (.bool XN.up)).setCell (b := w.heap.size + 1) (o := 1) (by omega) (by omega) (.int .i64 XN.i)).setCell (b := w.heap.size + 1) (o := 2) (by omega) (by omega) (.slice b1 XN.ps.length d1)).setCell (b := w.heap.size + 1) (o := 3) (by omega) (by omega) (.slice b2 XN.is.length d2)).setCell (b := w.heap.size + 1) (o := 4) (by omega) (by omega) (.slice b3 XN.ts.length d3)).setCell (b := w.heap.size + 1) (o := 5) (by omega) (by omega) (.slice b4 XN.ls.length d4))
  have hz5 := S5.size
  refine bodyPost_ret (v := .tuple #[.agg #[.bool XN.up, .int .i64 XN.i, .slice b1 XN.ps.length d1, .slice b2 XN.is.length d2, .slice b3 XN.ts.length d3, .slice b4 XN.ls.length d4], .int .i64 E]) (by simp [results, Try.results11, go_sem, z2]) rfl ?_
  exact ⟨_, rfl, ⟨_, _, _, _, rfl, (M1.only S5 (.inr (by omega))).wide (by omega) (by omega)⟩, hk1.out.trans (S5.below.mono (by omega))⟩

end

end Go.Proofs.Ytgakfbdaiogflaa
