
/-
  The document's own answer on taking: the best of what is there and what comes.
-/
import Derived.Test.YtnadallefpahjaaNodeWr
namespace Go.Proofs.Ytnadallefpahjaa
open Go.ChangeShapes Go.WideShapes Go.ChangeAt Go.RowKit

def ntL (ts : List It) (it : It) : List It := if putE ts it = 0 then putL ts it else ts
section
variable {lo hi : Nat} {w : World} {p q r s : Value} {ps : List Pe} {is : List Int} {ts : List It} {ls : List Te}

set_option maxHeartbeats 4000000 in
theorem rTake_up (i : Int) (h : NdAt lo hi w p q r s ps is ts ls) (hh : hi ≤ w.heap.size)
    (h1 : ps.length * 16 ≤ 140737488351232) (h2 : is.length * 8 ≤ 140737488351232) (h3 : ts.length * 40 ≤ 140737488351232) (h4 : ls.length * 24 ≤ 140737488351232) (k cc uu x : Int) (y : Bool)
    (hok : ndB ⟨true, i, ps, is, ts, ls⟩ = true) (hi' : itB ⟨k, cc, uu, x, y⟩ = true) :
    Calls Try.prog 23 #[.agg #[.bool true, .int .i64 i, p, q, r, s], .agg #[.int .i64 k, .int .i64 cc, .int .i64 uu, .int .i64 x, .bool y]] w fun e w' => ∃ v, e = .returned (.tuple #[v, .int .i64 0]) ∧
      NdV w.heap.size w'.heap.size w' v ⟨true, i, ps, is, ntL ts ⟨k, cc, uu, x, y⟩, ls⟩ ∧ Below w.heap.size w w' := by
  have HU := toHid (fun (W : World) (hb : Below w.heap.size w W) => rUpMay_any true i (h.below hb hh) (Nat.le_trans hh hb.size) h1)
  rw [hok] at HU
  have HI := toHid (fun W : World => rIMay_any k cc uu x y W)
  rw [hi'] at HI
  have HP := toHid (fun (W : World) (hb : Below w.heap.size w W) => rPut_any (h.below hb hh).ts (Nat.le_trans hh hb.size) k cc uu x y)
  have HC := toHid (fun (W : World) (hb : Below w.heap.size w W) => rCopyNode_any true i (h.below hb hh) (Nat.le_trans hh hb.size) (by omega) (by omega) (by omega) (by omega))
  have hL : Hid (ntL ts ⟨k, cc, uu, x, y⟩ = if putE ts ⟨k, cc, uu, x, y⟩ = 0 then putL ts ⟨k, cc, uu, x, y⟩ else ts) := toHid rfl
  generalize ntL ts ⟨k, cc, uu, x, y⟩ = NL at *
  generalize putE ts ⟨k, cc, uu, x, y⟩ = q4 at *
  generalize putL ts ⟨k, cc, uu, x, y⟩ = L at *
  obtain ⟨a, c, a', c', a2, c2, a3, c3, rfl, rfl, rfl, rfl⟩ := h.shape
  have BI := toHid ((Box.new1 w (.cells #[.bool true, .int .i64 i, .slice a ps.length c, .slice a' is.length c', .slice a2 ts.length c2, .slice a3 ls.length c3] 29) #[.int .i64 k, .int .i64 cc, .int .i64 uu, .int .i64 x, .bool y] 48).alloc (.cells #[.bool false, .int .i64 0, .slice none 0 0, .slice none 0 0, .slice none 0 0, .slice none 0 0] 29))
  have BZ := toHid (Box.new2 w (.cells #[.bool true, .int .i64 i, .slice a ps.length c, .slice a' is.length c', .slice a2 ts.length c2, .slice a3 ls.length c3] 29) (.cells #[.int .i64 k, .int .i64 cc, .int .i64 uu, .int .i64 x, .bool y] 48) #[.bool false, .int .i64 0, .slice none 0 0, .slice none 0 0, .slice none 0 0, .slice none 0 0] 29)
  have hb0 := toHid ((((Below.refl _ w).onA (.cells #[.bool true, .int .i64 i, .slice a ps.length c, .slice a' is.length c', .slice a2 ts.length c2, .slice a3 ls.length c3] 29)).onA (.cells #[.int .i64 k, .int .i64 cc, .int .i64 uu, .int .i64 x, .bool y] 48)).onA (.cells #[.bool false, .int .i64 0, .slice none 0 0, .slice none 0 0, .slice none 0 0, .slice none 0 0] 29))
  have BX := toHid (((Box.new w #[.bool true, .int .i64 i, .slice a ps.length c, .slice a' is.length c', .slice a2 ts.length c2, .slice a3 ls.length c3] 29).alloc (.cells #[.int .i64 k, .int .i64 cc, .int .i64 uu, .int .i64 x, .bool y] 48)).alloc (.cells #[.bool false, .int .i64 0, .slice none 0 0, .slice none 0 0, .slice none 0 0, .slice none 0 0] 29))
  clear h hok hi'
  go_enter Try.func23, Try.ntmps23
  go_upto_region 1 with (fail)
  generalize (((w.alloc (.cells #[.bool true, .int .i64 i, .slice a ps.length c, .slice a' is.length c', .slice a2 ts.length c2, .slice a3 ls.length c3] 29)).alloc (.cells #[.int .i64 k, .int .i64 cc, .int .i64 uu, .int .i64 x, .bool y] 48)).alloc (.cells #[.bool false, .int .i64 0, .slice none 0 0, .slice none 0 0, .slice none 0 0, .slice none 0 0] 29)) = W0 at BX BI BZ hb0 ⊢
  obtain ⟨x1, x2, x3⟩ := BX.out
  have zz : Hid (w.heap.size + 1 + 1 < W0.heap.size) := toHid BZ.out.1
  go_upto_region 5 with (first
    | (go_at_call 28; refine (HU.out _ hb0.out).mono ?_; rintro e w1 ⟨rfl, g1⟩
       have hk1 := toHid (hb0.out.on g1)
       have BX1 := toHid (BX.out.below g1)
       have BI1 := toHid (BI.out.below g1)
       have BZ1 := toHid (BZ.out.below g1)
       have y1 : Hid (W0.heap.size ≤ w1.heap.size) := toHid g1.size
       clear x1 x2 x3 g1 BX BI BZ hb0
       obtain ⟨i1, i2, i3⟩ := BI1.out)
    | (go_at_call 35; refine (HI.out _).mono ?_; rintro e w2 ⟨rfl, g2⟩
       have hk2 := toHid (hk1.out.on g2)
       have BX2 := toHid (BX1.out.below g2)
       have BI2 := toHid (BI1.out.below g2)
       have BZ2 := toHid (BZ1.out.below g2)
       have y2 : Hid (W0.heap.size ≤ w2.heap.size) := toHid (Nat.le_trans y1.out g2.size)
       clear i1 i2 i3 g2 BX1 BI1 BZ1 hk1 y1
       obtain ⟨x1, x2, x3⟩ := BX2.out)
    | (go_at_call 41; refine (HC.out _ hk2.out).mono ?_; rintro e w5 ⟨p5, q5, r5, s5, rfl, N5, g5⟩
       obtain ⟨b1, d1, b2, d2, b3, d3, b4, d4, rfl, rfl, rfl, rfl⟩ := id N5.shape
       have N5h := toHid (fun o : Obj => N5.alloc o)
       have AN := toHid (fun (cs : Array Value) (t : TypeId) => Box.new w5 cs t)
       have hk5 := toHid (hk2.out.on g5)
       have BX5 := toHid (BX2.out.below g5)
       have BI5 := toHid (BI2.out.below g5)
       have BZ5 := toHid (BZ2.out.below g5)
       have y5 : Hid (W0.heap.size ≤ w5.heap.size) := toHid (Nat.le_trans y2.out g5.size)
       clear x1 x2 x3 g5 BX2 BI2 BZ2 hk2 N5
       obtain ⟨x1, x2, x3⟩ := BX5.out
       obtain ⟨i1, i2, i3⟩ := BI5.out)
    | (go_at_call 42; refine (HP.out _ (hk5.out.onA _)).mono ?_; rintro e w4 ⟨o, rfl, T4, g4⟩
       obtain ⟨po, co, rfl, -⟩ := id T4.out
       have N4 := (N5h.out _).below g4 (by simp)
       have A4 := (AN.out _ _).below g4
       have hk4 := (hk5.out.onA _).on g4
       have BZ4 := (BZ5.out.alloc _).below g4
       have y4 : W0.heap.size ≤ w5.heap.size := y5.out
       have j4 : w5.heap.size < w4.heap.size := Nat.lt_of_lt_of_le (by simp) g4.size
       simp only [World.size_alloc] at T4
       clear x1 x2 x3 i1 i2 i3 g4 N5h AN BX5 BI5 BZ5 hk5
       obtain ⟨n1, n2, n3⟩ := id A4
       obtain ⟨z1, z2, z3⟩ := id BZ4))
  have zz' := zz.out


  have y2' := y2.out
  have x0 : w.heap.size + 1 + 1 + 1 ≤ w2.heap.size := by omega
  by_cases h0 : q4 = 0
  · obtain rfl : NL = L := by rw [hL.out, if_pos h0]
    subst h0
    go_wp2
    have O1 := (Only.refl w5.heap.size (w5.heap.size + 1) w4).setCell (o := 4) (Nat.le_refl _) (Nat.lt_succ_self _) (.slice po NL.length co)
    have S5 := (((((((Only.refl (w.heap.size + 1 + 1) (w.heap.size + 1 + 1 + 1) (w4.setCell ⟨w5.heap.size, 4, none⟩ (.slice po NL.length co))).setCell (b := w.heap.size + 1 + 1) (o := 0) (by omega) (by omega) (.bool true)).setCell (b := w.heap.size + 1 + 1) (o := 1) (by omega) (by omega) (.int .i64 i)).setCell (b := w.heap.size + 1 + 1) (o := 2) (by omega) (by omega) (.slice b1 ps.length d1)).setCell (b := w.heap.size + 1 + 1) (o := 3) (by omega) (by omega) (.slice b2 is.length d2)).setCell (b := w.heap.size + 1 + 1) (o := 4) (by omega) (by omega) (.slice po NL.length co)).setCell (b := w.heap.size + 1 + 1) (o := 5) (by omega) (by omega) (.slice b4 ls.length d4))
    have hz1 := O1.size
    have hz5 := S5.size
    refine bodyPost_ret (v := .tuple #[.agg #[.bool true, .int .i64 i, .slice b1 ps.length d1, .slice b2 is.length d2, .slice po NL.length co, .slice b4 ls.length d4], .int .i64 0]) (by simp [results, Try.results23, go_sem, z2]) rfl ?_
    exact ⟨_, rfl, ⟨_, _, _, _, rfl, NdAt.wide (lo := w.heap.size + 1 + 1 + 1) (hi := w4.heap.size) ⟨⟨((N4.vw.ps.only O1 (.inl (Nat.le_refl _))).only S5 (.inr x0)).wide x0 (by omega), ((N4.vw.is.only O1 (.inl (Nat.le_refl _))).only S5 (.inr x0)).wide x0 (by omega)⟩, ((T4.only O1 (.inr (Nat.le_refl _))).only S5 (.inr (by omega))).wide (by omega) (by omega), ((N4.ls.only O1 (.inl (Nat.le_refl _))).only S5 (.inr x0)).wide x0 (by omega)⟩ (by omega) (by omega)⟩, (hk4.trans (O1.below.mono (by omega))).trans (S5.below.mono (by omega))⟩
  · obtain rfl : NL = ts := by rw [hL.out, if_neg h0]
    have h02 : (q4 == 0) = false := by simpa using h0
    go_wp2
    have S5 := (((((((Only.refl (w.heap.size + 1 + 1) (w.heap.size + 1 + 1 + 1) w4).setCell (b := w.heap.size + 1 + 1) (o := 0) (by omega) (by omega) (.bool true)).setCell (b := w.heap.size + 1 + 1) (o := 1) (by omega) (by omega) (.int .i64 i)).setCell (b := w.heap.size + 1 + 1) (o := 2) (by omega) (by omega) (.slice b1 ps.length d1)).setCell (b := w.heap.size + 1 + 1) (o := 3) (by omega) (by omega) (.slice b2 is.length d2)).setCell (b := w.heap.size + 1 + 1) (o := 4) (by omega) (by omega) (.slice b3 NL.length d3)).setCell (b := w.heap.size + 1 + 1) (o := 5) (by omega) (by omega) (.slice b4 ls.length d4))
    have hz5 := S5.size
    refine bodyPost_ret (v := .tuple #[.agg #[.bool true, .int .i64 i, .slice b1 ps.length d1, .slice b2 is.length d2, .slice b3 NL.length d3, .slice b4 ls.length d4], .int .i64 0]) (by simp [results, Try.results23, go_sem, z2]) rfl ?_
    exact ⟨_, rfl, ⟨_, _, _, _, rfl, (N4.only S5 (.inr x0)).wide (by omega) (by omega)⟩, hk4.trans (S5.below.mono (by omega))⟩

end

end Go.Proofs.Ytnadallefpahjaa
