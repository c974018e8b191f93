
/-
  The document's own answer on a tick: the view grows older, who is known is greeted, items are shared.
-/
import Derived.Test.YtghamcomjfholaaGreatNodeSh
import Derived.Test.YtghamcomjfholaaGreatAgeRef
import Derived.Test.YtghamcomjfholaaGreatSteps
namespace Go.Proofs.YtghamcomjfholaaGreat
open Go.ChangeShapes Go.WideShapes Go.ChangeAt Go.RowKit

/-- The greetings to some places. -/
def hiL (i : Int) (names gs : List Int) : List Mg := gs.map fun d => ⟨0, i, d, names, 0, ⟨0, 0, 0, 0, false⟩, false⟩
def tiN (n : Nd) : Nd := if (n.up && ndB n) = true then ⟨true, n.i, (tkS (n.ps, n.is)).1, (tkS (n.ps, n.is)).2, n.ts, n.ls⟩ else zeroN
def tiM (n : Nd) : List Mg := if (n.up && ndB n) = true then hiL n.i (nmL (tkS (n.ps, n.is)).1) (tkG (n.ps, n.is)) ++ shL n.i (tkS (n.ps, n.is)).1 (tkS (n.ps, n.is)).2 n.ts else []
def tiE (n : Nd) : Int := if (n.up && ndB n) = true then 0 else 1900
theorem nd_vw {n : Nd} (hu : n.up = true) (h : ndB n = true) : vwB n.i n.ps n.is = true := by
  rw [ndB, if_pos hu] at h
  simp only [Bool.and_eq_true] at h
  exact h.2.1
theorem ti_ok {i : Int} {ps : List Pe} {is : List Int} {ts : List It} {ls : List Te} (h : ndB ⟨true, i, ps, is, ts, ls⟩ = true) : ndB ⟨true, i, (tkS (ps, is)).1, (tkS (ps, is)).2, ts, ls⟩ = true := by
  have hv := nd_vw (n := ⟨true, i, ps, is, ts, ls⟩) rfl h
  have hk : vwB i (tkS (ps, is)).1 (tkS (ps, is)).2 = true := tk_ok (s := (ps, is)) hv
  simp only [ndB, Bool.and_eq_true, if_pos] at h ⊢
  exact ⟨h.1, hk, h.2.2⟩

theorem Box.only2 {lo hi b : Nat} {w w' : World} {xs : Array Value} (h : Box w b xs) (s : Only lo hi w w') (hn : b < lo ∨ hi ≤ b) : Box w' b xs :=
  ⟨by rw [s.size]; exact h.1, fun o => (s.cell b o hn).trans (h.2.1 o), fun o => (s.frozen b o).trans (h.2.2 o)⟩

theorem own_lowB {w : World} {base base' n s : Nat} {e : TypeId} {v : Value} {xs : List Value} (h : w.ownsRow base e s v n xs) (hb : base' ≤ base) : w.ownsRow base' e s v n xs :=
  ⟨h.1, h.2.imp id fun ⟨g, c, cur, a1, a2, a3⟩ => ⟨g, c, cur, a1, Nat.le_trans hb a2, a3⟩⟩

section
variable {lo hi : Nat} {w : World} {p q r s : Value} {ps : List Pe} {is : List Int} {ts : List It} {ls : List Te}

set_option maxRecDepth 20000 in
set_option maxHeartbeats 2000000 in
theorem rTicked_no (up : Bool) (i : Int) (h : NdAt lo hi w p q r s ps is ts ls) (hh : hi ≤ w.heap.size)
    (h1 : ps.length * 16 ≤ 140737488351232) (hno : (up && ndB ⟨up, i, ps, is, ts, ls⟩) = false) :
    Calls Tryz.prog 6 #[.agg #[.bool up, .int .i64 i, p, q, r, s]] w fun e w' => e = .returned (.tuple #[.agg #[.bool false, .int .i64 0, .slice none 0 0, .slice none 0 0, .slice none 0 0, .slice none 0 0], .slice none 0 0, .int .i64 1900]) ∧ Below w.heap.size w w' := by
  have HU := toHid (fun o o' : Obj => rUpMay_any up i ((h.alloc o).alloc o') (Nat.le_trans hh (by simp; omega)) h1)
  rw [hno] at HU
  obtain ⟨a, c, a', c', a2, c2, a3, c3, rfl, rfl, rfl, rfl⟩ := h.shape
  have BZ := toHid (Box.new1 w (.cells #[.bool up, .int .i64 i, .slice a ps.length c, .slice a' is.length c', .slice a2 ts.length c2, .slice a3 ls.length c3] 29) #[.bool false, .int .i64 0, .slice none 0 0, .slice none 0 0, .slice none 0 0, .slice none 0 0] 29)
  clear h hno
  go_enter Tryz.func6, Tryz.ntmps6
  go_wp2_with (first
    | (go_at_call 19; refine (HU.out _ _).mono ?_; rintro e w1 ⟨rfl, g1⟩
       have hk1 := toHid ((((Below.refl _ w).onA _).onA _).on g1)
       obtain ⟨z1, z2, z3⟩ := BZ.out.below g1))
  have S5 := (((((((Only.refl (w.heap.size + 1) (w.heap.size + 1 + 1) w1).setCell (b := w.heap.size + 1) (o := 0) (by omega) (by omega) (.bool false)).setCell (b := w.heap.size + 1) (o := 1) (by omega) (by omega) (.int .i64 0)).setCell (b := w.heap.size + 1) (o := 2) (by omega) (by omega) (.slice none 0 0)).setCell (b := w.heap.size + 1) (o := 3) (by omega) (by omega) (.slice none 0 0)).setCell (b := w.heap.size + 1) (o := 4) (by omega) (by omega) (.slice none 0 0)).setCell (b := w.heap.size + 1) (o := 5) (by omega) (by omega) (.slice none 0 0))
  refine bodyPost_ret (v := .tuple #[.agg #[.bool false, .int .i64 0, .slice none 0 0, .slice none 0 0, .slice none 0 0, .slice none 0 0], .slice none 0 0, .int .i64 1900]) (by simp [results, Tryz.results6, go_sem, z2]) rfl ?_
  exact ⟨rfl, hk1.out.trans (S5.below.mono (by omega))⟩

set_option maxRecDepth 20000 in
set_option maxHeartbeats 8000000 in
theorem rTicked_up (i : Int) (h : NdAt lo hi w p q r s ps is ts ls) (hh : hi ≤ w.heap.size)
    (h1 : ps.length * 16 ≤ 140737488351232) (h2 : is.length * 8 ≤ 140737488351232) (h3 : ts.length * 40 ≤ 140737488351232) (h4 : ls.length * 24 ≤ 140737488351232) (hok : ndB ⟨true, i, ps, is, ts, ls⟩ = true) :
    Calls Tryz.prog 6 #[.agg #[.bool true, .int .i64 i, p, q, r, s]] w fun e w' => ∃ v u, e = .returned (.tuple #[v, u, .int .i64 0]) ∧
      NdV w.heap.size w'.heap.size w' v ⟨true, i, (tkS (ps, is)).1, (tkS (ps, is)).2, ts, ls⟩ ∧ OwnM w.heap.size w' u (hiL i (nmL (tkS (ps, is)).1) (tkG (ps, is)) ++ shL i (tkS (ps, is)).1 (tkS (ps, is)).2 ts) ∧ Below w.heap.size w w' := by
  have hv := nd_vw (n := ⟨true, i, ps, is, ts, ls⟩) rfl hok
  obtain ⟨k1, k2, k3, k4⟩ := tk_yes (s := (ps, is)) hv
  have hok2 := ti_ok hok
  have hgl : (tkG (ps, is)).length ≤ 16 := by rw [tkG_len (s := (ps, is)) hv]; exact (vwB_iff.1 hv).2.2.1
  have hvl : (tkS (ps, is)).1.length ≤ 16 := by
    have := (vwB_iff.1 (nd_vw (n := ⟨true, i, (tkS (ps, is)).1, (tkS (ps, is)).2, ts, ls⟩) rfl hok2)).2.2.1
    dsimp only at this
    omega
  have htl : ts.length ≤ 16 := (stB_iff.1 (nd_st (n := ⟨true, i, ps, is, ts, ls⟩) rfl hok)).2.2
  have HU := toHid (fun (W : World) (hb : Below w.heap.size w W) => rUpMay_any true i (h.below hb hh) (Nat.le_trans hh hb.size) h1)
  rw [hok] at HU
  have HC := toHid (fun (W : World) (hb : Below w.heap.size w W) => rCopyNode_any true i (h.below hb hh) (Nat.le_trans hh hb.size) (by omega) (by omega) (by omega) (by omega))
  have HA := toHid (fun (W : World) (hb : Below w.heap.size w W) => rTick_any i (h.below hb hh).vw (Nat.le_trans hh hb.size) h1)
  rw [k1, k2, k3, k4] at HA
  generalize (tkS (ps, is)).1 = V1 at *
  generalize (tkS (ps, is)).2 = V2 at *
  generalize tkG (ps, is) = gs at *
  obtain ⟨a, c, a', c', a2, c2, a3, c3, rfl, rfl, rfl, rfl⟩ := h.shape
  have BX := toHid ((Box.new w #[.bool true, .int .i64 i, .slice a ps.length c, .slice a' is.length c', .slice a2 ts.length c2, .slice a3 ls.length c3] 29).alloc (.cells #[.bool false, .int .i64 0, .slice none 0 0, .slice none 0 0, .slice none 0 0, .slice none 0 0] 29))
  have BZ := toHid (Box.new1 w (.cells #[.bool true, .int .i64 i, .slice a ps.length c, .slice a' is.length c', .slice a2 ts.length c2, .slice a3 ls.length c3] 29) #[.bool false, .int .i64 0, .slice none 0 0, .slice none 0 0, .slice none 0 0, .slice none 0 0] 29)
  have hb0 := toHid (((Below.refl _ w).onA (.cells #[.bool true, .int .i64 i, .slice a ps.length c, .slice a' is.length c', .slice a2 ts.length c2, .slice a3 ls.length c3] 29)).onA (.cells #[.bool false, .int .i64 0, .slice none 0 0, .slice none 0 0, .slice none 0 0, .slice none 0 0] 29))
  clear h hok k1 k2 k3 k4 hv
  go_enter Tryz.func6, Tryz.ntmps6
  go_upto_region 1 with (fail)
  generalize (w.alloc (.cells #[.bool true, .int .i64 i, .slice a ps.length c, .slice a' is.length c', .slice a2 ts.length c2, .slice a3 ls.length c3] 29)).alloc (.cells #[.bool false, .int .i64 0, .slice none 0 0, .slice none 0 0, .slice none 0 0, .slice none 0 0] 29) = W0 at BX BZ hb0 ⊢
  have z0 : Hid (w.heap.size + 1 < W0.heap.size) := toHid BZ.out.1
  obtain ⟨x1, x2, x3⟩ := BX.out
  go_upto_region 6 with (first
    | (go_at_call 19; refine (HU.out _ hb0.out).mono ?_; rintro e w1 ⟨rfl, g1⟩
       have hk1 := toHid (hb0.out.on g1)
       have BX1 := toHid (BX.out.below g1)
       have BZ1 := toHid (BZ.out.below g1)
       have y1 : Hid (W0.heap.size ≤ w1.heap.size) := toHid g1.size
       clear x1 x2 x3 g1 BX BZ hb0
       obtain ⟨x1, x2, x3⟩ := BX1.out)
    | (go_at_call 20; refine (HC.out _ hk1.out).mono ?_; rintro e w2 ⟨p5, q5, r5, s5, rfl, N5, g2⟩
       obtain ⟨b1, d1, b2, d2, b3, d3, b4, d4, rfl, rfl, rfl, rfl⟩ := id N5.shape
       have N5h := toHid (fun o : Obj => N5.alloc o)
       have AN := toHid (fun (cs : Array Value) (t : TypeId) => Box.new w2 cs t)
       have hk2 := toHid (hk1.out.on g2)
       have BX2 := toHid (BX1.out.below g2)
       have BZ2 := toHid (BZ1.out.below g2)
       have y2 : Hid (W0.heap.size ≤ w2.heap.size) := toHid (Nat.le_trans y1.out g2.size)
       clear x1 x2 x3 g2 BX1 BZ1 hk1 N5
       obtain ⟨x1, x2, x3⟩ := BX2.out)
    | (go_at_call 21; refine (HA.out _ (hk2.out.onA _)).mono ?_; rintro e w3 ⟨p6, q6, gv, rfl, VW, RG, g3⟩
       obtain ⟨e1, f1, e2, f2, rfl, rfl, -, -⟩ := id VW.shape
       obtain ⟨gp, gc, rfl, -⟩ := id RG.cap
       have N3 := toHid ((N5h.out _).below g3 (by simp))
       have A3 := toHid ((AN.out _ _).below g3)
       have BZ3 := toHid ((BZ2.out.alloc _).below g3)
       have hk3 := toHid ((hk2.out.onA _).on g3)
       have y3 : Hid (W0.heap.size ≤ w2.heap.size) := y2
       have y1' : Hid (W0.heap.size ≤ w1.heap.size) := y1
       have y4 : Hid (w2.heap.size + 1 ≤ w3.heap.size) := toHid (Nat.le_trans (by simp) g3.size)
       simp only [World.size_alloc] at VW RG
       replace VW := toHid VW
       replace RG := toHid RG
       clear x1 x2 x3 g3 N5h AN BX2 BZ2 hk2
       obtain ⟨n1, n2, n3⟩ := A3.out))
  have n1' := y4.out
  have zw := z0.out
  have zv := y3.out
  have ON := ((Only.refl w2.heap.size (w2.heap.size + 1) w3).setCell (o := 1) (Nat.le_refl _) (Nat.lt_succ_self _) (.int .i64 i)).setCell (o := 2) (Nat.le_refl _) (Nat.lt_succ_self _) (.slice e1 V1.length f1)
  replace ON := ON.setCell (o := 3) (Nat.le_refl _) (Nat.lt_succ_self _) (.slice e2 V2.length f2)
  have A4 := (((A3.out.setS (ys := #[.bool true, .int .i64 i, .slice b1 ps.length d1, .slice b2 is.length d2, .slice b3 ts.length d3, .slice b4 ls.length d4]) 1 (.int .i64 i) (by simp) (by simp)).setS (ys := #[.bool true, .int .i64 i, .slice e1 V1.length f1, .slice b2 is.length d2, .slice b3 ts.length d3, .slice b4 ls.length d4]) 2 (.slice e1 V1.length f1) (by simp) (by simp)).setS (ys := #[.bool true, .int .i64 i, .slice e1 V1.length f1, .slice e2 V2.length f2, .slice b3 ts.length d3, .slice b4 ls.length d4]) 3 (.slice e2 V2.length f2) (by simp) (by simp)).alloc (.cells #[.int .i64 i, .slice e1 V1.length f1, .slice e2 V2.length f2] 25)
  have VB4 := Box.newAt #[.int .i64 i, .slice e1 V1.length f1, .slice e2 V2.length f2] 25 ON.size.symm
  have BZ4 := (BZ3.out.only2 ON (.inl (by omega))).alloc (.cells #[.int .i64 i, .slice e1 V1.length f1, .slice e2 V2.length f2] 25)
  have V4 : VwAt (w2.heap.size + 1) w3.heap.size _ (.slice e1 V1.length f1) (.slice e2 V2.length f2) V1 V2 := ⟨(VW.out.ps.only ON (.inr (Nat.le_refl _))).alloc (.cells #[.int .i64 i, .slice e1 V1.length f1, .slice e2 V2.length f2] 25) PeV_len, (VW.out.is.only ON (.inr (Nat.le_refl _))).alloc (.cells #[.int .i64 i, .slice e1 V1.length f1, .slice e2 V2.length f2] 25)⟩
  have G4 := (RG.out.only ON (.inr (Nat.le_refl _))).alloc (.cells #[.int .i64 i, .slice e1 V1.length f1, .slice e2 V2.length f2] 25)
  have N4 := (N3.out.only ON (.inl (Nat.le_refl _))).alloc (.cells #[.int .i64 i, .slice e1 V1.length f1, .slice e2 V2.length f2] 25)
  have hk4 := (hk3.out.trans (ON.below.mono (by omega))).onA (.cells #[.int .i64 i, .slice e1 V1.length f1, .slice e2 V2.length f2] 25)
  have z4 : w3.heap.size < _ := VB4.1
  go_wp2
  generalize (((w3.setCell ⟨w2.heap.size, 1, none⟩ (.int .i64 i)).setCell ⟨w2.heap.size, 2, none⟩ (.slice e1 V1.length f1)).setCell ⟨w2.heap.size, 3, none⟩ (.slice e2 V2.length f2)).alloc (.cells #[.int .i64 i, .slice e1 V1.length f1, .slice e2 V2.length f2] 25) = W4 at A4 VB4 BZ4 V4 G4 N4 hk4 z4 ⊢
  clear ON n1 n2 n3 A3 BZ3 VW RG N3 hk3
  have NO : NdAt W0.heap.size W4.heap.size W4 (.slice e1 V1.length f1) (.slice e2 V2.length f2) (.slice b3 ts.length d3) (.slice b4 ls.length d4) V1 V2 ts ls := ⟨⟨V4.ps.wide (by omega) (by omega), V4.is.wide (by omega) (by omega)⟩, N4.ts.wide y1'.out (by omega), N4.ls.wide y1'.out (by omega)⟩
  replace A4 := toHid A4
  replace VB4 := toHid VB4
  replace BZ4 := toHid BZ4
  replace V4 := toHid V4
  replace G4 := toHid G4
  replace NO := toHid NO
  replace hk4 := toHid hk4
  clear N4
  go_loopw [9, 10] (fun o j wr => ∃ m : Nat, m ≤ gs.length ∧ j = .int .i64 m ∧ Hid (OwnM W4.heap.size wr o (hiL i (nmL V1) (gs.take m))) ∧ Below W4.heap.size W4 wr) (fun _ j _ => gs.length - (intOf j).toNat)
  case atStart => exact ⟨0, Nat.zero_le _, rfl, toHid OwnM.nil0, Below.refl _ _⟩
  case round =>
    obtain ⟨m, hm, rfl, own, hbr⟩ := hrel
    obtain ⟨po, co, eo⟩ := own.out.cap
    subst eo
    by_cases hlt : m < gs.length
    · have hlt' : (m : Int) < (gs.length : Int) := by omega
      have hm0 : 0 ≤ (m : Int) := by omega
      have hwi : IntKind.i64.wrap (m : Int) = (m : Int) := by rw [IntKind.wrap_i64]; omega
      obtain ⟨p3, c3', ev, -, -, hp3⟩ := G4.out.below hbr (Nat.le_of_lt z4)
      obtain ⟨bb, off, e5, -, hbb, hc⟩ := hp3 (by intro e; rw [e] at hlt; cases hlt)
      have ec : gp = p3 := by cases ev; rfl
      subst ec
      subst e5
      have cx := (hc m hlt).1
      obtain ⟨d, hd⟩ : ∃ d, gs[m] = d := ⟨_, rfl⟩
      have cx2 : wr.cell? ⟨bb, off + m, none⟩ = some (.int .i64 d) := by rw [cx, ← hd]; simp [List.getD, List.getElem?_eq_getElem hlt]
      have hbw : bb < wr.heap.size := World.block_lt_of_cell? _ _ cx2
      have hst : Hid (hiL i (nmL V1) (gs.take (m + 1)) = hiL i (nmL V1) (gs.take m) ++ [⟨0, i, d, nmL V1, 0, ⟨0, 0, 0, 0, false⟩, false⟩]) := toHid (by
        unfold hiL
        rw [List.take_add_one, List.getElem?_eq_getElem hlt, hd, List.map_append]
        rfl)
      have hlm : (hiL i (nmL V1) (gs.take m)).length ≤ 16 := by simp [hiL]; omega
      have CX := toHid (fun (W : World) (hb : Below wr.heap.size wr W) => (hb.cell (p := ⟨bb, off + m, none⟩) hbw).trans cx2)
      have VBr := toHid (VB4.out.below hbr)
      obtain ⟨v1, v2, v3⟩ := VBr.out
      have HN := toHid (rNames_own (w := wr.drewN 1) ((V4.out.ps.below hbr (Nat.le_of_lt z4)).drewN 1) (Nat.le_trans (Nat.le_of_lt z4) hbr.size) (by omega))
      have hsr := hbr.size
      clear hc hp3 ev cx hd
      go_wp2
      go_region_law (first
        | (refine step_call rfl (F := 22) (args := #[.slice e1 V1.length f1]) (by first | (go_simp; done) | (go_simp; rfl)) HN.out ?_
           rintro e w9 ⟨u9, rfl, own9, h9⟩
           obtain ⟨q9, d9, rfl⟩ := own_sliceM own9
           refine ⟨_, rfl, ?_⟩
           have hr9 : Below wr.heap.size wr w9 := ((Below.refl _ wr).onD 1).on h9
           have cx9 := CX.out _ hr9
           obtain ⟨u1, u2, u3⟩ := VBr.out.below hr9
           have OW9 := toHid (own.out.below hr9)
           have R9 : Hid (w9.ownsRow W4.heap.size 3 1 (.slice q9 V1.length d9) (nmL V1).length ((nmL V1).map (Value.int .i64))) := toHid (own_lowB (by rw [show (nmL V1).length = V1.length by simp [nmL]]; exact own9) hsr)
           have hb9 := toHid (hbr.on hr9)
           have hs9 : wr.heap.size ≤ w9.heap.size := hr9.size
           clear own9 h9 hr9)
        | (refine step_msgs rfl (.tmp 34) (.tmp 45) rfl W4.heap.size _ (hiL i (nmL V1) (gs.take m)) rfl (OW9.out.alloc _) ⟨w9.heap.size, 0, none⟩ 1 1 [⟨0, i, d, nmL V1, 0, ⟨0, 0, 0, 0, false⟩, false, .slice q9 V1.length d9⟩] rfl rfl (lit_mv _ rfl rfl) (fun y hy => by rw [List.mem_singleton.1 hy]; exact R9.out.alloc _) (by omega) (by simp; omega) ?_
           intro v6 w6 own6 hb6))
      all_goals
        have hN : Hid (OwnM W4.heap.size w6 v6 (hiL i (nmL V1) (gs.take (m + 1)))) := toHid (by rw [hst.out]; exact own6)
        have hB6 := (hb9.out.onA _).trans hb6
        clear own6 hb6
        go_wp2
        go_roundw
        case rel => exact ⟨m + 1, by omega, by go_num, hN, hB6⟩
        case measure => simp [intOf]; omega
    · obtain rfl : m = gs.length := by omega
      rw [List.take_length] at own
      have hlt' : ¬ (gs.length : Int) < (gs.length : Int) := by omega
      have Ar := toHid (A4.out.below hbr)
      obtain ⟨a1', a2', a3'⟩ := Ar.out
      have HS := toHid (rShare_up i (NO.out.below hbr (Nat.le_refl _)) hbr.size (by omega) hok2)
      have hgm : (hiL i (nmL V1) gs).length ≤ 16 := by simp [hiL]; omega
      have hsm := shL_len i V1 V2 ts
      have hs7 := hbr.size
      go_wp2_with (first
        | (go_at_call 23; refine HS.out.mono ?_; rintro e w7 ⟨v7, rfl, o7, h7⟩
           obtain ⟨p7, c7, rfl⟩ := o7.cap
           have O7 := toHid (o7.low hs7)
           have OW7 := toHid (own.out.below h7)
           have A7 := toHid (Ar.out.below h7)
           have hb7 := hbr.on h7
           clear a1' a2' a3' h7 o7
           obtain ⟨a1', a2', a3'⟩ := A7.out)
        | (at_builtin; refine app_msgsO rfl (.tmp 52) (.tmp 53) rfl W4.heap.size _ _ _ _ rfl OW7.out rfl O7.out (by omega) hb7.size ?_
           intro v8 w8 o8 h8
           have A8 := A7.out.belowAt h8 (by omega)
           have BZ8 := (BZ4.out.below hb7).belowAt h8 (by omega)
           have NO8 := (NO.out.below hb7 (Nat.le_refl _)).below h8 (Nat.le_refl _)
           have hk8 := hk4.out.trans ((hb7.trans h8).mono (by omega))
           have hz8 : W4.heap.size ≤ w8.heap.size := Nat.le_trans hb7.size h8.size
           clear a1' a2' a3' A7 h8 hb7
           obtain ⟨a1', a2', a3'⟩ := A8
           obtain ⟨z1, z2, z3⟩ := BZ8
           obtain ⟨p8, c8, rfl⟩ := o8.cap))
      have S5 := (((((((Only.refl (w.heap.size + 1) (w.heap.size + 1 + 1) w8).setCell (b := w.heap.size + 1) (o := 0) (by omega) (by omega) (.bool true)).setCell (b := w.heap.size + 1) (o := 1) (by omega) (by omega) (.int .i64 i)).setCell (b := w.heap.size + 1) (o := 2) (by omega) (by omega) (.slice e1 V1.length f1)).setCell (b := w.heap.size + 1) (o := 3) (by omega) (by omega) (.slice e2 V2.length f2)).setCell (b := w.heap.size + 1) (o := 4) (by omega) (by omega) (.slice b3 ts.length d3)).setCell (b := w.heap.size + 1) (o := 5) (by omega) (by omega) (.slice b4 ls.length d4))
      have hz5 := S5.size
      have O9 := ((((((o8.setLow (b := w.heap.size + 1) (by omega) 0 (.bool true)).setLow (b := w.heap.size + 1) (by omega) 1 (.int .i64 i)).setLow (b := w.heap.size + 1) (by omega) 2 (.slice e1 V1.length f1)).setLow (b := w.heap.size + 1) (by omega) 3 (.slice e2 V2.length f2)).setLow (b := w.heap.size + 1) (by omega) 4 (.slice b3 ts.length d3)).setLow (b := w.heap.size + 1) (by omega) 5 (.slice b4 ls.length d4)).low (show w.heap.size ≤ W4.heap.size by omega)
      rw [List.length_append] at O9
      refine bodyPost_ret (v := .tuple #[.agg #[.bool true, .int .i64 i, .slice e1 V1.length f1, .slice e2 V2.length f2, .slice b3 ts.length d3, .slice b4 ls.length d4], _, .int .i64 0]) (by simp [results, Tryz.results6, go_sem, z2]; rfl) rfl ?_
      exact ⟨_, _, rfl, ⟨_, _, _, _, rfl, (NO8.only S5 (.inr (by omega))).wide (by omega) (by omega)⟩, O9, hk8.trans (S5.below.mono (by omega))⟩

theorem rTicked_any (up : Bool) (i : Int) (h : NdAt lo hi w p q r s ps is ts ls) (hh : hi ≤ w.heap.size)
    (h1 : ps.length * 16 ≤ 140737488351232) (h2 : is.length * 8 ≤ 140737488351232) (h3 : ts.length * 40 ≤ 140737488351232) (h4 : ls.length * 24 ≤ 140737488351232) :
    Calls Tryz.prog 6 #[.agg #[.bool up, .int .i64 i, p, q, r, s]] w fun e w' => ∃ v u, e = .returned (.tuple #[v, u, .int .i64 (tiE ⟨up, i, ps, is, ts, ls⟩)]) ∧
      NdV w.heap.size w'.heap.size w' v (tiN ⟨up, i, ps, is, ts, ls⟩) ∧ OwnM w.heap.size w' u (tiM ⟨up, i, ps, is, ts, ls⟩) ∧ Below w.heap.size w w' := by
  unfold tiE tiN tiM
  dsimp only
  cases hb : (up && ndB ⟨up, i, ps, is, ts, ls⟩) with
  | false => exact (rTicked_no up i h hh h1 hb).mono fun _ _ ⟨he, hk⟩ => ⟨_, _, he, NdV.zero, OwnM.nil0, hk⟩
  | true =>
    simp only [Bool.and_eq_true] at hb
    obtain ⟨rfl, hn⟩ := hb
    exact rTicked_up i h hh h1 h2 h3 h4 hn
end

end Go.Proofs.YtghamcomjfholaaGreat
