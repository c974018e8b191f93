
/-
  Copying a node: the statements' own helper.
-/
import Derived.Test.YtghamcomjfholaaGreatMsgRow
import Derived.Deep.DeepCutAuto
import Derived.Deep.CutRange
import Derived.Deep.CutBlock
namespace Go.Proofs.YtghamcomjfholaaGreat
open Go.ChangeShapes Go.WideShapes Go.ChangeAt Go.RowKit

theorem NdAt.only {lo hi lo' hi' : Nat} {w w' : World} {p q r s : Value} {ps : List Pe} {is : List Int} {ts : List It} {ls : List Te} (h : NdAt lo hi w p q r s ps is ts ls) (hw : Only lo' hi' w w') (hd : hi ≤ lo' ∨ hi' ≤ lo) : NdAt lo hi w' p q r s ps is ts ls :=
  ⟨⟨h.vw.ps.only hw hd, h.vw.is.only hw hd⟩, h.ts.only hw hd, h.ls.only hw hd⟩

set_option maxHeartbeats 4000000 in
theorem copyNode_any {lo hi : Nat} {w : World} {p q r s : Value} {ps : List Pe} {is : List Int} {ts : List It} {ls : List Te} (up : Bool) (i : Int) (h : NdAt lo hi w p q r s ps is ts ls) (hh : hi ≤ w.heap.size)
    (h1 : ps.length * 16 ≤ 140737488355328) (h2 : is.length * 8 ≤ 140737488355328) (h3 : ts.length * 40 ≤ 140737488355328) (h4 : ls.length * 24 ≤ 140737488355328) :
    Calls Tryz.prog 4 #[.agg #[.bool up, .int .i64 i, p, q, r, s]] w fun e w' => ∃ p' q' r' s', e = .returned (.agg #[.bool up, .int .i64 i, p', q', r', s']) ∧ NdAt w.heap.size w'.heap.size w' p' q' r' s' ps is ts ls ∧ Below w.heap.size w w' := by
  have HV := fun o1 o2 : Obj => copyView_any i ((h.vw.alloc o1).alloc o2) (by simp; omega) h1 h2
  have RT := toHid (fun (W : World) (hb : Below w.heap.size w W) => h.ts.below hb hh)
  have RL := toHid (fun (W : World) (hb : Below w.heap.size w W) => h.ls.below hb hh)
  obtain ⟨a, c, a', c', a2, c2, a3, c3, rfl, rfl, rfl, rfl⟩ := h.shape
  have BX := toHid ((Box.new w #[.bool up, .int .i64 i, .slice a ps.length c, .slice a' is.length c', .slice a2 ts.length c2, .slice a3 ls.length c3] 29).alloc (.cells #[.bool false, .int .i64 0, .slice none 0 0, .slice none 0 0, .slice none 0 0, .slice none 0 0] 29))
  have CX := toHid (Box.new1 w (.cells #[.bool up, .int .i64 i, .slice a ps.length c, .slice a' is.length c', .slice a2 ts.length c2, .slice a3 ls.length c3] 29) #[.bool false, .int .i64 0, .slice none 0 0, .slice none 0 0, .slice none 0 0, .slice none 0 0] 29)
  have hk := toHid (((Below.refl _ w).onA (.cells #[.bool up, .int .i64 i, .slice a ps.length c, .slice a' is.length c', .slice a2 ts.length c2, .slice a3 ls.length c3] 29)).onA (.cells #[.bool false, .int .i64 0, .slice none 0 0, .slice none 0 0, .slice none 0 0, .slice none 0 0] 29))
  replace HV := toHid (HV (.cells #[.bool up, .int .i64 i, .slice a ps.length c, .slice a' is.length c', .slice a2 ts.length c2, .slice a3 ls.length c3] 29) (.cells #[.bool false, .int .i64 0, .slice none 0 0, .slice none 0 0, .slice none 0 0, .slice none 0 0] 29))
  have hs0 : w.heap.size + 1 < ((w.alloc (.cells #[.bool up, .int .i64 i, .slice a ps.length c, .slice a' is.length c', .slice a2 ts.length c2, .slice a3 ls.length c3] 29)).alloc (.cells #[.bool false, .int .i64 0, .slice none 0 0, .slice none 0 0, .slice none 0 0, .slice none 0 0] 29)).heap.size := by simp
  clear h
  go_enter Tryz.func4, Tryz.ntmps4
  go_upto_region 1 with (fail)
  generalize (w.alloc (.cells #[.bool up, .int .i64 i, .slice a ps.length c, .slice a' is.length c', .slice a2 ts.length c2, .slice a3 ls.length c3] 29)).alloc (.cells #[.bool false, .int .i64 0, .slice none 0 0, .slice none 0 0, .slice none 0 0, .slice none 0 0] 29) = wB at BX CX hk HV hs0 ⊢
  generalize hgb : w.heap.size = g at *
  obtain ⟨b1, b2, b3⟩ := BX.out
  go_upto_region 2 with (first
    | (go_at_call 13; refine HV.out.mono ?_; rintro e w1 ⟨p', q', rfl, V1, h5⟩
       obtain ⟨d1, e1, d2, e2, ep, eq, -, -⟩ := V1.shape
       subst ep eq
       clear b1 b2 b3
       have BX1 := BX.out.below h5
       have CX1 := CX.out.below h5
       have hk1 := hk.out.trans (h5.mono (by omega))
       have hs1 := h5.size
       obtain ⟨b1, b2, b3⟩ := id BX1
       replace V1 := toHid V1))
  have N1 := ((((Only.refl g (g + 1) w1).setCell (o := 1) (Nat.le_refl _) (Nat.lt_succ_self _) (.int .i64 i)).setCell (o := 2) (Nat.le_refl _) (Nat.lt_succ_self _) (.slice d1 ps.length e1)).setCell (o := 3) (Nat.le_refl _) (Nat.lt_succ_self _) (.slice d2 is.length e2))
  have BX2 := toHid (((BX1.setS (ys := #[.bool up, .int .i64 i, .slice a ps.length c, .slice a' is.length c', .slice a2 ts.length c2, .slice a3 ls.length c3]) 1 (.int .i64 i) (by simp) (by simp)).setS (ys := #[.bool up, .int .i64 i, (.slice d1 ps.length e1), .slice a' is.length c', .slice a2 ts.length c2, .slice a3 ls.length c3]) 2 (.slice d1 ps.length e1) (by simp) (by simp)).setS (ys := #[.bool up, .int .i64 i, (.slice d1 ps.length e1), (.slice d2 is.length e2), .slice a2 ts.length c2, .slice a3 ls.length c3]) 3 (.slice d2 is.length e2) (by simp) (by simp))
  have CX2 := toHid (CX1.only N1 (.inr (Nat.le_refl _)))
  have V2 : Hid (VwAt wB.heap.size w1.heap.size ((((w1.setCell ⟨g, 1, none⟩ (.int .i64 i)).setCell ⟨g, 2, none⟩ (.slice d1 ps.length e1)).setCell ⟨g, 3, none⟩ (.slice d2 is.length e2))) (.slice d1 ps.length e1) (.slice d2 is.length e2) ps is) := toHid ⟨V1.out.ps.only N1 (.inr (by omega)), V1.out.is.only N1 (.inr (by omega))⟩
  have hk2 := toHid (hk1.trans N1.below)
  have hs2 := N1.size
  clear N1 BX1 CX1 V1 hk1 b1 b2 b3 BX CX HV
  generalize (((w1.setCell ⟨g, 1, none⟩ (.int .i64 i)).setCell ⟨g, 2, none⟩ (.slice d1 ps.length e1)).setCell ⟨g, 3, none⟩ (.slice d2 is.length e2)) = W1 at BX2 CX2 V2 hk2 hs2 ⊢
  have hW1 : g + 1 < W1.heap.size := by omega
  have hV1 : w1.heap.size ≤ W1.heap.size := by omega
  replace hs2 := toHid hs2
  obtain ⟨b1, b2, b3⟩ := (BX2.out.alloc (.cells #[] 56))
  obtain ⟨f1, f2, f3⟩ := BX2.out
  go_wp2_with (at_builtin; refine app_rowT rfl (.tmp 7) (.tmp 9) rfl W1.heap.size (.slice (some ⟨W1.heap.size, 0, none⟩) 0 0) 0 [] rfl (lit_at (Nat.le_refl _) rfl) lo hi _ ts rfl ((RT.out _ hk2.out).alloc _ ItV_len) (by omega) (by simp) ?_)
  intro v2 w2 hown2 hgr2 hb2
  have T3 : RowT W1.heap.size w2.heap.size w2 v2 ts := RowC.of_owns (by decide) ItV_len (by simpa using hown2)
  obtain ⟨d3, e3, ev, -⟩ := T3.out
  subst ev
  have BX3 := (BX2.out.alloc (.cells #[] 56)).belowAt hb2 (by omega)
  have CX3 := (CX2.out.alloc (.cells #[] 56)).belowAt hb2 (by omega)
  have V3 := (V2.out.alloc (.cells #[] 56)).below hb2 hV1
  have hk3 := (hk2.out.alloc (show g ≤ W1.heap.size by omega) (.cells #[] 56)).trans (hb2.mono (by omega))
  have hs3 : W1.heap.size ≤ w2.heap.size := Nat.le_trans (by simp) hb2.size
  clear hown2 hgr2 hb2 b1 b2 b3 f1 f2 f3
  obtain ⟨b1, b2, b3⟩ := id BX3
  go_upto_region 3 with (fail)
  have N2 := ((Only.refl g (g + 1) w2).setCell (o := 4) (Nat.le_refl _) (Nat.lt_succ_self _) (.slice d3 ts.length e3))
  have BX4 := toHid (BX3.setS (ys := #[.bool up, .int .i64 i, (.slice d1 ps.length e1), (.slice d2 is.length e2), (.slice d3 ts.length e3), .slice a3 ls.length c3]) 4 (.slice d3 ts.length e3) (by simp) (by simp))
  have CX4 := toHid (CX3.only N2 (.inr (Nat.le_refl _)))
  have V4 : Hid (VwAt wB.heap.size w1.heap.size (w2.setCell ⟨g, 4, none⟩ (.slice d3 ts.length e3)) (.slice d1 ps.length e1) (.slice d2 is.length e2) ps is) := toHid ⟨V3.ps.only N2 (.inr (by omega)), V3.is.only N2 (.inr (by omega))⟩
  have T4 := toHid (T3.only N2 (.inr (by omega)))
  have hk4 := toHid (hk3.trans N2.below)
  have hs4 := N2.size
  clear N2 BX3 CX3 V3 T3 hk3 b1 b2 b3 BX2 CX2 V2 hk2
  generalize w2.setCell ⟨g, 4, none⟩ (.slice d3 ts.length e3) = W2 at BX4 CX4 V4 T4 hk4 hs4 ⊢
  have hW2 : g + 1 < W2.heap.size := by omega
  have hV2 : w1.heap.size ≤ W2.heap.size := by omega
  have hT2 : w2.heap.size ≤ W2.heap.size := by omega
  replace hs4 := toHid hs4
  obtain ⟨b1, b2, b3⟩ := (BX4.out.alloc (.cells #[] 79))
  obtain ⟨f1, f2, f3⟩ := BX4.out
  go_wp2_with (at_builtin; refine app_rowE rfl (.tmp 12) (.tmp 14) rfl W2.heap.size (.slice (some ⟨W2.heap.size, 0, none⟩) 0 0) 0 [] rfl (lit_at (Nat.le_refl _) rfl) lo hi _ ls rfl ((RL.out _ hk4.out).alloc _ TeV_len) (by omega) (by simp) ?_)
  intro v3 w3 hown3 hgr3 hb3
  have L5 : RowE W2.heap.size w3.heap.size w3 v3 ls := RowC.of_owns (by decide) TeV_len (by simpa using hown3)
  obtain ⟨d4, e4, ev, -⟩ := L5.out
  subst ev
  have BX5 := (BX4.out.alloc (.cells #[] 79)).belowAt hb3 (by omega)
  have CX5 := (CX4.out.alloc (.cells #[] 79)).belowAt hb3 (by omega)
  have V5 := (V4.out.alloc (.cells #[] 79)).below hb3 hV2
  have T5 := (T4.out.alloc (.cells #[] 79) ItV_len).below hb3 hT2
  have hk5 := (hk4.out.alloc (show g ≤ W2.heap.size by omega) (.cells #[] 79)).trans (hb3.mono (by omega))
  have hs5 : W2.heap.size ≤ w3.heap.size := Nat.le_trans (by simp) hb3.size
  clear hown3 hgr3 hb3 b1 b2 b3 f1 f2 f3
  obtain ⟨b1, b2, b3⟩ := id BX5
  obtain ⟨f1, f2, f3⟩ := id CX5
  have N5 := ((((((((Only.refl g (g + 1 + 1) w3).setCell (o := 5) (Nat.le_refl _) (by omega) (.slice d4 ls.length e4)).setCell (b := g + 1) (o := 0) (by omega) (by omega) (.bool up)).setCell (b := g + 1) (o := 1) (by omega) (by omega) (.int .i64 i)).setCell (b := g + 1) (o := 2) (by omega) (by omega) (.slice d1 ps.length e1)).setCell (b := g + 1) (o := 3) (by omega) (by omega) (.slice d2 is.length e2)).setCell (b := g + 1) (o := 4) (by omega) (by omega) (.slice d3 ts.length e3)).setCell (b := g + 1) (o := 5) (by omega) (by omega) (.slice d4 ls.length e4))
  have D5 : Hid (NdAt (g + 1 + 1) w3.heap.size w3 (.slice d1 ps.length e1) (.slice d2 is.length e2) (.slice d3 ts.length e3) (.slice d4 ls.length e4) ps is ts ls) := toHid ⟨V5.wide (by omega) (by omega), T5.wide (by omega) (by omega), L5.wide (by omega) (Nat.le_refl _)⟩
  replace hk5 := toHid hk5
  replace N5 := toHid N5
  clear V5 T5 L5 BX5 CX5 BX4 CX4 V4 T4 hk4
  go_wp2
  refine bodyPost_ret (v := .agg #[.bool up, .int .i64 i, (.slice d1 ps.length e1), (.slice d2 is.length e2), (.slice d3 ts.length e3), (.slice d4 ls.length e4)]) (by simp [results, Tryz.results4, go_sem, f2]) rfl ?_
  have hz := N5.out.size
  rw [hgb]
  exact ⟨_, _, _, _, rfl, ((D5.out.only N5.out (.inr (Nat.le_refl _))).wide (by omega) (by omega)), hk5.out.trans N5.out.below⟩

end Go.Proofs.YtghamcomjfholaaGreat
