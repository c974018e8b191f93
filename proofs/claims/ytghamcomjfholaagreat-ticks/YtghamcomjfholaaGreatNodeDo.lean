
/-
  The document's own answers on nodes: another one with the same lists in new memory; may it be, and is it up.
-/
import Derived.Test.YtghamcomjfholaaGreatNodeMay
import Derived.Test.YtghamcomjfholaaGreatNodeCopy
namespace Go.Proofs.YtghamcomjfholaaGreat
open Go.ChangeShapes Go.WideShapes Go.ChangeAt Go.RowKit

set_option maxHeartbeats 4000000 in
theorem rCopyNode_any {lo hi : Nat} {w : World} {p q r s : Value} {ps : List Pe} {is : List Int} {ts : List It} {ls : List Te} (up : Bool) (i : Int) (h : NdAt lo hi w p q r s ps is ts ls) (hh : hi ≤ w.heap.size)
    (h1 : ps.length * 16 ≤ 140737488355328) (h2 : is.length * 8 ≤ 140737488355328) (h3 : ts.length * 40 ≤ 140737488355328) (h4 : ls.length * 24 ≤ 140737488355328) :
    Calls Tryz.prog 20 #[.agg #[.bool up, .int .i64 i, p, q, r, s]] w fun e w' => ∃ p' q' r' s', e = .returned (.agg #[.bool up, .int .i64 i, p', q', r', s']) ∧ NdAt w.heap.size w'.heap.size w' p' q' r' s' ps is ts ls ∧ Below w.heap.size w w' := by
  have R1 := toHid (fun (W : World) (hb : Below w.heap.size w W) => h.vw.ps.below hb hh)
  have R2 := toHid (fun (W : World) (hb : Below w.heap.size w W) => h.vw.is.below hb hh)
  have R3 := toHid (fun (W : World) (hb : Below w.heap.size w W) => h.ts.below hb hh)
  have R4 := toHid (fun (W : World) (hb : Below w.heap.size w W) => h.ls.below hb hh)
  obtain ⟨a, c, a', c', a2, c2, a3, c3, rfl, rfl, rfl, rfl⟩ := h.shape
  have BX0 := toHid ((Box.new w #[.bool up, .int .i64 i, .slice a ps.length c, .slice a' is.length c', .slice a2 ts.length c2, .slice a3 ls.length c3] 29).alloc (.cells #[.bool false, .int .i64 0, .slice none 0 0, .slice none 0 0, .slice none 0 0, .slice none 0 0] 29))
  have CX0 := toHid (Box.new1 w (.cells #[.bool up, .int .i64 i, .slice a ps.length c, .slice a' is.length c', .slice a2 ts.length c2, .slice a3 ls.length c3] 29) #[.bool false, .int .i64 0, .slice none 0 0, .slice none 0 0, .slice none 0 0, .slice none 0 0] 29)
  have hk0 := toHid (((Below.refl _ w).onA (.cells #[.bool up, .int .i64 i, .slice a ps.length c, .slice a' is.length c', .slice a2 ts.length c2, .slice a3 ls.length c3] 29)).onA (.cells #[.bool false, .int .i64 0, .slice none 0 0, .slice none 0 0, .slice none 0 0, .slice none 0 0] 29))
  have hW0 : w.heap.size + 1 < ((w.alloc (.cells #[.bool up, .int .i64 i, .slice a ps.length c, .slice a' is.length c', .slice a2 ts.length c2, .slice a3 ls.length c3] 29)).alloc (.cells #[.bool false, .int .i64 0, .slice none 0 0, .slice none 0 0, .slice none 0 0, .slice none 0 0] 29)).heap.size := by simp
  clear h
  go_enter Tryz.func20, Tryz.ntmps20
  go_upto_region 1 with (fail)
  generalize (w.alloc (.cells #[.bool up, .int .i64 i, .slice a ps.length c, .slice a' is.length c', .slice a2 ts.length c2, .slice a3 ls.length c3] 29)).alloc (.cells #[.bool false, .int .i64 0, .slice none 0 0, .slice none 0 0, .slice none 0 0, .slice none 0 0] 29) = W0 at BX0 CX0 hk0 hW0 ⊢
  generalize hgb : w.heap.size = g at *
  obtain ⟨b1, b2, b3⟩ := (BX0.out.alloc (.cells #[] 72))
  obtain ⟨f1, f2, f3⟩ := BX0.out
  go_wp2_with (at_builtin; refine app_rowP rfl (.tmp 3) (.tmp 6) rfl W0.heap.size (.slice (some ⟨W0.heap.size, 0, none⟩) 0 0) 0 [] rfl (lit_at (Nat.le_refl _) rfl) lo hi _ ps rfl ((R1.out _ hk0.out).alloc _ PeV_len) (by omega) (by simp) ?_)
  intro v w1 hown hgr hb
  have S1 : RowP W0.heap.size w1.heap.size w1 v ps := RowC.of_owns (by decide) PeV_len (by simpa using hown)
  obtain ⟨d1, e1, ev, -⟩ := S1.out
  subst ev
  have BY := (BX0.out.alloc (.cells #[] 72)).belowAt hb (by omega)
  have CY := (CX0.out.alloc (.cells #[] 72)).belowAt hb (by omega)
  have hkY := (hk0.out.alloc (show g ≤ W0.heap.size by omega) (.cells #[] 72)).trans (hb.mono (by omega))
  have hsY : W0.heap.size ≤ w1.heap.size := Nat.le_trans (by simp) hb.size
  clear hown hgr hb b1 b2 b3 f1 f2 f3
  obtain ⟨b1, b2, b3⟩ := id BY
  go_upto_region 2 with (fail)
  have NN := (Only.refl g (g + 1) w1).setCell (o := 2) (Nat.le_refl _) (Nat.lt_succ_self _) (.slice d1 ps.length e1)
  have BX1 := toHid (BY.setS (ys := #[.bool up, .int .i64 i, .slice d1 ps.length e1, .slice a' is.length c', .slice a2 ts.length c2, .slice a3 ls.length c3]) 2 (.slice d1 ps.length e1) (by simp) (by simp))
  have CX1 := toHid (CY.only NN (.inr (Nat.le_refl _)))
  have S1h := toHid (S1.only NN (.inr (by omega)))
  have hk1 := toHid (hkY.trans NN.below)
  have hs := NN.size
  clear NN BY CY S1 hkY b1 b2 b3 BX0 CX0 hk0 
  generalize w1.setCell ⟨g, 2, none⟩ (.slice d1 ps.length e1) = W1 at BX1 CX1 hk1 hs S1h ⊢
  have hW1 : g + 1 < W1.heap.size := by omega
  have hV1 : w1.heap.size ≤ W1.heap.size := by omega
  replace hs := toHid hs
  clear hs
  obtain ⟨b1, b2, b3⟩ := (BX1.out.alloc (.cells #[] 3))
  obtain ⟨f1, f2, f3⟩ := BX1.out
  go_wp2_with (at_builtin; refine app_row rfl (.tmp 10) (.tmp 13) rfl W1.heap.size (.slice (some ⟨W1.heap.size, 0, none⟩) 0 0) 0 [] rfl (lit_at (Nat.le_refl _) rfl) lo hi _ is rfl ((R2.out _ hk1.out).alloc _) (by omega) (by simp) ?_)
  intro v w2 hown hgr hb
  have S2 : RowI W1.heap.size w2.heap.size w2 v is := RowI.of_owns (by simpa using hown)
  obtain ⟨d2, e2, ev, -⟩ := S2.out
  subst ev
  have BY := (BX1.out.alloc (.cells #[] 3)).belowAt hb (by omega)
  have CY := (CX1.out.alloc (.cells #[] 3)).belowAt hb (by omega)
  have Q1 := (S1h.out.alloc (.cells #[] 3) PeV_len).below hb hV1
  have hkY := (hk1.out.alloc (show g ≤ W1.heap.size by omega) (.cells #[] 3)).trans (hb.mono (by omega))
  have hsY : W1.heap.size ≤ w2.heap.size := Nat.le_trans (by simp) hb.size
  clear hown hgr hb b1 b2 b3 f1 f2 f3
  obtain ⟨b1, b2, b3⟩ := id BY
  go_upto_region 3 with (fail)
  have NN := (Only.refl g (g + 1) w2).setCell (o := 3) (Nat.le_refl _) (Nat.lt_succ_self _) (.slice d2 is.length e2)
  have BX2 := toHid (BY.setS (ys := #[.bool up, .int .i64 i, .slice d1 ps.length e1, .slice d2 is.length e2, .slice a2 ts.length c2, .slice a3 ls.length c3]) 3 (.slice d2 is.length e2) (by simp) (by simp))
  have CX2 := toHid (CY.only NN (.inr (Nat.le_refl _)))
  replace S1h := toHid (Q1.only NN (.inr (by omega)))
  have S2h := toHid (S2.only NN (.inr (by omega)))
  have hk2 := toHid (hkY.trans NN.below)
  have hs := NN.size
  clear NN BY CY S2 hkY b1 b2 b3 BX1 CX1 hk1 Q1
  generalize w2.setCell ⟨g, 3, none⟩ (.slice d2 is.length e2) = W2 at BX2 CX2 hk2 hs S1h S2h ⊢
  have hW2 : g + 1 < W2.heap.size := by omega
  replace hV1 : w1.heap.size ≤ W2.heap.size := by omega
  have hV2 : w2.heap.size ≤ W2.heap.size := by omega
  replace hs := toHid hs
  clear hs
  obtain ⟨b1, b2, b3⟩ := (BX2.out.alloc (.cells #[] 56))
  obtain ⟨f1, f2, f3⟩ := BX2.out
  go_wp2_with (at_builtin; refine app_rowT rfl (.tmp 17) (.tmp 19) rfl W2.heap.size (.slice (some ⟨W2.heap.size, 0, none⟩) 0 0) 0 [] rfl (lit_at (Nat.le_refl _) rfl) lo hi _ ts rfl ((R3.out _ hk2.out).alloc _ ItV_len) (by omega) (by simp) ?_)
  intro v w3 hown hgr hb
  have S3 : RowT W2.heap.size w3.heap.size w3 v ts := RowC.of_owns (by decide) ItV_len (by simpa using hown)
  obtain ⟨d3, e3, ev, -⟩ := S3.out
  subst ev
  have BY := (BX2.out.alloc (.cells #[] 56)).belowAt hb (by omega)
  have CY := (CX2.out.alloc (.cells #[] 56)).belowAt hb (by omega)
  have Q1 := (S1h.out.alloc (.cells #[] 56) PeV_len).below hb hV1
  have Q2 := (S2h.out.alloc (.cells #[] 56)).below hb hV2
  have hkY := (hk2.out.alloc (show g ≤ W2.heap.size by omega) (.cells #[] 56)).trans (hb.mono (by omega))
  have hsY : W2.heap.size ≤ w3.heap.size := Nat.le_trans (by simp) hb.size
  clear hown hgr hb b1 b2 b3 f1 f2 f3
  obtain ⟨b1, b2, b3⟩ := id BY
  go_upto_region 4 with (fail)
  have NN := (Only.refl g (g + 1) w3).setCell (o := 4) (Nat.le_refl _) (Nat.lt_succ_self _) (.slice d3 ts.length e3)
  have BX3 := toHid (BY.setS (ys := #[.bool up, .int .i64 i, .slice d1 ps.length e1, .slice d2 is.length e2, .slice d3 ts.length e3, .slice a3 ls.length c3]) 4 (.slice d3 ts.length e3) (by simp) (by simp))
  have CX3 := toHid (CY.only NN (.inr (Nat.le_refl _)))
  replace S1h := toHid (Q1.only NN (.inr (by omega)))
  replace S2h := toHid (Q2.only NN (.inr (by omega)))
  have S3h := toHid (S3.only NN (.inr (by omega)))
  have hk3 := toHid (hkY.trans NN.below)
  have hs := NN.size
  clear NN BY CY S3 hkY b1 b2 b3 BX2 CX2 hk2 Q1 Q2
  generalize w3.setCell ⟨g, 4, none⟩ (.slice d3 ts.length e3) = W3 at BX3 CX3 hk3 hs S1h S2h S3h ⊢
  have hW3 : g + 1 < W3.heap.size := by omega
  replace hV1 : w1.heap.size ≤ W3.heap.size := by omega
  replace hV2 : w2.heap.size ≤ W3.heap.size := by omega
  have hV3 : w3.heap.size ≤ W3.heap.size := by omega
  replace hs := toHid hs
  clear hs
  obtain ⟨b1, b2, b3⟩ := (BX3.out.alloc (.cells #[] 79))
  obtain ⟨f1, f2, f3⟩ := BX3.out
  go_wp2_with (at_builtin; refine app_rowE rfl (.tmp 22) (.tmp 24) rfl W3.heap.size (.slice (some ⟨W3.heap.size, 0, none⟩) 0 0) 0 [] rfl (lit_at (Nat.le_refl _) rfl) lo hi _ ls rfl ((R4.out _ hk3.out).alloc _ TeV_len) (by omega) (by simp) ?_)
  intro v w4 hown hgr hb
  have S4 : RowE W3.heap.size w4.heap.size w4 v ls := RowC.of_owns (by decide) TeV_len (by simpa using hown)
  obtain ⟨d4, e4, ev, -⟩ := S4.out
  subst ev
  have BY := (BX3.out.alloc (.cells #[] 79)).belowAt hb (by omega)
  have CY := (CX3.out.alloc (.cells #[] 79)).belowAt hb (by omega)
  have Q1 := (S1h.out.alloc (.cells #[] 79) PeV_len).below hb hV1
  have Q2 := (S2h.out.alloc (.cells #[] 79)).below hb hV2
  have Q3 := (S3h.out.alloc (.cells #[] 79) ItV_len).below hb hV3
  have hkY := (hk3.out.alloc (show g ≤ W3.heap.size by omega) (.cells #[] 79)).trans (hb.mono (by omega))
  have hsY : W3.heap.size ≤ w4.heap.size := Nat.le_trans (by simp) hb.size
  clear hown hgr hb b1 b2 b3 f1 f2 f3
  obtain ⟨b1, b2, b3⟩ := id BY
  obtain ⟨f1, f2, f3⟩ := id CY
  have N5 := toHid ((((((((Only.refl g (g + 1 + 1) w4).setCell (o := 5) (Nat.le_refl _) (by omega) (.slice d4 ls.length e4)).setCell (b := g + 1) (o := 0) (by omega) (by omega) (.bool up)).setCell (b := g + 1) (o := 1) (by omega) (by omega) (.int .i64 i)).setCell (b := g + 1) (o := 2) (by omega) (by omega) (.slice d1 ps.length e1)).setCell (b := g + 1) (o := 3) (by omega) (by omega) (.slice d2 is.length e2)).setCell (b := g + 1) (o := 4) (by omega) (by omega) (.slice d3 ts.length e3)).setCell (b := g + 1) (o := 5) (by omega) (by omega) (.slice d4 ls.length e4))
  have D5 : Hid (NdAt (g + 1 + 1) w4.heap.size w4 (.slice d1 ps.length e1) (.slice d2 is.length e2) (.slice d3 ts.length e3) (.slice d4 ls.length e4) ps is ts ls) := toHid ⟨⟨Q1.wide (by omega) (by omega), Q2.wide (by omega) (by omega)⟩, Q3.wide (by omega) (by omega), S4.wide (by omega) (Nat.le_refl _)⟩
  replace hkY := toHid hkY
  clear Q1 Q2 Q3 S4 BY CY BX3 CX3 hk3 S1h S2h S3h
  go_wp2
  refine bodyPost_ret (v := .agg #[.bool up, .int .i64 i, .slice d1 ps.length e1, .slice d2 is.length e2, .slice d3 ts.length e3, .slice d4 ls.length e4]) (by simp [results, Tryz.results20, go_sem, f2]) rfl ?_
  have hz := N5.out.size
  rw [hgb]
  exact ⟨_, _, _, _, rfl, ((D5.out.only N5.out (.inr (Nat.le_refl _))).wide (by omega) (by omega)), hkY.out.trans N5.out.below⟩

set_option maxHeartbeats 2000000 in
theorem rUpMay_any {lo hi : Nat} {w : World} {p q r s : Value} {ps : List Pe} {is : List Int} {ts : List It} {ls : List Te} (up : Bool) (i : Int) (h : NdAt lo hi w p q r s ps is ts ls) (hh : hi ≤ w.heap.size)
    (h1 : ps.length * 16 ≤ 140737488351232) :
    Calls Tryz.prog 19 #[.agg #[.bool up, .int .i64 i, p, q, r, s]] w fun e w' => e = .returned (.bool (up && ndB ⟨up, i, ps, is, ts, ls⟩)) ∧ Below w.heap.size w w' := by
  cases up with
  | true =>
    have HM := fun o : Obj => rNodeMay_up i (h.alloc o) (Nat.le_trans hh (by simp)) h1
    obtain ⟨a, c, a', c', a2, c2, a3, c3, rfl, rfl, rfl, rfl⟩ := h.shape
    generalize ndB ⟨true, i, ps, is, ts, ls⟩ = b at *
    replace HM := toHid HM
    clear h
    go_enter Tryz.func19, Tryz.ntmps19
    go_wp2_with (go_at_call 46; refine (HM.out _).mono ?_; rintro e w1 ⟨rfl, hb1⟩)
    go_ret
    exact ⟨by simp, ((Below.refl _ w).onA _).on hb1⟩
  | false =>
    obtain ⟨a, c, a', c', a2, c2, a3, c3, rfl, rfl, rfl, rfl⟩ := h.shape
    clear h
    go_enter Tryz.func19, Tryz.ntmps19
    go_wp2
    go_ret
    exact ⟨rfl, (Below.refl _ w).onA _⟩

end Go.Proofs.YtghamcomjfholaaGreat
