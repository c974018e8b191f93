
/-
  Contracts of package apart: copies of lists, of a view, of a node, in memory of their own.
-/
import Derived.Test.YtghamcomjfholaaRowBox
import Derived.Test.YtghamcomjfholaaOld
import Derived.Deep.RegionHeld3
import Derived.Deep.DeepCutAuto
import Derived.Deep.CutRange
import Derived.Deep.CutBlock
namespace Go.Proofs.Ytghamcomjfholaa
open Go.ChangeShapes Go.WideShapes Go.ChangeAt Go.RowKit

set_option maxHeartbeats 1000000 in
theorem aInts_any {lo hi : Nat} {w : World} {v : Value} {xs : List Int} (h : RowI lo hi w v xs) (_ : hi ≤ w.heap.size) (hb : xs.length * 8 ≤ 140737488355328) :
    Calls Try.prog 60 #[v] w fun e w' => ∃ a c, e = .returned (.slice a xs.length c) ∧ RowI w.heap.size w'.heap.size w' (.slice a xs.length c) xs ∧ Below w.heap.size w w' := by
  have H := toHid h
  obtain ⟨p, c, rfl, -⟩ := id h.cap
  clear h
  go_enter Try.func60, Try.ntmps60
  go_wp2_with (at_builtin; refine app_row rfl _ _ rfl w.heap.size (.slice none 0 0) 0 [] rfl ⟨rfl, .inl ⟨rfl, rfl⟩⟩ lo hi _ xs rfl H.out (by omega) (Nat.le_refl _) ?_; intro v' w' hown hgr hbel)
  have hR : RowI w.heap.size w'.heap.size w' v' xs := RowI.of_owns (by simpa using hown)
  obtain ⟨a, d, rfl, -⟩ := id hR.cap
  go_ret
  exact ⟨a, d, rfl, hR, hbel⟩

set_option maxHeartbeats 1000000 in
theorem aPeers_any {lo hi : Nat} {w : World} {v : Value} {xs : List Pe} (h : RowP lo hi w v xs) (_ : hi ≤ w.heap.size) (hb : xs.length * 16 ≤ 140737488355328) :
    Calls Try.prog 59 #[v] w fun e w' => ∃ a c, e = .returned (.slice a xs.length c) ∧ RowP w.heap.size w'.heap.size w' (.slice a xs.length c) xs ∧ Below w.heap.size w w' := by
  have H := toHid h
  obtain ⟨p, c, rfl, -⟩ := id h
  clear h
  go_enter Try.func59, Try.ntmps59
  go_wp2_with (at_builtin; refine app_rowP rfl _ _ rfl w.heap.size (.slice none 0 0) 0 [] rfl ⟨rfl, .inl ⟨rfl, rfl⟩⟩ lo hi _ xs rfl H.out (by omega) (Nat.le_refl _) ?_; intro v' w' hown hgr hbel)
  have hR : RowP w.heap.size w'.heap.size w' v' xs := RowC.of_owns (by decide) PeV_len (by simpa using hown)
  obtain ⟨a, d, rfl, -⟩ := id hR
  go_ret
  exact ⟨a, d, rfl, hR, hbel⟩

set_option maxHeartbeats 1000000 in
theorem aItems_any {lo hi : Nat} {w : World} {v : Value} {xs : List It} (h : RowT lo hi w v xs) (_ : hi ≤ w.heap.size) (hb : xs.length * 40 ≤ 140737488355328) :
    Calls Try.prog 36 #[v] w fun e w' => ∃ a c, e = .returned (.slice a xs.length c) ∧ RowT w.heap.size w'.heap.size w' (.slice a xs.length c) xs ∧ Below w.heap.size w w' := by
  have H := toHid h
  obtain ⟨p, c, rfl, -⟩ := id h
  clear h
  go_enter Try.func36, Try.ntmps36
  go_wp2_with (at_builtin; refine app_rowT rfl _ _ rfl w.heap.size (.slice none 0 0) 0 [] rfl ⟨rfl, .inl ⟨rfl, rfl⟩⟩ lo hi _ xs rfl H.out (by omega) (Nat.le_refl _) ?_; intro v' w' hown hgr hbel)
  have hR : RowT w.heap.size w'.heap.size w' v' xs := RowC.of_owns (by decide) ItV_len (by simpa using hown)
  obtain ⟨a, d, rfl, -⟩ := id hR
  go_ret
  exact ⟨a, d, rfl, hR, hbel⟩

set_option maxHeartbeats 1000000 in
theorem aTolds_any {lo hi : Nat} {w : World} {v : Value} {xs : List Te} (h : RowE lo hi w v xs) (_ : hi ≤ w.heap.size) (hb : xs.length * 24 ≤ 140737488355328) :
    Calls Try.prog 37 #[v] w fun e w' => ∃ a c, e = .returned (.slice a xs.length c) ∧ RowE w.heap.size w'.heap.size w' (.slice a xs.length c) xs ∧ Below w.heap.size w w' := by
  have H := toHid h
  obtain ⟨p, c, rfl, -⟩ := id h
  clear h
  go_enter Try.func37, Try.ntmps37
  go_wp2_with (at_builtin; refine app_rowE rfl _ _ rfl w.heap.size (.slice none 0 0) 0 [] rfl ⟨rfl, .inl ⟨rfl, rfl⟩⟩ lo hi _ xs rfl H.out (by omega) (Nat.le_refl _) ?_; intro v' w' hown hgr hbel)
  have hR : RowE w.heap.size w'.heap.size w' v' xs := RowC.of_owns (by decide) TeV_len (by simpa using hown)
  obtain ⟨a, d, rfl, -⟩ := id hR
  go_ret
  exact ⟨a, d, rfl, hR, hbel⟩

set_option maxHeartbeats 2000000 in
theorem aView_any {lo hi : Nat} {w : World} {p q : Value} {ps : List Pe} {is : List Int} (i : Int) (h : VwAt lo hi w p q ps is) (hh : hi ≤ w.heap.size)
    (h1 : ps.length * 16 ≤ 140737488355328) (h2 : is.length * 8 ≤ 140737488355328) :
    Calls Try.prog 35 #[.agg #[.int .i64 i, p, q]] w fun e w' => ∃ a1 c1 a2 c2, e = .returned (.agg #[.int .i64 i, .slice a1 ps.length c1, .slice a2 is.length c2]) ∧ VwAt w.heap.size w'.heap.size w' (.slice a1 ps.length c1) (.slice a2 is.length c2) ps is ∧ Below w.heap.size w w' := by
  have HP := toHid (fun (W : World) (hb : Below w.heap.size w W) => aPeers_any (h.ps.below hb hh) (Nat.le_trans hh hb.size) h1)
  have HI := toHid (fun (W : World) (hb : Below w.heap.size w W) => aInts_any (h.is.below hb hh) (Nat.le_trans hh hb.size) h2)
  obtain ⟨a, c, a', c', rfl, rfl, -, -⟩ := h.shape
  have BX := toHid ((Box.new w #[.int .i64 i, .slice a ps.length c, .slice a' is.length c'] 26).alloc (.cells #[.int .i64 0, .slice none 0 0, .slice none 0 0] 26))
  have BZ := toHid (Box.new1 w (.cells #[.int .i64 i, .slice a ps.length c, .slice a' is.length c'] 26) #[.int .i64 0, .slice none 0 0, .slice none 0 0] 26)
  have hk := toHid (((Below.refl _ w).onA (.cells #[.int .i64 i, .slice a ps.length c, .slice a' is.length c'] 26)).onA (.cells #[.int .i64 0, .slice none 0 0, .slice none 0 0] 26))
  have hz : w.heap.size + 1 < ((w.alloc (.cells #[.int .i64 i, .slice a ps.length c, .slice a' is.length c'] 26)).alloc (.cells #[.int .i64 0, .slice none 0 0, .slice none 0 0] 26)).heap.size := by simp
  clear h
  go_enter Try.func35, Try.ntmps35
  go_upto_region 1 with (fail)
  generalize (w.alloc (.cells #[.int .i64 i, .slice a ps.length c, .slice a' is.length c'] 26)).alloc (.cells #[.int .i64 0, .slice none 0 0, .slice none 0 0] 26) = W0 at BX BZ hk hz ⊢
  obtain ⟨b1, b2, b3⟩ := BX.out
  replace hk := toHid (hk.out.onD 1)
  replace BX := toHid (BX.out.drewN 1)
  replace BZ := toHid (BZ.out.drewN 1)
  have hy : W0.heap.size ≤ (W0.drewN 1).heap.size := Nat.le_refl _
  generalize hY : W0.heap.size = y at hy hz
  replace hY := toHid hY
  go_region_held3 (fun w' => ∀ o, w'.cell? ⟨w.heap.size, o, none⟩ = (#[.int .i64 i, .slice a ps.length c, .slice a' is.length c'] : Array Value)[o]?) (go_keep) (first
    | (go_at_call 59; refine (HP.out _ hk.out).mono ?_; rintro e wn ⟨a5, c5, rfl, NP, g5⟩
       replace NP := toHid (NP.wide hy (Nat.le_refl _))
       first | (replace NI := toHid ((NI.out.below g5 (Nat.le_refl _)).wide (Nat.le_refl _) g5.size)) | skip
       replace hk := toHid (hk.out.on g5)
       replace BX := toHid (BX.out.below g5)
       replace BZ := toHid (BZ.out.below g5)
       replace hy := Nat.le_trans hy g5.size
       clear b1 b2 b3 g5
       first | (clear z1 z2 z3) | skip
       obtain ⟨b1, b2, b3⟩ := BX.out
       obtain ⟨z1, z2, z3⟩ := BZ.out)
    | (go_at_call 60; refine (HI.out _ hk.out).mono ?_; rintro e wn ⟨a6, c6, rfl, NI, g6⟩
       replace NI := toHid (NI.wide hy (Nat.le_refl _))
       first | (replace NP := toHid ((NP.out.below g6 (Nat.le_refl _)).wide (Nat.le_refl _) g6.size)) | skip
       replace hk := toHid (hk.out.on g6)
       replace BX := toHid (BX.out.below g6)
       replace BZ := toHid (BZ.out.below g6)
       replace hy := Nat.le_trans hy g6.size
       clear b1 b2 b3 g6
       first | (clear z1 z2 z3) | skip
       obtain ⟨b1, b2, b3⟩ := BX.out
       obtain ⟨z1, z2, z3⟩ := BZ.out))
  all_goals
    have S5 := (((Only.refl (w.heap.size + 1) (w.heap.size + 1 + 1) wn).setCell (b := w.heap.size + 1) (o := 0) (by omega) (by omega) (.int .i64 i)).setCell (b := w.heap.size + 1) (o := 1) (by omega) (by omega) (.slice a5 ps.length c5)).setCell (b := w.heap.size + 1) (o := 2) (by omega) (by omega) (.slice a6 is.length c6)
    have hz5 := S5.size
    go_wp2
    refine bodyPost_ret (v := .agg #[.int .i64 i, .slice a5 ps.length c5, .slice a6 is.length c6]) (by simp [results, Try.results35, go_sem, z2]) rfl ?_
    exact ⟨_, _, _, _, rfl, ⟨(NP.out.only S5 (.inr (by omega))).wide (by omega) (by omega), (NI.out.only S5 (.inr (by omega))).wide (by omega) (by omega)⟩, hk.out.trans (S5.below.mono (by omega))⟩


set_option maxHeartbeats 4000000 in
theorem aNode_any {lo hi : Nat} {w : World} {p q r s : Value} {ps : List Pe} {is : List Int} {ts : List It} {ls : List Te} (up : Bool) (i : Int) (h : NdAt lo hi w p q r s ps is ts ls) (hh : hi ≤ w.heap.size)
    (h1 : ps.length * 16 ≤ 140737488355328) (h2 : is.length * 8 ≤ 140737488355328) (h3 : ts.length * 40 ≤ 140737488355328) (h4 : ls.length * 24 ≤ 140737488355328) :
    Calls Try.prog 20 #[.agg #[.bool up, .int .i64 i, p, q, r, s]] w fun e w' => ∃ a5 c5 a6 c6 a7 c7 a8 c8, e = .returned (.agg #[.bool up, .int .i64 i, .slice a5 ps.length c5, .slice a6 is.length c6, .slice a7 ts.length c7, .slice a8 ls.length c8]) ∧
      NdAt w.heap.size w'.heap.size w' (.slice a5 ps.length c5) (.slice a6 is.length c6) (.slice a7 ts.length c7) (.slice a8 ls.length c8) ps is ts ls ∧ Below w.heap.size w w' := by
  have HV := toHid (fun (W : World) (hb : Below w.heap.size w W) => aView_any i (h.below hb hh).vw (Nat.le_trans hh hb.size) h1 h2)
  have HT := toHid (fun (W : World) (hb : Below w.heap.size w W) => aItems_any (h.below hb hh).ts (Nat.le_trans hh hb.size) h3)
  have HE := toHid (fun (W : World) (hb : Below w.heap.size w W) => aTolds_any (h.below hb hh).ls (Nat.le_trans hh hb.size) h4)
  obtain ⟨a, c, a', c', a2, c2, a3, c3, rfl, rfl, rfl, rfl⟩ := h.shape
  have BX := toHid ((Box.new w #[.bool up, .int .i64 i, .slice a ps.length c, .slice a' is.length c', .slice a2 ts.length c2, .slice a3 ls.length c3] 30).alloc (.cells #[.bool false, .int .i64 0, .slice none 0 0, .slice none 0 0, .slice none 0 0, .slice none 0 0] 30))
  have BZ := toHid (Box.new1 w (.cells #[.bool up, .int .i64 i, .slice a ps.length c, .slice a' is.length c', .slice a2 ts.length c2, .slice a3 ls.length c3] 30) #[.bool false, .int .i64 0, .slice none 0 0, .slice none 0 0, .slice none 0 0, .slice none 0 0] 30)
  have hk := toHid (((Below.refl _ w).onA (.cells #[.bool up, .int .i64 i, .slice a ps.length c, .slice a' is.length c', .slice a2 ts.length c2, .slice a3 ls.length c3] 30)).onA (.cells #[.bool false, .int .i64 0, .slice none 0 0, .slice none 0 0, .slice none 0 0, .slice none 0 0] 30))
  have hz : w.heap.size + 1 < ((w.alloc (.cells #[.bool up, .int .i64 i, .slice a ps.length c, .slice a' is.length c', .slice a2 ts.length c2, .slice a3 ls.length c3] 30)).alloc (.cells #[.bool false, .int .i64 0, .slice none 0 0, .slice none 0 0, .slice none 0 0, .slice none 0 0] 30)).heap.size := by simp
  clear h
  go_enter Try.func20, Try.ntmps20
  go_upto_region 1 with (fail)
  generalize (w.alloc (.cells #[.bool up, .int .i64 i, .slice a ps.length c, .slice a' is.length c', .slice a2 ts.length c2, .slice a3 ls.length c3] 30)).alloc (.cells #[.bool false, .int .i64 0, .slice none 0 0, .slice none 0 0, .slice none 0 0, .slice none 0 0] 30) = W0 at BX BZ hk hz ⊢
  obtain ⟨b1, b2, b3⟩ := BX.out
  replace hk := toHid (hk.out.onD 1)
  replace BX := toHid (BX.out.drewN 1)
  replace BZ := toHid (BZ.out.drewN 1)
  have hy : W0.heap.size ≤ (W0.drewN 1).heap.size := Nat.le_refl _
  generalize hY : W0.heap.size = y at hy hz
  replace hY := toHid hY
  go_region_held3 (fun w' => ∀ o, w'.cell? ⟨w.heap.size, o, none⟩ = (#[.bool up, .int .i64 i, .slice a ps.length c, .slice a' is.length c', .slice a2 ts.length c2, .slice a3 ls.length c3] : Array Value)[o]?) (go_keep) (first
    | (go_at_call 35; refine (HV.out _ hk.out).mono ?_; rintro e wn ⟨a5, c5, a6, c6, rfl, NV, g5⟩
       replace NV := toHid (NV.wide hy (Nat.le_refl _))
       first | (replace NT := toHid ((NT.out.below g5 (Nat.le_refl _)).wide (Nat.le_refl _) g5.size)) | skip
       first | (replace NE := toHid ((NE.out.below g5 (Nat.le_refl _)).wide (Nat.le_refl _) g5.size)) | skip
       replace hk := toHid (hk.out.on g5)
       replace BX := toHid (BX.out.below g5)
       replace BZ := toHid (BZ.out.below g5)
       replace hy := Nat.le_trans hy g5.size
       clear b1 b2 b3 g5
       first | (clear z1 z2 z3) | skip
       obtain ⟨b1, b2, b3⟩ := BX.out
       obtain ⟨z1, z2, z3⟩ := BZ.out)
    | (go_at_call 36; refine (HT.out _ hk.out).mono ?_; rintro e wn ⟨a7, c7, rfl, NT, g5⟩
       replace NT := toHid (NT.wide hy (Nat.le_refl _))
       first | (replace NV := toHid ((NV.out.below g5 (Nat.le_refl _)).wide (Nat.le_refl _) g5.size)) | skip
       first | (replace NE := toHid ((NE.out.below g5 (Nat.le_refl _)).wide (Nat.le_refl _) g5.size)) | skip
       replace hk := toHid (hk.out.on g5)
       replace BX := toHid (BX.out.below g5)
       replace BZ := toHid (BZ.out.below g5)
       replace hy := Nat.le_trans hy g5.size
       clear b1 b2 b3 g5
       first | (clear z1 z2 z3) | skip
       obtain ⟨b1, b2, b3⟩ := BX.out
       obtain ⟨z1, z2, z3⟩ := BZ.out)
    | (go_at_call 37; refine (HE.out _ hk.out).mono ?_; rintro e wn ⟨a8, c8, rfl, NE, g5⟩
       replace NE := toHid (NE.wide hy (Nat.le_refl _))
       first | (replace NV := toHid ((NV.out.below g5 (Nat.le_refl _)).wide (Nat.le_refl _) g5.size)) | skip
       first | (replace NT := toHid ((NT.out.below g5 (Nat.le_refl _)).wide (Nat.le_refl _) g5.size)) | skip
       replace hk := toHid (hk.out.on g5)
       replace BX := toHid (BX.out.below g5)
       replace BZ := toHid (BZ.out.below g5)
       replace hy := Nat.le_trans hy g5.size
       clear b1 b2 b3 g5
       first | (clear z1 z2 z3) | skip
       obtain ⟨b1, b2, b3⟩ := BX.out
       obtain ⟨z1, z2, z3⟩ := BZ.out))
  all_goals
    have S5 := (((((((Only.refl (w.heap.size + 1) (w.heap.size + 1 + 1) wn).setCell (b := w.heap.size + 1) (o := 0) (by omega) (by omega) (.bool up)).setCell (b := w.heap.size + 1) (o := 1) (by omega) (by omega) (.int .i64 i)).setCell (b := w.heap.size + 1) (o := 2) (by omega) (by omega) (.slice a5 ps.length c5)).setCell (b := w.heap.size + 1) (o := 3) (by omega) (by omega) (.slice a6 is.length c6)).setCell (b := w.heap.size + 1) (o := 4) (by omega) (by omega) (.slice a7 ts.length c7)).setCell (b := w.heap.size + 1) (o := 5) (by omega) (by omega) (.slice a8 ls.length c8))
    have hz5 := S5.size
    go_wp2
    refine bodyPost_ret (v := .agg #[.bool up, .int .i64 i, .slice a5 ps.length c5, .slice a6 is.length c6, .slice a7 ts.length c7, .slice a8 ls.length c8]) (by simp [results, Try.results20, go_sem, z2]) rfl ?_
    exact ⟨_, _, _, _, _, _, _, _, rfl, ⟨⟨(NV.out.ps.only S5 (.inr (by omega))).wide (by omega) (by omega), (NV.out.is.only S5 (.inr (by omega))).wide (by omega) (by omega)⟩, (NT.out.only S5 (.inr (by omega))).wide (by omega) (by omega), (NE.out.only S5 (.inr (by omega))).wide (by omega) (by omega)⟩, hk.out.trans (S5.below.mono (by omega))⟩

end Go.Proofs.Ytghamcomjfholaa
