
/-
  The contract of package tick: a node's turn, at every node: what it returns, and that no old memory has turned.
-/
import Derived.Test.YtghamcomjfholaaTickA
import Derived.Test.YtghamcomjfholaaNodeB
import Derived.Test.YtghamcomjfholaaShareA
import Derived.Test.YtghamcomjfholaaAgeB
import Derived.Test.YtghamcomjfholaaApart
import Derived.Test.YtghamcomjfholaaGiven
namespace Go.Proofs.Ytghamcomjfholaa
open Go.ChangeShapes Go.WideShapes Go.ChangeAt Go.RowKit

/-- How long the lists of a node that is up can be. -/
theorem nd_lens {n : Nd} (hu : n.up = true) (h : ndB n = true) : n.ps.length + n.is.length ≤ 16 ∧ n.ts.length ≤ 16 ∧ n.ls.length ≤ 64 := by
  have h2 := h
  rw [ndB, if_pos hu] at h2
  simp only [Bool.and_eq_true, decide_eq_true_eq] at h2
  exact ⟨(vwB_iff.1 (nd_vw hu h)).2.2.1, (stB_iff.1 (nd_st hu h)).2.2, h2.2.2.2⟩

/-- Messages of one's own put behind messages of one's own, in a region that draws its order. -/
theorem step_msgsO {ops : Array Oper} {o : Oper} {a : Act} {w : World} {K : Act → World → Prop} {Q : Exit → Act → World → Prop} {E : Prop} (hg : o.guard = none) (s x : Operand)
    (hop : o.op = .call { callee := .builtin .append, args := #[s, x], argTypes := #[37, 37] }) (base : Nat) (v u : Value) (ms ns : List Mg) (hs : a.eval s = v)
    (hown : OwnM base w v ms) (hx : a.eval x = u) (hu : OwnM base w u ns) (hb : (ms.length + ns.length) * 104 ≤ 140737488355328) (hbase : base ≤ w.heap.size)
    (hK : ∀ v' w', OwnM base w' v' (ms ++ ns) → Below base w w' → K (a.put o.dst v') w') :
    if Region.wanted o (yielded ops a.tmps) = true then Oper.wp Try.prog o a w K Q else E := by
  by_cases hne : 0 < ns.length
  · obtain ⟨g, c, xs, rfl, hc, h1, h2, h3, h4, h5⟩ := hu.at hne
    have hl : xs.length = ns.length := by rw [← h3, List.length_map]
    refine step_msgs hg s x hop base v ms hs hown ⟨g, 0, none⟩ ns.length c xs hx hl (fun j hj => ?_) h5 hb hbase ?_
    · rw [add_plain, Nat.zero_add]
      exact h4 j hj
    · intro v' w' o' hb'
      exact hK v' w' (by rw [← h3]; exact o') hb'
  · have e : ns = [] := List.eq_nil_of_length_eq_zero (by omega)
    subst e
    obtain ⟨xs, e, r, f⟩ := hu
    rcases r.2 with ⟨rfl, -⟩ | ⟨g, c, cur, rfl, -⟩
    · obtain ⟨i0, hi0, hz0, hz1, hz2⟩ := info_parts Try.infoMsg
      obtain ⟨ys, e2, r2, f2⟩ := hown
      have hw : Region.wanted o (yielded ops a.tmps) = true := by simp [Region.wanted, hg]
      rw [if_pos hw]
      have hrun := run_append_owned_none (P := Try.prog) (w := w) base 37 o.type 48 i0 11 Try.underlying37 hi0 v ms.length _ r2
      unfold Oper.wp
      simp [execOp, hop, resolve, invoke, builtin, hs, hx, hrun, Result.andThen]
      exact hK v w (by rw [List.append_nil]; exact ⟨ys, e2, r2, f2⟩) (Below.refl _ _)
    · refine step_msgs hg s x hop base v ms hs hown ⟨g, 0, none⟩ 0 c [] hx rfl (fun j hj => absurd hj (by omega)) (fun y hy => by cases hy) hb hbase ?_
      intro v' w' o' hb'
      exact hK v' w' o' hb'

section
variable {lo hi : Nat} {w : World} {p q r s : Value} {ps : List Pe} {is : List Int} {ts : List It} {ls : List Te}

set_option maxRecDepth 20000 in
set_option maxHeartbeats 2000000 in
theorem tStep_no (up : Bool) (i : Int) (h : NdAt lo hi w p q r s ps is ts ls) (hh : hi ≤ w.heap.size) (hno : (up && ndB ⟨up, i, ps, is, ts, ls⟩) = false) :
    Calls Try.prog 10 #[.agg #[.bool up, .int .i64 i, p, q, r, s]] w fun e w' => e = .returned (.tuple #[.agg #[.bool false, .int .i64 0, .slice none 0 0, .slice none 0 0, .slice none 0 0, .slice none 0 0], .slice none 0 0, .int .i64 1900]) ∧ Below w.heap.size w w' := by
  have HU := toHid (fun o o' : Obj => nMay_any up i ((h.alloc o).alloc o') (Nat.le_trans hh (by simp; omega)))
  obtain ⟨a, c, a', c', a2, c2, a3, c3, rfl, rfl, rfl, rfl⟩ := h.shape
  have BX := toHid ((Box.new w #[.bool up, .int .i64 i, .slice a ps.length c, .slice a' is.length c', .slice a2 ts.length c2, .slice a3 ls.length c3] 30).alloc (.cells #[.bool false, .int .i64 0, .slice none 0 0, .slice none 0 0, .slice none 0 0, .slice none 0 0] 30))
  have BZ := toHid (Box.new1 w (.cells #[.bool up, .int .i64 i, .slice a ps.length c, .slice a' is.length c', .slice a2 ts.length c2, .slice a3 ls.length c3] 30) #[.bool false, .int .i64 0, .slice none 0 0, .slice none 0 0, .slice none 0 0, .slice none 0 0] 30)
  clear h
  generalize ndB ⟨up, i, ps, is, ts, ls⟩ = n at *
  cases n with
  | false =>
    clear hno
    go_enter Try.func10, Try.ntmps10
    go_wp2_with (first
      | (go_at_call 19; refine (HU.out _ _).mono ?_; rintro e w1 ⟨rfl, g1⟩
         have hk1 := toHid ((((Below.refl _ w).onA _).onA _).on g1)
         obtain ⟨x1, x2, x3⟩ := BX.out.below g1
         obtain ⟨z1, z2, z3⟩ := BZ.out.below g1))
    have S5 := (((((((Only.refl (w.heap.size + 1) (w.heap.size + 1 + 1) w1).setCell (b := w.heap.size + 1) (o := 0) (by omega) (by omega) (.bool false)).setCell (b := w.heap.size + 1) (o := 1) (by omega) (by omega) (.int .i64 0)).setCell (b := w.heap.size + 1) (o := 2) (by omega) (by omega) (.slice none 0 0)).setCell (b := w.heap.size + 1) (o := 3) (by omega) (by omega) (.slice none 0 0)).setCell (b := w.heap.size + 1) (o := 4) (by omega) (by omega) (.slice none 0 0)).setCell (b := w.heap.size + 1) (o := 5) (by omega) (by omega) (.slice none 0 0))
    refine bodyPost_ret (v := .tuple #[.agg #[.bool false, .int .i64 0, .slice none 0 0, .slice none 0 0, .slice none 0 0, .slice none 0 0], .slice none 0 0, .int .i64 1900]) (by simp [results, Try.results10, go_sem, z2]) rfl ?_
    exact ⟨rfl, hk1.out.trans (S5.below.mono (by omega))⟩
  | true =>
    obtain rfl : up = false := by simpa using hno
    clear hno
    go_enter Try.func10, Try.ntmps10
    go_wp2_with (first
      | (go_at_call 19; refine (HU.out _ _).mono ?_; rintro e w1 ⟨rfl, g1⟩
         have hk1 := toHid ((((Below.refl _ w).onA _).onA _).on g1)
         obtain ⟨x1, x2, x3⟩ := BX.out.below g1
         obtain ⟨z1, z2, z3⟩ := BZ.out.below g1))
    have S5 := (((((((Only.refl (w.heap.size + 1) (w.heap.size + 1 + 1) w1).setCell (b := w.heap.size + 1) (o := 0) (by omega) (by omega) (.bool false)).setCell (b := w.heap.size + 1) (o := 1) (by omega) (by omega) (.int .i64 0)).setCell (b := w.heap.size + 1) (o := 2) (by omega) (by omega) (.slice none 0 0)).setCell (b := w.heap.size + 1) (o := 3) (by omega) (by omega) (.slice none 0 0)).setCell (b := w.heap.size + 1) (o := 4) (by omega) (by omega) (.slice none 0 0)).setCell (b := w.heap.size + 1) (o := 5) (by omega) (by omega) (.slice none 0 0))
    refine bodyPost_ret (v := .tuple #[.agg #[.bool false, .int .i64 0, .slice none 0 0, .slice none 0 0, .slice none 0 0, .slice none 0 0], .slice none 0 0, .int .i64 1900]) (by simp [results, Try.results10, go_sem, z2]) rfl ?_
    exact ⟨rfl, hk1.out.trans (S5.below.mono (by omega))⟩

set_option maxRecDepth 20000 in
set_option maxHeartbeats 8000000 in
theorem tStep_up (i : Int) (h : NdAt lo hi w p q r s ps is ts ls) (hh : hi ≤ w.heap.size) (hok : ndB ⟨true, i, ps, is, ts, ls⟩ = true) :
    Calls Try.prog 10 #[.agg #[.bool true, .int .i64 i, p, q, r, s]] w fun e w' => ∃ v u m, e = .returned (.tuple #[v, u, .int .i64 0]) ∧
      NdV w.heap.size m w' v ⟨true, i, (tkS (ps, is)).1, (tkS (ps, is)).2, ts, ls⟩ ∧ OwnM m w' u (hiL i (nmL (tkS (ps, is)).1) (tkG (ps, is)) ++ shL i (tkS (ps, is)).1 (tkS (ps, is)).2 ts) ∧ w.heap.size ≤ m ∧ m ≤ w'.heap.size ∧ Below w.heap.size w w' := by
  have hv := nd_vw (n := ⟨true, i, ps, is, ts, ls⟩) rfl hok
  obtain ⟨k1, k2, k3, k4⟩ := tk_yes (s := (ps, is)) hv
  have hok2 := ti_ok hok
  have hgl : (tkG (ps, is)).length ≤ 16 := by rw [tkG_len (s := (ps, is)) hv]; exact (vwB_iff.1 hv).2.2.1
  have hvl : (tkS (ps, is)).1.length ≤ 16 := by
    have := (vwB_iff.1 (nd_vw (n := ⟨true, i, (tkS (ps, is)).1, (tkS (ps, is)).2, ts, ls⟩) rfl hok2)).2.2.1
    dsimp only at this
    omega
  obtain ⟨l1, l2, l3⟩ := nd_lens (n := ⟨true, i, ps, is, ts, ls⟩) rfl hok
  dsimp only at l1 l2 l3
  have HU := toHid (fun (W : World) (hb : Below w.heap.size w W) => nMay_any true i (h.below hb hh) (Nat.le_trans hh hb.size))
  rw [hok] at HU
  have HC := toHid (fun (W : World) (hb : Below w.heap.size w W) => aNode_any true i (h.below hb hh) (Nat.le_trans hh hb.size) (by omega) (by omega) (by omega) (by omega))
  have HA := toHid (fun (W : World) (hb : Below w.heap.size w W) => aTick_any i (h.below hb hh).vw (Nat.le_trans hh hb.size))
  rw [k1, k2, k3, k4] at HA
  generalize (tkS (ps, is)).1 = V1 at *
  generalize (tkS (ps, is)).2 = V2 at *
  generalize tkG (ps, is) = gs at *
  obtain ⟨a, c, a', c', a2, c2, a3, c3, rfl, rfl, rfl, rfl⟩ := h.shape
  have BX := toHid ((Box.new w #[.bool true, .int .i64 i, .slice a ps.length c, .slice a' is.length c', .slice a2 ts.length c2, .slice a3 ls.length c3] 30).alloc (.cells #[.bool false, .int .i64 0, .slice none 0 0, .slice none 0 0, .slice none 0 0, .slice none 0 0] 30))
  have BZ := toHid (Box.new1 w (.cells #[.bool true, .int .i64 i, .slice a ps.length c, .slice a' is.length c', .slice a2 ts.length c2, .slice a3 ls.length c3] 30) #[.bool false, .int .i64 0, .slice none 0 0, .slice none 0 0, .slice none 0 0, .slice none 0 0] 30)
  have hb0 := toHid (((Below.refl _ w).onA (.cells #[.bool true, .int .i64 i, .slice a ps.length c, .slice a' is.length c', .slice a2 ts.length c2, .slice a3 ls.length c3] 30)).onA (.cells #[.bool false, .int .i64 0, .slice none 0 0, .slice none 0 0, .slice none 0 0, .slice none 0 0] 30))
  clear h hok k1 k2 k3 k4 hv
  go_enter Try.func10, Try.ntmps10
  go_upto_region 1 with (fail)
  generalize (w.alloc (.cells #[.bool true, .int .i64 i, .slice a ps.length c, .slice a' is.length c', .slice a2 ts.length c2, .slice a3 ls.length c3] 30)).alloc (.cells #[.bool false, .int .i64 0, .slice none 0 0, .slice none 0 0, .slice none 0 0, .slice none 0 0] 30) = W0 at BX BZ hb0 ⊢
  have z0 : Hid (w.heap.size + 1 < W0.heap.size) := toHid BZ.out.1
  obtain ⟨x1, x2, x3⟩ := BX.out
  go_upto_region 5 with (first
    | (go_at_call 19; refine (HU.out _ hb0.out).mono ?_; rintro e w1 ⟨rfl, g1⟩
       have hk1 := toHid (hb0.out.on g1)
       have BX1 := toHid (BX.out.below g1)
       have BZ1 := toHid (BZ.out.below g1)
       have y1 : Hid (W0.heap.size ≤ w1.heap.size) := toHid g1.size
       clear x1 x2 x3 g1 BX BZ hb0
       obtain ⟨x1, x2, x3⟩ := BX1.out)
    | (go_at_call 20; refine (HC.out _ hk1.out).mono ?_; rintro e w2 ⟨b1, d1, b2, d2, b3, d3, b4, d4, rfl, N5, g2⟩
       have N5h := toHid (fun o : Obj => N5.alloc o)
       have AN := toHid (fun (cs : Array Value) (t : TypeId) => Box.new w2 cs t)
       have hk2 := toHid (hk1.out.on g2)
       have BX2 := toHid (fun o : Obj => (BX1.out.below g2).alloc o)
       have BZ2 := toHid (BZ1.out.below g2)
       have y2 : Hid (W0.heap.size ≤ w2.heap.size) := toHid (Nat.le_trans y1.out g2.size)
       clear x1 x2 x3 g2 BX1 BZ1 hk1 N5
       obtain ⟨x1, x2, x3⟩ := BX2.out (.cells #[.bool true, .int .i64 i, .slice b1 ps.length d1, .slice b2 is.length d2, .slice b3 ts.length d3, .slice b4 ls.length d4] 30))
    | (go_at_call 21; refine (HA.out _ (hk2.out.onA _)).mono ?_; rintro e w3 ⟨p6, q6, gv, rfl, VG, g3⟩
       obtain ⟨e1, f1, e2, f2, rfl, rfl, -, -⟩ := id VG.vw.at.shape
       obtain ⟨gp, gc, rfl, -⟩ := id VG.row
       have N3 := toHid ((N5h.out _).below g3 (by simp))
       have A3 := toHid ((AN.out _ _).below g3)
       have BZ3 := toHid ((BZ2.out.alloc _).below g3)
       have hk3 := toHid ((hk2.out.onA _).on g3)
       have y3 : Hid (W0.heap.size ≤ w2.heap.size) := y2
       have y1' : Hid (W0.heap.size ≤ w1.heap.size) := y1
       have y4 : Hid (w2.heap.size + 1 ≤ w3.heap.size) := toHid (Nat.le_trans (by simp) g3.size)
       have VW := toHid (VG.vw.at)
       have RG := toHid VG.row
       simp only [World.size_alloc] at VW RG
       clear x1 x2 x3 g3 N5h AN BX2 BZ2 hk2 VG
       obtain ⟨n1, n2, n3⟩ := A3.out))
  have n1' := y4.out
  have zw := z0.out
  have zv := y3.out
  have ON := ((Only.refl w2.heap.size (w2.heap.size + 1) w3).setCell (o := 1) (Nat.le_refl _) (Nat.lt_succ_self _) (.int .i64 i)).setCell (o := 2) (Nat.le_refl _) (Nat.lt_succ_self _) (.slice e1 V1.length f1)
  replace ON := ON.setCell (o := 3) (Nat.le_refl _) (Nat.lt_succ_self _) (.slice e2 V2.length f2)
  have A4 := (((A3.out.setS (ys := #[.bool true, .int .i64 i, .slice b1 ps.length d1, .slice b2 is.length d2, .slice b3 ts.length d3, .slice b4 ls.length d4]) 1 (.int .i64 i) (by simp) (by simp)).setS (ys := #[.bool true, .int .i64 i, .slice e1 V1.length f1, .slice b2 is.length d2, .slice b3 ts.length d3, .slice b4 ls.length d4]) 2 (.slice e1 V1.length f1) (by simp) (by simp)).setS (ys := #[.bool true, .int .i64 i, .slice e1 V1.length f1, .slice e2 V2.length f2, .slice b3 ts.length d3, .slice b4 ls.length d4]) 3 (.slice e2 V2.length f2) (by simp) (by simp)).alloc (.cells #[.int .i64 i, .slice e1 V1.length f1, .slice e2 V2.length f2] 26)
  have VB4 := Box.newAt #[.int .i64 i, .slice e1 V1.length f1, .slice e2 V2.length f2] 26 ON.size.symm
  have BZ4 := (BZ3.out.only2 ON (.inl (by omega))).alloc (.cells #[.int .i64 i, .slice e1 V1.length f1, .slice e2 V2.length f2] 26)
  have V4 : VwAt (w2.heap.size + 1) w3.heap.size _ (.slice e1 V1.length f1) (.slice e2 V2.length f2) V1 V2 := ⟨(VW.out.ps.only ON (.inr (Nat.le_refl _))).alloc (.cells #[.int .i64 i, .slice e1 V1.length f1, .slice e2 V2.length f2] 26) PeV_len, (VW.out.is.only ON (.inr (Nat.le_refl _))).alloc (.cells #[.int .i64 i, .slice e1 V1.length f1, .slice e2 V2.length f2] 26)⟩
  have G4 := (RG.out.only ON (.inr (Nat.le_refl _))).alloc (.cells #[.int .i64 i, .slice e1 V1.length f1, .slice e2 V2.length f2] 26)
  have N4 := (N3.out.only ON (.inl (Nat.le_refl _))).alloc (.cells #[.int .i64 i, .slice e1 V1.length f1, .slice e2 V2.length f2] 26)
  have hk4 := (hk3.out.trans (ON.below.mono (by omega))).onA (.cells #[.int .i64 i, .slice e1 V1.length f1, .slice e2 V2.length f2] 26)
  have z4 : w3.heap.size < _ := VB4.1
  go_upto_region 6 with (fail)
  generalize (((w3.setCell ⟨w2.heap.size, 1, none⟩ (.int .i64 i)).setCell ⟨w2.heap.size, 2, none⟩ (.slice e1 V1.length f1)).setCell ⟨w2.heap.size, 3, none⟩ (.slice e2 V2.length f2)).alloc (.cells #[.int .i64 i, .slice e1 V1.length f1, .slice e2 V2.length f2] 26) = W4 at A4 VB4 BZ4 V4 G4 N4 hk4 z4 ⊢
  clear ON n1 n2 n3 A3 BZ3 VW RG N3 hk3
  have NO : NdAt W0.heap.size W4.heap.size W4 (.slice e1 V1.length f1) (.slice e2 V2.length f2) (.slice b3 ts.length d3) (.slice b4 ls.length d4) V1 V2 ts ls := ⟨⟨V4.ps.wide (by omega) (by omega), V4.is.wide (by omega) (by omega)⟩, N4.ts.wide y1'.out (by omega), N4.ls.wide y1'.out (by omega)⟩
  have hsm := shL_len i V1 V2 ts
  have HS := toHid (sOf_up i NO (Nat.le_refl _) hok2)
  replace A4 := toHid A4
  replace VB4 := toHid VB4
  replace BZ4 := toHid BZ4
  replace V4 := toHid V4
  replace G4 := toHid G4
  replace NO := toHid NO
  replace hk4 := toHid hk4
  clear N4
  obtain ⟨a1, a2', a3'⟩ := A4.out
  go_upto_region 7 with (go_at_call 22; refine HS.out.mono ?_; rintro e w5 ⟨v7, rfl, o7, g5⟩)
  obtain ⟨p7, c7, rfl⟩ := o7.cap
  clear a1 a2' a3' HS
  have A5 := toHid (A4.out.below g5)
  have VB5 := toHid (VB4.out.below g5)
  have BZ5 := toHid (BZ4.out.below g5)
  have V5 := toHid (V4.out.below g5 (Nat.le_of_lt z4))
  have G5 := toHid (G4.out.below g5 (Nat.le_of_lt z4))
  have NO5 := toHid (NO.out.below g5 (Nat.le_refl _))
  have hk5 := toHid (hk4.out.on g5)
  have hs5 : W4.heap.size ≤ w5.heap.size := g5.size
  replace o7 := toHid o7
  clear A4 VB4 BZ4 V4 G4 NO hk4 g5
  have hgm : (hiL i (nmL V1) gs).length ≤ 16 := by simp [hiL]; omega
  have S6 : Hid (∀ W : World, Only (w.heap.size + 1) (w.heap.size + 1 + 1) W ((((((W.setCell ⟨w.heap.size + 1, 0, none⟩ (.bool true)).setCell ⟨w.heap.size + 1, 1, none⟩ (.int .i64 i)).setCell ⟨w.heap.size + 1, 2, none⟩ (.slice e1 V1.length f1)).setCell ⟨w.heap.size + 1, 3, none⟩ (.slice e2 V2.length f2)).setCell ⟨w.heap.size + 1, 4, none⟩ (.slice b3 ts.length d3)).setCell ⟨w.heap.size + 1, 5, none⟩ (.slice b4 ls.length d4))) := toHid (fun W =>
    ((((((Only.refl (w.heap.size + 1) (w.heap.size + 1 + 1) W).setCell (b := w.heap.size + 1) (o := 0) (by omega) (by omega) (.bool true)).setCell (b := w.heap.size + 1) (o := 1) (by omega) (by omega) (.int .i64 i)).setCell (b := w.heap.size + 1) (o := 2) (by omega) (by omega) (.slice e1 V1.length f1)).setCell (b := w.heap.size + 1) (o := 3) (by omega) (by omega) (.slice e2 V2.length f2)).setCell (b := w.heap.size + 1) (o := 4) (by omega) (by omega) (.slice b3 ts.length d3)).setCell (b := w.heap.size + 1) (o := 5) (by omega) (by omega) (.slice b4 ls.length d4))
  have L6 : Hid (∀ (W : World) (v : Value) (ms : List Mg), OwnM W4.heap.size W v ms → OwnM W4.heap.size ((((((W.setCell ⟨w.heap.size + 1, 0, none⟩ (.bool true)).setCell ⟨w.heap.size + 1, 1, none⟩ (.int .i64 i)).setCell ⟨w.heap.size + 1, 2, none⟩ (.slice e1 V1.length f1)).setCell ⟨w.heap.size + 1, 3, none⟩ (.slice e2 V2.length f2)).setCell ⟨w.heap.size + 1, 4, none⟩ (.slice b3 ts.length d3)).setCell ⟨w.heap.size + 1, 5, none⟩ (.slice b4 ls.length d4)) v ms) := toHid (fun W v ms o =>
    (((((o.setLow (b := w.heap.size + 1) (by omega) 0 (.bool true)).setLow (b := w.heap.size + 1) (by omega) 1 (.int .i64 i)).setLow (b := w.heap.size + 1) (by omega) 2 (.slice e1 V1.length f1)).setLow (b := w.heap.size + 1) (by omega) 3 (.slice e2 V2.length f2)).setLow (b := w.heap.size + 1) (by omega) 4 (.slice b3 ts.length d3)).setLow (b := w.heap.size + 1) (by omega) 5 (.slice b4 ls.length d4))
  have X6 : Hid (∀ W : World, Box W (w.heap.size + 1) #[.bool false, .int .i64 0, .slice none 0 0, .slice none 0 0, .slice none 0 0, .slice none 0 0] → Box ((((((W.setCell ⟨w.heap.size + 1, 0, none⟩ (.bool true)).setCell ⟨w.heap.size + 1, 1, none⟩ (.int .i64 i)).setCell ⟨w.heap.size + 1, 2, none⟩ (.slice e1 V1.length f1)).setCell ⟨w.heap.size + 1, 3, none⟩ (.slice e2 V2.length f2)).setCell ⟨w.heap.size + 1, 4, none⟩ (.slice b3 ts.length d3)).setCell ⟨w.heap.size + 1, 5, none⟩ (.slice b4 ls.length d4)) (w.heap.size + 1) #[.bool true, .int .i64 i, .slice e1 V1.length f1, .slice e2 V2.length f2, .slice b3 ts.length d3, .slice b4 ls.length d4]) := toHid (fun W h => (h.set6 (.bool true) (.int .i64 i) (.slice e1 V1.length f1) (.slice e2 V2.length f2) (.slice b3 ts.length d3) (.slice b4 ls.length d4)).1)
  have HH := toHid (fun (W : World) (hS : Only (w.heap.size + 1) (w.heap.size + 1 + 1) (w5.drewN 1) W) => tHellos_any i (lo := w2.heap.size + 1) (hi := w3.heap.size) ⟨(V5.out.drewN 1).ps.only hS (.inr (by omega)), (V5.out.drewN 1).is.only hS (.inr (by omega))⟩ (by rw [hS.size]; simpa using (by omega : w3.heap.size ≤ w5.heap.size)) ((G5.out.drewN 1).only hS (.inr (by omega))) (by rw [hS.size]; simpa using (by omega : w3.heap.size ≤ w5.heap.size)) hvl hgl)
  have zW : Hid (∀ W : World, Only (w.heap.size + 1) (w.heap.size + 1 + 1) (w5.drewN 1) W → W4.heap.size ≤ W.heap.size) := toHid (fun W hS => by rw [hS.size]; simpa using hs5)
  have AD : Hid (∀ W : World, Only (w.heap.size + 1) (w.heap.size + 1 + 1) (w5.drewN 1) W → Box W w2.heap.size #[.bool true, .int .i64 i, .slice e1 V1.length f1, .slice e2 V2.length f2, .slice b3 ts.length d3, .slice b4 ls.length d4]) := toHid (fun W hS => (A5.out.drewN 1).only2 hS (.inr (by omega)))
  have ND : Hid (∀ W : World, Only (w.heap.size + 1) (w.heap.size + 1 + 1) (w5.drewN 1) W → NdAt W0.heap.size W4.heap.size W (.slice e1 V1.length f1) (.slice e2 V2.length f2) (.slice b3 ts.length d3) (.slice b4 ls.length d4) V1 V2 ts ls) := toHid (fun W hS => (NO5.out.drewN 1).only hS (.inr (by omega)))
  have KD : Hid (∀ W : World, Only (w.heap.size + 1) (w.heap.size + 1 + 1) (w5.drewN 1) W → Below w.heap.size w W) := toHid (fun W hS => (hk5.out.onD 1).trans (hS.below.mono (by omega)))
  have ZD := toHid (BZ5.out.drewN 1)
  have OD := toHid (o7.out.below ((Below.refl _ w5).onD 1))
  have hszw : w.heap.size ≤ W4.heap.size := by omega
  have hszw1 : w.heap.size + 1 < W4.heap.size := by omega
  obtain ⟨a1, a2', a3'⟩ := A5.out
  obtain ⟨r1, r2, r3⟩ := VB5.out
  obtain ⟨z1, z2, z3⟩ := BZ5.out
  go_region_law (first
    | (refine step_call rfl (F := 23) (args := #[.agg #[.int .i64 i, .slice e1 V1.length f1, .slice e2 V2.length f2], .slice gp gs.length gc]) (by first | (go_simp; done) | (go_simp; rfl)) (HH.out _ (by first | exact Only.refl _ _ _ | exact S6.out _)) ?_
       rintro e w9 ⟨u9, rfl, own9, g9⟩
       obtain ⟨q9, d9, rfl⟩ := own9.cap
       refine ⟨_, rfl, ?_⟩
       first
         | (have hS := Only.refl (w.heap.size + 1) (w.heap.size + 1 + 1) (w5.drewN 1)
            have Z9 := toHid (ZD.out.below g9)
            have P9 := toHid (OD.out.below g9)
            have A9 := toHid ((AD.out _ hS).below g9)
            have N9 := toHid ((ND.out _ hS).below g9 (zW.out _ hS))
            have K9 := toHid ((KD.out _ hS).on g9)
            have O9 := toHid (own9.low (zW.out _ hS))
            have y9 : Hid (W4.heap.size ≤ w9.heap.size) := toHid (Nat.le_trans (zW.out _ hS) g9.size))
         | (have hS := S6.out (w5.drewN 1)
            have Z9 := toHid ((X6.out _ ZD.out).below g9)
            have P9 := toHid ((L6.out _ _ _ OD.out).below g9)
            have A9 := toHid ((AD.out _ hS).below g9)
            have N9 := toHid ((ND.out _ hS).below g9 (zW.out _ hS))
            have K9 := toHid ((KD.out _ hS).on g9)
            have O9 := toHid (own9.low (zW.out _ hS))
            have y9 : Hid (W4.heap.size ≤ w9.heap.size) := toHid (Nat.le_trans (zW.out _ hS) g9.size))
       clear hS own9 g9
       obtain ⟨u1, u2, u3⟩ := A9.out
       obtain ⟨t1, t2, t3⟩ := Z9.out)
    | (refine step_msgsO rfl (.tmp 39) (.tmp 40) rfl W4.heap.size _ _ _ _ rfl (by first | exact O9.out | exact L6.out _ _ _ O9.out) rfl (by first | exact P9.out | exact L6.out _ _ _ P9.out) (by omega) (by first | exact y9.out | (rw [(S6.out w9).size]; exact y9.out)) ?_
       intro v6 w6 own6 hb6
       first
         | (have Z6 := toHid (Z9.out.belowAt hb6 hszw1)
            have A6 := toHid (A9.out.belowAt hb6 (by omega))
            have N6 := toHid (N9.out.below hb6 (Nat.le_refl _))
            have K6 := toHid (K9.out.trans (hb6.mono hszw))
            have y6 : Hid (W4.heap.size ≤ w6.heap.size) := toHid (Nat.le_trans y9.out hb6.size))
         | (have Z6 := toHid ((X6.out _ Z9.out).belowAt hb6 hszw1)
            have A6 := toHid ((A9.out.only2 (S6.out w9) (.inr (by omega))).belowAt hb6 (by omega))
            have N6 := toHid ((N9.out.only (S6.out w9) (.inr (by omega))).below hb6 (Nat.le_refl _))
            have K6 := toHid ((K9.out.trans ((S6.out w9).below.mono (by omega))).trans (hb6.mono hszw))
            have y6 : Hid (W4.heap.size ≤ w6.heap.size) := toHid (Nat.le_trans (by rw [(S6.out w9).size]; exact y9.out) hb6.size))
       clear hb6
       obtain ⟨s1, s2, s3⟩ := A6.out
       obtain ⟨k1, k2, k3⟩ := Z6.out))
  all_goals
    first
      | (go_wp2
         obtain ⟨k1', k2', k3'⟩ := X6.out _ Z6.out
         refine bodyPost_ret (v := .tuple #[.agg #[.bool true, .int .i64 i, .slice e1 V1.length f1, .slice e2 V2.length f2, .slice b3 ts.length d3, .slice b4 ls.length d4], v6, .int .i64 0]) (by simp [results, Try.results10, go_sem, k2]; done) rfl ?_
         exact ⟨_, _, W4.heap.size, rfl, ⟨_, _, _, _, rfl, (N6.out.only (S6.out w6) (.inr (by omega))).wide (by omega) (Nat.le_refl _)⟩, L6.out _ _ _ own6, hszw, by rw [(S6.out w6).size]; exact y6.out, K6.out.trans ((S6.out w6).below.mono (by omega))⟩)
      | (go_wp2
         refine bodyPost_ret (v := .tuple #[.agg #[.bool true, .int .i64 i, .slice e1 V1.length f1, .slice e2 V2.length f2, .slice b3 ts.length d3, .slice b4 ls.length d4], v6, .int .i64 0]) (by simp [results, Try.results10, go_sem, k2]; done) rfl ?_
         exact ⟨_, _, W4.heap.size, rfl, ⟨_, _, _, _, rfl, N6.out.wide (by omega) (Nat.le_refl _)⟩, own6, hszw, y6.out, K6.out⟩)

theorem tStep_any (up : Bool) (i : Int) (h : NdAt lo hi w p q r s ps is ts ls) (hh : hi ≤ w.heap.size) :
    Calls Try.prog 10 #[.agg #[.bool up, .int .i64 i, p, q, r, s]] w fun e w' => ∃ v u m, e = .returned (.tuple #[v, u, .int .i64 (tiE ⟨up, i, ps, is, ts, ls⟩)]) ∧
      NdV w.heap.size m w' v (tiN ⟨up, i, ps, is, ts, ls⟩) ∧ OwnM m w' u (tiM ⟨up, i, ps, is, ts, ls⟩) ∧ w.heap.size ≤ m ∧ m ≤ w'.heap.size ∧ Below w.heap.size w w' := by
  unfold tiE tiN tiM
  dsimp only
  cases hb : (up && ndB ⟨up, i, ps, is, ts, ls⟩) with
  | false => exact (tStep_no up i h hh hb).mono fun _ _ ⟨he, hk⟩ => ⟨_, _, w.heap.size, he, NdV.zero, OwnM.nil0, Nat.le_refl _, hk.size, hk⟩
  | true =>
    simp only [Bool.and_eq_true] at hb
    obtain ⟨rfl, hn⟩ := hb
    exact tStep_up i h hh hn

/-- The same, its answer's cells written out. -/
theorem tStep_at {up' : Bool} {i' E : Int} {ps' : List Pe} {is' : List Int} {ts' : List It} {ls' : List Te} {L : List Mg} (up : Bool) (i : Int) (h : NdAt lo hi w p q r s ps is ts ls) (hh : hi ≤ w.heap.size)
    (hE : tiE ⟨up, i, ps, is, ts, ls⟩ = E) (hN : tiN ⟨up, i, ps, is, ts, ls⟩ = ⟨up', i', ps', is', ts', ls'⟩) (hL : tiM ⟨up, i, ps, is, ts, ls⟩ = L) :
    Calls Try.prog 10 #[.agg #[.bool up, .int .i64 i, p, q, r, s]] w fun e w' => ∃ a5 c5 a6 c6 a7 c7 a8 c8 b d m, e = .returned (.tuple #[.agg #[.bool up', .int .i64 i', .slice a5 ps'.length c5, .slice a6 is'.length c6, .slice a7 ts'.length c7, .slice a8 ls'.length c8], .slice b L.length d, .int .i64 E]) ∧
      NdAt w.heap.size m w' (.slice a5 ps'.length c5) (.slice a6 is'.length c6) (.slice a7 ts'.length c7) (.slice a8 ls'.length c8) ps' is' ts' ls' ∧ OwnM m w' (.slice b L.length d) L ∧ w.heap.size ≤ m ∧ m ≤ w'.heap.size ∧ Below w.heap.size w w' := by
  have H := tStep_any up i h hh
  rw [hE, hN, hL] at H
  refine H.mono ?_
  rintro e w1 ⟨v, u, m, rfl, N, O, h1, h2, hb⟩
  obtain ⟨p1, q1, r1, s1, rfl, M⟩ := N.out
  obtain ⟨a5, c5, a6, c6, a7, c7, a8, c8, rfl, rfl, rfl, rfl⟩ := id M.shape
  obtain ⟨b, d, rfl⟩ := O.cap
  exact ⟨_, _, _, _, _, _, _, _, _, _, m, rfl, M, O, h1, h2, hb⟩

end

end Go.Proofs.Ytghamcomjfholaa
