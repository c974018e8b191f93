
/-
  The statement TickGreets: at each tick whom a node knows, peer or passive, is greeted once, with the peers that it has then; every message may be and comes from the node; it holds and logs what it held and logged.
-/
import Derived.Test.YtghamcomjfholaaRows
import Derived.Test.YtghamcomjfholaaOpen
import Derived.Test.YtghamcomjfholaaTickMsg
import Derived.Test.YtghamcomjfholaaAgeSeen
import Derived.Test.YtghamcomjfholaaMsgRef
import Derived.Test.YtghamcomjfholaaNodeCopy
import Derived.Test.YtghamcomjfholaaOpenN
import Derived.Deep.DeepCutAuto
import Derived.Deep.CutRange
import Derived.Deep.CutBlock
namespace Go.Proofs.Ytghamcomjfholaa.tickGreets
open Go.ChangeShapes Go.WideShapes Go.ChangeAt Go.RowKit
set_option linter.unusedVariables false

/-! ### The walk -/
set_option maxRecDepth 20000 in
set_option maxHeartbeats 8000000 in
theorem walk (v0 : Value) (x0 : NdO) (w : World) (r0 : v0 = .agg #[.bool x0.up, .int .i64 x0.v.i, x0.v.p, x0.v.q, x0.r, x0.s]) (h0 : NdAt 0 w.heap.size w x0.v.p x0.v.q x0.r x0.s x0.v.ps x0.v.is x0.ts x0.ls) (s0 : x0.v.ps.length * 16 ≤ 140737488351232) (t0 : x0.v.is.length * 8 ≤ 140737488351232) (u0 : x0.ts.length * 40 ≤ 140737488351232) (y0 : x0.ls.length * 24 ≤ 140737488351232) (w0 : (Lit.int .i64 x0.v.i).wf = true) (i0 : ∀ y ∈ x0.v.ps, PeW y) (j0 : ∀ y ∈ x0.v.is, (Lit.int .i64 y).wf = true) (m0 : ∀ y ∈ x0.ts, ItW y) (n0 : ∀ y ∈ x0.ls, TeW y) :
    Calls Try.prog 4 #[v0] w fun e w' => e = .returned (.bool true) ∧ Below w.heap.size w w' := by
  obtain ⟨up, ⟨ni, ps, is, p, q⟩, ts, ls, r, s⟩ := x0
  dsimp only at r0 h0 s0 t0 u0 y0
  subst r0
  clear w0 i0 j0 m0 n0
  have HP := toHid (h0.vw.ps.pes (Nat.le_refl _))
  have HI := toHid (h0.vw.is.ints (Nat.le_refl _))
  have NN := toHid (fun (W : World) (hb : Below w.heap.size w W) => h0.below hb (Nat.le_refl _))
  obtain ⟨a, c, a', c', a2, c2, a3, c3, rfl, rfl, rfl, rfl⟩ := h0.shape
  have BM := toHid (Box.new w #[.bool up, .int .i64 ni, .slice a ps.length c, .slice a' is.length c', .slice a2 ts.length c2, .slice a3 ls.length c3] 30)
  have hB := toHid ((Below.refl _ w).onA (.cells #[.bool up, .int .i64 ni, .slice a ps.length c, .slice a' is.length c', .slice a2 ts.length c2, .slice a3 ls.length c3] 30))
  clear h0 s0 t0 u0 y0
  go_enter Try.func4, Try.ntmps4
  go_upto_region 1 with (fail)
  generalize w.alloc (.cells #[.bool up, .int .i64 ni, .slice a ps.length c, .slice a' is.length c', .slice a2 ts.length c2, .slice a3 ls.length c3] 30) = wA at BM hB ⊢
  go_upto_region 3 with (go_at_call 7; refine (awake19_any _).mono ?_; rintro e w1 ⟨rfl, h1⟩)
  replace BM := toHid (BM.out.below h1)
  replace hB := toHid (hB.out.on h1)
  clear h1
  obtain ⟨m1, m2, m3⟩ := BM.out
  cases hn : (up && ndB ⟨up, ni, ps, is, ts, ls⟩) with
  | false =>
    have hE : Hid (tiE ⟨up, ni, ps, is, ts, ls⟩ = 1900) := toHid (by simp [tiE, hn])
    have hN : Hid (tiN ⟨up, ni, ps, is, ts, ls⟩ = ⟨false, 0, [], [], [], []⟩) := toHid (by simp [tiN, hn, zeroN])
    have hL : Hid (tiM ⟨up, ni, ps, is, ts, ls⟩ = []) := toHid (by simp [tiM, hn])
    have KT := toHid (tStep_at up ni (NN.out _ hB.out) hB.out.size hE.out hN.out hL.out)
    clear hE hN hL hn HP HI NN
    go_wp2_with (first
      | (go_at_call 10; refine KT.out.mono ?_; rintro e w5 ⟨a5, c5, a6, c6, a7, c7, a8, c8, b9, d9, m9, rfl, N5, -, -, m2', h5⟩
         have k6 := toHid ((hB.out.on h5).onA (.cells #[.bool false, .int .i64 0, .slice a5 ([] : List Pe).length c5, .slice a6 ([] : List Int).length c6, .slice a7 ([] : List It).length c7, .slice a8 ([] : List Te).length c8] 30))
         have N6 := toHid (N5.alloc (.cells #[.bool false, .int .i64 0, .slice a5 ([] : List Pe).length c5, .slice a6 ([] : List Int).length c6, .slice a7 ([] : List It).length c7, .slice a8 ([] : List Te).length c8] 30))
         have m3' : m9 ≤ (w5.alloc (.cells #[.bool false, .int .i64 0, .slice a5 ([] : List Pe).length c5, .slice a6 ([] : List Int).length c6, .slice a7 ([] : List It).length c7, .slice a8 ([] : List Te).length c8] 30)).heap.size := Nat.le_trans m2' (by simp)
         clear N5 h5 m1 m2 m3)
      | (go_at_call 11; refine (sameNode_same false 0 N6.out (NdAt.nil0 (lo := 0) (hi := 0)) m3' (Nat.zero_le _)).mono ?_; rintro e w6 ⟨rfl, h6⟩
         have k7 := toHid (k6.out.on h6)
         clear h6)
      | (go_at_call 12; refine (num_any _ _).mono ?_; rintro e w' ⟨rfl, hw'⟩; subst w'))
    go_ret
    exact ⟨rfl, k7.out⟩
  | true =>
    simp only [Bool.and_eq_true] at hn
    obtain ⟨rfl, hnd⟩ := hn
    have hv : okS ni (ps, is) := nd_vw (n := ⟨true, ni, ps, is, ts, ls⟩) rfl hnd
    obtain ⟨l1, l2, l3⟩ := nd_lens (n := ⟨true, ni, ps, is, ts, ls⟩) rfl hnd
    dsimp only at l1 l2 l3
    have hval : Val ts := (stB_iff.1 (nd_st (n := ⟨true, ni, ps, is, ts, ls⟩) rfl hnd)).1
    have hok2 := ti_ok hnd
    have hvl : (tkS (ps, is)).1.length + (tkS (ps, is)).2.length ≤ 16 := (nd_lens (n := ⟨true, ni, (tkS (ps, is)).1, (tkS (ps, is)).2, ts, ls⟩) rfl hok2).1
    have hpl := toHid (fun (x : Int) (hx : x ∈ tkG (ps, is)) => tkG_place (i := ni) (s := (ps, is)) hv hx)
    have hdup := toHid (tkG_nodup (i := ni) (s := (ps, is)) hv)
    have hme := toHid (tkG_mem (i := ni) (s := (ps, is)) hv)
    have hln : (tkG (ps, is)).length = ps.length + is.length := tkG_len (i := ni) (s := (ps, is)) hv
    obtain ⟨T1, T2, T3⟩ := ti_yes (s := (ps, is)) hnd
    obtain ⟨L, hL⟩ : ∃ L, tiM ⟨true, ni, ps, is, ts, ls⟩ = L := ⟨_, rfl⟩
    have hL2 := T3.symm.trans hL
    have hAt := toHid (fun (j : Nat) (hj : j < L.length) => ti_at hv hval hL2 hj)
    have hLl : L.length = (tkG (ps, is)).length + (shL ni (tkS (ps, is)).1 (tkS (ps, is)).2 ts).length := by rw [← hL2, List.length_append]; simp [hiL]
    have hsm := shL_len ni (tkS (ps, is)).1 (tkS (ps, is)).2 ts
    have hL32 : L.length ≤ 32 := by omega
    have hLg : (tkG (ps, is)).length ≤ L.length := by omega
    clear hLl hsm T3 hL2 hv hval hnd
    obtain ⟨gs, hgs⟩ : ∃ gs, tkG (ps, is) = gs := ⟨_, rfl⟩
    obtain ⟨⟨u1, u2⟩, hu⟩ : ∃ s, tkS (ps, is) = s := ⟨_, rfl⟩
    rw [hgs] at hpl hdup hme hln hAt hLg
    rw [hu] at T2 hok2 hvl hAt
    dsimp only at T2 hok2 hvl hAt
    have KT := toHid (tStep_at true ni (NN.out _ hB.out) hB.out.size T1 T2 hL)
    have hN1 : (gs.length : Int) = (ps.length : Int) + (is.length : Int) := by omega
    clear T1 T2 hL hgs hu
    go_upto_region 6 with (first
      | (go_at_call 10; refine KT.out.mono ?_; rintro e w2 ⟨a5, c5, a6, c6, a7, c7, a8, c8, b9, d9, m9, rfl, N5, O5, mm1, mm2, h2⟩
         have BM2 := toHid ((BM.out.below h2).alloc (.cells #[.bool true, .int .i64 ni, .slice a5 u1.length c5, .slice a6 u2.length c6, .slice a7 ts.length c7, .slice a8 ls.length c8] 30))
         have BA := toHid (Box.new w2 #[.bool true, .int .i64 ni, .slice a5 u1.length c5, .slice a6 u2.length c6, .slice a7 ts.length c7, .slice a8 ls.length c8] 30)
         have k2 := toHid ((hB.out.on h2).onA (.cells #[.bool true, .int .i64 ni, .slice a5 u1.length c5, .slice a6 u2.length c6, .slice a7 ts.length c7, .slice a8 ls.length c8] 30))
         have N6 := toHid ((N5.alloc (.cells #[.bool true, .int .i64 ni, .slice a5 u1.length c5, .slice a6 u2.length c6, .slice a7 ts.length c7, .slice a8 ls.length c8] 30)).wide (Nat.zero_le _) (Nat.le_trans mm2 (by simp : w2.heap.size ≤ (w2.alloc (.cells #[.bool true, .int .i64 ni, .slice a5 u1.length c5, .slice a6 u2.length c6, .slice a7 ts.length c7, .slice a8 ls.length c8] 30)).heap.size)))
         have RX := toHid ((O5.alloc (.cells #[.bool true, .int .i64 ni, .slice a5 u1.length c5, .slice a6 u2.length c6, .slice a7 ts.length c7, .slice a8 ls.length c8] 30)).row.wide (Nat.zero_le _) (Nat.le_refl _))
         clear N5 O5 mm1 mm2 h2 m1 m2 m3 BM hB KT)
      | (go_at_call 12; refine (num_any _ _).mono ?_; rintro e w' ⟨rfl, hw'⟩; subst w'))
    generalize w2.alloc (.cells #[.bool true, .int .i64 ni, .slice a5 u1.length c5, .slice a6 u2.length c6, .slice a7 ts.length c7, .slice a8 ls.length c8] 30) = W2 at BM2 BA k2 N6 RX ⊢
    have HNm := toHid (rNames_any N6.out.vw.ps (Nat.le_refl _) (by omega))
    obtain ⟨m1, m2, m3⟩ := BA.out
    go_upto_region 7 with (go_at_call 13; refine HNm.out.mono ?_; rintro e w3 ⟨u9, rfl, NR, h3⟩)
    clear m1 m2 m3 HNm
    obtain ⟨q9, dn, rfl, -⟩ := id NR.cap
    apply wp_region_lit
    refine alloc256 rfl rfl ?_
    intro w4 BS hb4
    have BM4 := toHid ((BM2.out.below h3).below hb4)
    have BA4 := toHid ((BA.out.below h3).below hb4)
    have N4 := toHid (((N6.out.below h3 (Nat.le_refl _)).wide (Nat.le_refl _) h3.size).below hb4 (Nat.le_refl _))
    have R4 := toHid (((RX.out.below h3 (Nat.le_refl _)).wide (Nat.le_refl _) h3.size).below hb4 (Nat.le_refl _))
    have NR4 := toHid ((NR.wide (Nat.zero_le _) (Nat.le_refl _)).below hb4 (Nat.le_refl _))
    have k4 := toHid ((k2.out.on h3).on hb4)
    have zw : Hid (w.heap.size < w3.heap.size) := toHid (Nat.lt_of_lt_of_le BM2.out.1 h3.size)
    have za : Hid (w2.heap.size < w3.heap.size) := toHid (Nat.lt_of_lt_of_le BA.out.1 h3.size)
    have z4 : Hid (w3.heap.size ≤ w4.heap.size) := toHid hb4.size
    replace BS := toHid BS
    clear BM2 BA N6 RX NR k2 h3 hb4
    go_wp2
    generalize w3.heap.size = sb at *
    go_loopw [8, 9] (fun s8 s9 wr => ∃ m : Nat, m ≤ L.length ∧ s9 = .int .i64 m ∧ s8 = .int .i64 ((min m gs.length : Nat) : Int) ∧ Hid (Box wr sb (seenC (gs.take m))) ∧ Hid (Below sb w4 wr)) (fun _ s9 _ => L.length - (intOf s9).toNat)
    case atStart => exact ⟨0, Nat.zero_le _, rfl, by simp, BS, toHid (Below.refl _ _)⟩
    case round =>
      clear BS
      obtain ⟨m, hm, rfl, rfl, BS, hbr⟩ := hrel
      have BMr := toHid (BM4.out.belowAt hbr.out zw.out)
      have zbr : Hid (sb < wr.heap.size) := toHid BS.out.1
      by_cases hlt : m < L.length
      · have hlt' : (m : Int) < (L.length : Int) := by omega
        have hm0 : 0 ≤ (m : Int) := by omega
        obtain ⟨p3, c3', ev, -, hp3⟩ := (R4.out.below hbr.out (Nat.le_refl _)).at
        obtain ⟨bb, off, rfl, -, hbb, hc⟩ := hp3 (by omega)
        cases ev
        obtain ⟨x, hx, hcell, hrow⟩ := hc m hlt
        obtain ⟨f1, f2, f3, f4⟩ := hAt.out m hlt
        rw [← hx] at f1 f2 f3 f4
        obtain ⟨xn, xa, xb, xi, xk, ⟨zk, zc, zu, zx, zg⟩, xh, xv⟩ := x
        obtain ⟨vq, vc, ev2, -⟩ := id hrow.cap
        dsimp only at ev2 hrow
        subst ev2
        have e0 : wr.cell? ⟨bb, off + m * 11, none⟩ = some (.int .i64 xn) := hcell 0 (by decide)
        have e1 : wr.cell? ⟨bb, off + m * 11 + 1, none⟩ = some (.int .i64 xa) := hcell 1 (by decide)
        have e2 : wr.cell? ⟨bb, off + m * 11 + 2, none⟩ = some (.int .i64 xb) := hcell 2 (by decide)
        have e3 : wr.cell? ⟨bb, off + m * 11 + 3, none⟩ = some (.slice vq xi.length vc) := hcell 3 (by decide)
        have e4 : wr.cell? ⟨bb, off + m * 11 + 4, none⟩ = some (.int .i64 xk) := hcell 4 (by decide)
        have e5 : wr.cell? ⟨bb, off + m * 11 + 5, none⟩ = some (.int .i64 zk) := hcell 5 (by decide)
        have e6 : wr.cell? ⟨bb, off + m * 11 + 6, none⟩ = some (.int .i64 zc) := hcell 6 (by decide)
        have e7 : wr.cell? ⟨bb, off + m * 11 + 7, none⟩ = some (.int .i64 zu) := hcell 7 (by decide)
        have e8 : wr.cell? ⟨bb, off + m * 11 + 8, none⟩ = some (.int .i64 zx) := hcell 8 (by decide)
        have e9 : wr.cell? ⟨bb, off + m * 11 + 9, none⟩ = some (.bool zg) := hcell 9 (by decide)
        have e10 : wr.cell? ⟨bb, off + m * 11 + 10, none⟩ = some (.bool xh) := hcell 10 (by decide)
        have f5 : mgB xn xa xb xi xk ⟨zk, zc, zu, zx, zg⟩ xh = true := f4
        have hMM : Hid (∀ W : World, Below wr.heap.size wr W → Calls Try.prog 14 #[.agg #[.int .i64 xn, .int .i64 xa, .int .i64 xb, .slice vq xi.length vc, .int .i64 xk, .int .i64 zk, .int .i64 zc, .int .i64 zu, .int .i64 zx, .bool zg, .bool xh]] W fun e w' => e = .returned (.bool true) ∧ Below W.heap.size W w') := toHid (fun W hW => by
          have := rMsgMay_any (hrow.below hW (Nat.le_of_lt zbr.out)) xn xa xb xk zk zc zu zx zg xh
          rw [f5] at this
          exact this)
        have hRw := toHid hrow
        have hbw : bb < wr.heap.size := Nat.lt_trans hbb zbr.out
        have f3' : xa = ni := f3
        subst f3'
        clear hp3 hc hcell hx f3 f4 f5 hrow
        obtain ⟨x1, x2, x3⟩ := BMr.out
        replace hbb := toHid hbb
        by_cases hg : m < gs.length
        · have fq := f1 hg
          simp only [MgO.mg, Mg.mk.injEq] at fq
          obtain ⟨rfl, -, hxb, rfl, rfl, hz0, rfl⟩ := fq
          cases hz0
          have hmem : gs.getD m 0 ∈ gs := by rw [getD_in _ _ hg]; exact List.getElem_mem hg
          obtain ⟨z, hz, hz1, hz2⟩ := seen_nat (hpl.out _ hmem)
          have hnx := nodup_next hdup.out hg
          have HS : Hid (gs.take (m + 1) = gs.take m ++ [gs.getD m 0]) := toHid (by rw [take_step hg, ← getD_in _ 0 hg])
          rw [hz] at hnx HS hxb
          subst hxb
          have hmin : min m gs.length = m := by omega
          have hmin2 : Hid (min (m + 1) gs.length = m + 1) := toHid (by omega)
          rw [hmin]
          have BSr := toHid (fun (W : World) (hW : Below wr.heap.size wr W) => BS.out.below hW)
          have EE : Hid (∀ W : World, Below wr.heap.size wr W → W.cell? ⟨bb, off + m * 11, none⟩ = some (.int .i64 0) ∧ W.cell? ⟨bb, off + m * 11 + 2, none⟩ = some (.int .i64 z) ∧ W.cell? ⟨bb, off + m * 11 + 3, none⟩ = some (.slice vq (nmL u1).length vc)) :=
            toHid (fun W hW => ⟨(hW.cell (p := ⟨bb, off + m * 11, none⟩) hbw).trans e0, (hW.cell (p := ⟨bb, off + m * 11 + 2, none⟩) hbw).trans e2, (hW.cell (p := ⟨bb, off + m * 11 + 3, none⟩) hbw).trans e3⟩)
          have hd := toHid (decide_eq_false hnx)
          clear f1 f2 hmem hz hnx hmin BS
          go_wp2
          refine wp_region_below (by kernel_rfl) (by kernel_rfl) ?_
          repeat (first
            | go_big_quiet_skip
            | (go_big_quiet_want; go_big_quiet_op; go_big_quiet_on)
            | (refine wpQuiet_step (fun K hK => ?_)
               go_simp
               first
                 | (refine hK _ ?_; clear hK K)
                 | (refine ⟨_, fun w' hw' => rfl, hK _ ?_⟩; clear hK K)
                 | (apply Exists.intro
                    refine ⟨fun w' hw' => ?_, hK _ ?_⟩
                    · (obtain ⟨hc', hf'⟩ := bcell hw'
                       first
                         | (go_simp; rfl)
                         | (go_at_call 14; refine (hMM.out _ hw').mono ?_; rintro e w9 ⟨rfl, h9⟩; exact ⟨rfl, hw'.on h9⟩))
                    clear hK K)))
          refine wpQuiet_nil ?_
          intro w5 h5
          clear e0 e1 e2 e3 e4 e5 e6 e7 e8 e9 e10 x1 x2 x3 hMM
          obtain ⟨e0, e2, e3⟩ := EE.out _ h5
          have B5 := BSr.out _ h5
          have g1 := (B5.2.1 z).trans (seen_at _ z hz1)
          rw [hd.out] at g1
          replace B5 := toHid B5
          have HSI := toHid (sameI_at (hRw.out.below h5 (Nat.le_of_lt zbr.out)) ((NR4.out.below hbr.out (Nat.le_refl _)).below h5 (Nat.le_of_lt zbr.out)) (b := true) (by simp))
          go_wp2_with (go_at_call 15; refine HSI.out.mono ?_; rintro e w6 ⟨rfl, h6⟩
                       clear e0 e2 e3 g1
                       have h56 := h5.on h6
                       obtain ⟨-, e2, -⟩ := EE.out _ h56
                       have B6 := BSr.out _ h56
                       have g2 := (B6.2.1 z).trans (seen_at _ z hz1)
                       have g3 := B6.2.2 z
                       have hb6 := toHid (hbr.out.trans (h56.mono (Nat.le_of_lt zbr.out)))
                       replace B6 := toHid B6
                       clear h6 h56)
          go_roundw
          case rel => exact ⟨m + 1, by omega, by go_num, by rw [hmin2.out]; go_num, by rw [HS.out, seen_put]; exact toHid (B6.out.setS z (.bool true) (by rw [seen_size]; exact hz1) rfl), toHid (hb6.out.setCell (p := ⟨sb, z, none⟩) (Nat.le_refl _) (.bool true))⟩
          case measure => simp [intOf]; omega
        · have hxn : xn = 1 := f2 (by omega)
          subst hxn
          have hmin2 : Hid (min (m + 1) gs.length = min m gs.length) := toHid (by omega)
          have HT2 : Hid (gs.take (m + 1) = gs.take m) := toHid (by rw [List.take_of_length_le (by omega), List.take_of_length_le (by omega)])
          have EE : Hid (∀ W : World, Below wr.heap.size wr W → W.cell? ⟨bb, off + m * 11, none⟩ = some (.int .i64 1)) := toHid (fun W hW => (hW.cell (p := ⟨bb, off + m * 11, none⟩) hbw).trans e0)
          generalize min m gs.length = mg at hmin2 ⊢
          clear f1 f2
          go_wp2
          refine wp_region_below (by kernel_rfl) (by kernel_rfl) ?_
          repeat (first
            | go_big_quiet_skip
            | (go_big_quiet_want; go_big_quiet_op; go_big_quiet_on)
            | (refine wpQuiet_step (fun K hK => ?_)
               go_simp
               first
                 | (refine hK _ ?_; clear hK K)
                 | (refine ⟨_, fun w' hw' => rfl, hK _ ?_⟩; clear hK K)
                 | (apply Exists.intro
                    refine ⟨fun w' hw' => ?_, hK _ ?_⟩
                    · (obtain ⟨hc', hf'⟩ := bcell hw'
                       first
                         | (go_simp; rfl)
                         | (go_at_call 14; refine (hMM.out _ hw').mono ?_; rintro e w9 ⟨rfl, h9⟩; exact ⟨rfl, hw'.on h9⟩))
                    clear hK K)))
          refine wpQuiet_nil ?_
          intro w5 h5
          clear e0 e1 e2 e3 e4 e5 e6 e7 e8 e9 e10 x1 x2 x3 hMM
          have e0 := EE.out _ h5
          have B5 := toHid (BS.out.below h5)
          have hb5 := toHid (hbr.out.trans (h5.mono (Nat.le_of_lt zbr.out)))
          go_wp2
          go_roundw
          case rel => exact ⟨m + 1, by omega, by go_num, by rw [hmin2.out], by rw [HT2.out]; exact B5, hb5⟩
          case measure => simp [intOf]; omega
      · obtain rfl : m = L.length := by omega
        have hlt' : ¬ (L.length : Int) < (L.length : Int) := by omega
        rw [show min L.length gs.length = gs.length by omega]
        rw [List.take_of_length_le hLg] at BS
        have hB2 := toHid (k4.out.trans (hbr.out.mono (Nat.le_of_lt zw.out)))
        have BAr := toHid (BA4.out.belowAt hbr.out za.out)
        have N4r := toHid (N4.out.below hbr.out (Nat.le_refl _))
        have zbs := toHid (Nat.le_of_lt zbr.out)
        have hl3 := toHid (And.intro hvl (And.intro l2 l3))
        obtain ⟨b1, b2, b3⟩ := BMr.out
        clear R4 NR4 hAt hdup BM4 BA4 N4 k4 hbr hLg hL32
        go_wp2
        go_loop [10] (fun j => ∃ k : Nat, k ≤ ps.length ∧ j = .int .i64 k) (fun j => ps.length - (intOf j).toNat)
        case atStart => exact ⟨0, Nat.zero_le _, rfl⟩
        case round =>
          obtain ⟨k, hk2, rfl⟩ := hrel
          by_cases hltk : k < ps.length
          · obtain ⟨px, cx, ex, -, hcs⟩ := HP.out
            cases ex
            obtain ⟨b, off, rfl, -, hb, hh1⟩ := hcs (by omega)
            obtain ⟨c1, -⟩ := (hh1 k hltk).below hB2.out hb
            have hmem : (ps.getD k ⟨0, 0⟩).n ∈ gs := (hme.out _).2 (.inr (nmL_mem.2 ⟨_, by rw [getD_in _ _ hltk]; exact List.getElem_mem hltk, rfl⟩))
            obtain ⟨z, hz, hz1, hz2⟩ := seen_nat (hpl.out _ hmem)
            have hltk' : (k : Int) < (ps.length : Int) := by omega
            clear hh1 hcs HP HI
            generalize ps.getD k ⟨0, 0⟩ = y at *
            obtain ⟨yn, ym⟩ := y
            dsimp only at c1 hmem hz
            subst hz
            have g1 := (BS.out.2.1 z).trans (seen_at _ z hz1)
            rw [decide_eq_true hmem] at g1
            clear hmem
            go_wp2
            go_round
            case rel => exact ⟨k + 1, by omega, by go_num⟩
            case measure => simp [intOf]; omega
          · obtain rfl : k = ps.length := by omega
            clear HP
            go_wp2
            go_loop [11] (fun j => ∃ k : Nat, k ≤ is.length ∧ j = .int .i64 k) (fun j => is.length - (intOf j).toNat)
            case atStart => exact ⟨0, Nat.zero_le _, rfl⟩
            case round =>
              obtain ⟨k, hk3, rfl⟩ := hrel
              by_cases hltk : k < is.length
              · obtain ⟨px, cx, ex, -, hcs⟩ := HI.out
                cases ex
                obtain ⟨b, off, rfl, -, hb, hh1⟩ := hcs (by omega)
                have c1 := (hB2.out.cell (p := ⟨b, off + k, none⟩) hb).trans (hh1 k hltk)
                have hmem : is.getD k 0 ∈ gs := (hme.out _).2 (.inl (by rw [getD_in _ _ hltk]; exact List.getElem_mem hltk))
                obtain ⟨z, hz, hz1, hz2⟩ := seen_nat (hpl.out _ hmem)
                have hltk' : (k : Int) < (is.length : Int) := by omega
                clear hh1 hcs HI
                rw [hz] at c1 hmem
                have g1 := (BS.out.2.1 z).trans (seen_at _ z hz1)
                rw [decide_eq_true hmem] at g1
                clear hmem hz
                go_wp2
                go_round
                case rel => exact ⟨k + 1, by omega, by go_num⟩
                case measure => simp [intOf]; omega
              · obtain rfl : k = is.length := by omega
                have hIt := toHid (sameT_same N4r.out.ts (NN.out _ hB2.out).ts)
                have hTo := toHid (fun (W : World) (hW : Below wr.heap.size wr W) => sameE_at (N4r.out.below hW zbs.out).ls (NN.out _ (hB2.out.on hW)).ls (b := true) (by simp))
                have hNm := toHid (fun (W : World) (hW : Below wr.heap.size wr W) => rNodeMay_is (N4r.out.below hW zbs.out) (Nat.le_trans zbs.out hW.size) (by have := hl3.out; omega) (by have := hl3.out; omega) (by have := hl3.out; omega) (by have := hl3.out; omega) hok2)
                obtain ⟨d1, d2, d3⟩ := BAr.out
                clear HI hme hpl hok2 NN N4r hl3 hvl l2 l3 hln
                go_wp2_with (first
                  | (go_at_call 16; refine hIt.out.mono ?_; rintro e w7 ⟨rfl, h7⟩
                     clear d1 d2 d3 b1 b2 b3
                     obtain ⟨d1, d2, d3⟩ := BAr.out.below h7
                     obtain ⟨b1, b2, b3⟩ := BMr.out.below h7)
                  | (go_at_call 17; refine (hTo.out _ h7).mono ?_; rintro e w8 ⟨rfl, h8⟩
                     have h78 := h7.on h8
                     clear d1 d2 d3 b1 b2 b3
                     obtain ⟨d1, d2, d3⟩ := BAr.out.below h78)
                  | (go_at_call 18; refine (hNm.out _ h78).mono ?_; rintro e w9 ⟨rfl, h9⟩))
                go_ret
                exact ⟨rfl, (hB2.out.on h78).on h9⟩

/-! ### The row's step -/
set_option maxRecDepth 100000 in
theorem lifted (os : Os) (started : os.Started) (H : Type) (enc : TypeId × Value → H) :
    ReturnsInHanded {} Try.checked os 4 .any (Rows.tickGreetsSpec.pre6 enc Try.prog Try.f4 Rows.tickGreetsRow.domain false) (Rows.tickGreetsSpec.post enc Try.prog Try.f4 false true false false) := by
  refine returnsInHanded_of_change_sized (C := Try.checked) ownK started (by kernel_rfl) Try.func4
    (ChangeSpec.witness6 (enc := enc) (C := Try.checked) false ⟨#[], #[.agg #[.bool false, .int .i64 0, .slice none 0 0, .slice none 0 0, .slice none 0 0, .slice none 0 0]], []⟩ 8 (by kernel_rfl) (by kernel_rfl) (by kernel_rfl) (by kernel_rfl)) ?_
  intro W base args ds gs before hval0 hW hcnd hsz0 _
  have hsz : (DataW.weightsEach Try.prog (Try.f4.params.toList ++ Rows.tickGreetsSpec.plain.varTypes Try.prog) (ds ++ gs)).all (· ≤ reachBytes) = true := hsz0
  have hval : ∀ (j : Nat) t v, Try.f4.params[j]? = some t → args[j]? = some v → Value.okWide Try.prog W .any base t v := hval0
  have hW' := hW
  obtain ⟨p, q, hA0, hV, rfl, hfz, hnd⟩ := hW
  have hA : DataW.TrodAll enc Try.prog W 0 (fun _ => true) true Try.f4.params.toList args.toList ds p := hA0
  rw [Try.params4] at hA hval hsz
  obtain ⟨v0, vs0, d0, ds0, p0, q0, hargs, rfl, rfl, h0, r0⟩ := trodAll_cons hA
  obtain ⟨rfl, rfl, rfl⟩ := trodAll_nil r0
  obtain rfl : args = #[v0] := by cases args; simp_all
  obtain ⟨rfl, rfl⟩ := trodVars_none hV
  clear r0
  have k0 := h0
  have lt0 : ∀ x ∈ p0, x.block < W.heap.size := by obtain ⟨m, hm⟩ := k0; exact DataW.trod_lt m _ _ _ hm
  have z0 : ∀ n ∈ d0.weights Try.prog 30, n ≤ reachBytes := fun n hn => by simpa using List.all_eq_true.1 hsz _ (DataW.weights_mem_each (j := 0) rfl rfl n hn)
  have f0 : W.noneFrozen p0 := fun b off hm => hfz b off (by simp [hm])
  obtain ⟨x0, r0, h0, s0, t0, u0, y0, w0, i0, j0, m0, n0⟩ := open_node (hval 0 30 v0 rfl rfl) h0 f0 z0
  clear hA0 hval0
  refine (walk v0 x0 W r0 h0 s0 t0 u0 y0 w0 i0 j0 m0 n0).mono fun e W' ⟨he, bel⟩ => ?_
  subst he
  exact ⟨_, rfl, _, _, _, [], _, [], hW', trodAll_mk1 (shut_bool Try.underlying4 _), (trodAll_cons_mk (Below.trod laidOut (by kernel_rfl) (of_decide_eq_true (by kernel_rfl)) k0 bel lt0) trodAll_mk0), rfl, bel.frame _, fun h => by cases h⟩

theorem over : Rows.tickGreetsRow.holds Try.pinned (OpenSpec.ofChange Rows.tickGreetsSpec) :=
  OpenClaim.holds_of_wide 4 Try.f4 rfl rfl rfl rfl rfl rfl rfl ⟨rfl, rfl, rfl, rfl, rfl⟩ rfl rfl rfl rfl rfl (by kernel_rfl) Try.func4 (by kernel_rfl)
    (of_decide_eq_true (by kernel_rfl)) (by unfold Func.isWrapper; first | (rw [if_pos (by decide +kernel)]; kernel_rfl) | (rw [if_neg (by decide +kernel)]; exact ⟨rfl, rfl⟩))
    (fun os started H enc _ => lifted os started H enc)

end Go.Proofs.Ytghamcomjfholaa.tickGreets

namespace Go.Proofs.Ytghamcomjfholaa
/-- The statement, by its short name. -/
theorem tickGreets_holds : Rows.TickGreetsSaid := tickGreets.over
#print axioms tickGreets_holds
end Go.Proofs.Ytghamcomjfholaa
