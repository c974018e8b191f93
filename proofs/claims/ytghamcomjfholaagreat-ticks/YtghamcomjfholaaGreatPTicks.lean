
/-
  The statement Ticks: at any node, Step answers the node, the messages and the error that the document's own answer has, and leaves the node as it was, even when what it answered is written over.
-/
import Derived.Test.YtghamcomjfholaaGreatRows
import Derived.Test.YtghamcomjfholaaGreatOpen
import Derived.Test.YtghamcomjfholaaGreatTickLaw
import Derived.Test.YtghamcomjfholaaGreatMsgsSame
import Derived.Test.YtghamcomjfholaaGreatMsgsSpoil
import Derived.Test.YtghamcomjfholaaGreatNodeCopy
import Derived.Test.YtghamcomjfholaaGreatSpoilN
import Derived.Test.YtghamcomjfholaaGreatOpenN
import Derived.Deep.DeepCutAuto
import Derived.Deep.CutRange
import Derived.Deep.CutBlock
namespace Go.Proofs.YtghamcomjfholaaGreat.ticks
open Go.ChangeShapes Go.WideShapes Go.ChangeAt Go.RowKit
set_option linter.unusedVariables false

/-! ### The walk -/
/-- Rows that lie behind all that was written over. -/
theorem ownsRow_spl {lo hi base n s : Nat} {e : TypeId} {w w' : World} {v : Value} {xs : List Value} (h : w.ownsRow base e s v n xs) (S : Spl lo hi w w') (hb : hi ≤ base) : w'.ownsRow base e s v n xs := by
  obtain ⟨h1, h2⟩ := h
  refine ⟨h1, ?_⟩
  rcases h2 with h2 | ⟨g, c, cur, e1, e2, e3, e4⟩
  · exact .inl h2
  · exact .inr ⟨g, c, cur, e1, e2, (S.off g (Array.getElem?_eq_some_iff.1 e3).1 (.inr (Nat.le_trans hb e2))).trans e3, e4⟩
theorem ownM_spl {lo hi base : Nat} {w w' : World} {v : Value} {ms : List Mg} (h : OwnM base w v ms) (S : Spl lo hi w w') (hb : hi ≤ base) : OwnM base w' v ms := by
  obtain ⟨xs, e, r, f⟩ := h
  exact ⟨xs, e, ownsRow_spl r S hb, fun x hx => ownsRow_spl (f x hx) S hb⟩
/-- A tick's messages are few. -/
theorem ti_few (n : Nd) : (tiM n).length ≤ 9223372036854775807 := by
  unfold tiM
  split
  · rename_i h
    simp only [Bool.and_eq_true] at h
    obtain ⟨hu, hn⟩ := h
    obtain ⟨l1, l2, -⟩ := nd_lens hu hn
    have h1 := tkG_len (s := (n.ps, n.is)) (nd_vw hu hn)
    have h2 := shL_len n.i (tkS (n.ps, n.is)).1 (tkS (n.ps, n.is)).2 n.ts
    dsimp only at h1
    rw [List.length_append, show (hiL n.i (nmL (tkS (n.ps, n.is)).1) (tkG (n.ps, n.is))).length = (tkG (n.ps, n.is)).length by simp [hiL]]
    omega
  · simp

set_option maxHeartbeats 8000000 in
theorem walk (v0 : Value) (x0 : NdO) (w : World) (r0 : v0 = .agg #[.bool x0.up, .int .i64 x0.v.i, x0.v.p, x0.v.q, x0.r, x0.s]) (h0 : NdAt 0 w.heap.size w x0.v.p x0.v.q x0.r x0.s x0.v.ps x0.v.is x0.ts x0.ls) (s0 : x0.v.ps.length * 16 ≤ 140737488351232) (t0 : x0.v.is.length * 8 ≤ 140737488351232) (u0 : x0.ts.length * 40 ≤ 140737488351232) (y0 : x0.ls.length * 24 ≤ 140737488351232) (w0 : (Lit.int .i64 x0.v.i).wf = true) (i0 : ∀ y ∈ x0.v.ps, PeW y) (j0 : ∀ y ∈ x0.v.is, (Lit.int .i64 y).wf = true) (m0 : ∀ y ∈ x0.ts, ItW y) (n0 : ∀ y ∈ x0.ls, TeW y) :
    Calls Tryz.prog 3 #[v0] w fun e w' => e = .returned (.bool true) ∧ Below w.heap.size w w' := by
  obtain ⟨up, ⟨ni, ps, is, p, q⟩, ts, ls, r, s⟩ := x0
  dsimp only at r0 h0 s0 t0 u0 y0
  subst r0
  clear w0 i0 j0 m0 n0
  obtain ⟨E1, hE1⟩ : ∃ x, tiE ⟨up, ni, ps, is, ts, ls⟩ = x := ⟨_, rfl⟩
  obtain ⟨⟨u1, i1, p1, s1, t1, l1⟩, hN1⟩ : ∃ x, tiN ⟨up, ni, ps, is, ts, ls⟩ = x := ⟨_, rfl⟩
  obtain ⟨L, hL1⟩ : ∃ x, tiM ⟨up, ni, ps, is, ts, ls⟩ = x := ⟨_, rfl⟩
  have hLM : Hid (L.length ≤ 9223372036854775807) := toHid (hL1 ▸ ti_few _)
  have H2 := toHid (fun (W : World) (p q r s : Value) (lo hi : Nat) (N : NdAt lo hi W p q r s ps is ts ls) (hh : hi ≤ W.heap.size) => tStep_at up ni N hh hE1 hN1 hL1)
  have H3 := toHid (fun (W : World) (p q r s : Value) (lo hi : Nat) (N : NdAt lo hi W p q r s ps is ts ls) (hh : hi ≤ W.heap.size) => rTicked_at up ni N hh s0 t0 u0 y0 hE1 hN1 hL1)
  clear hE1 hN1 hL1
  obtain ⟨a, c, a', c', a2, c2, a3, c3, rfl, rfl, rfl, rfl⟩ := h0.shape
  have BM := toHid (Box.new w #[.bool up, .int .i64 ni, .slice a ps.length c, .slice a' is.length c', .slice a2 ts.length c2, .slice a3 ls.length c3] 29)
  have N0 := toHid (h0.alloc (.cells #[.bool up, .int .i64 ni, .slice a ps.length c, .slice a' is.length c', .slice a2 ts.length c2, .slice a3 ls.length c3] 29))
  have hB := toHid ((Below.refl _ w).onA (.cells #[.bool up, .int .i64 ni, .slice a ps.length c, .slice a' is.length c', .slice a2 ts.length c2, .slice a3 ls.length c3] 29))
  have e0 : Hid (w.heap.size < (w.alloc (.cells #[.bool up, .int .i64 ni, .slice a ps.length c, .slice a' is.length c', .slice a2 ts.length c2, .slice a3 ls.length c3] 29)).heap.size) := toHid (by simp)
  clear h0
  go_enter Tryz.func3, Tryz.ntmps3
  go_upto_region 1 with (fail)
  generalize w.alloc (.cells #[.bool up, .int .i64 ni, .slice a ps.length c, .slice a' is.length c', .slice a2 ts.length c2, .slice a3 ls.length c3] 29) = wA at BM N0 hB e0 ⊢
  have HC := toHid (copyNode_any up ni N0.out (Nat.le_of_lt e0.out) (by omega) (by omega) (by omega) (by omega))
  clear s0 t0 u0 y0
  obtain ⟨m1, m2, m3⟩ := BM.out
  go_upto_region 2 with (go_at_call 4; refine HC.out.mono ?_; rintro e wp1 ⟨pp, qq, rr, ss, rfl, N1, hp1⟩
                         obtain ⟨b, d, b', d', b2, d2, b3, d3, rfl, rfl, rfl, rfl⟩ := id N1.shape)
  clear m1 m2 m3 HC
  have BY := toHid (Box.new wp1 #[.bool up, .int .i64 ni, .slice b ps.length d, .slice b' is.length d', .slice b2 ts.length d2, .slice b3 ls.length d3] 29)
  have st := hp1.on ((Below.refl _ wp1).onA (.cells #[.bool up, .int .i64 ni, .slice b ps.length d, .slice b' is.length d', .slice b2 ts.length d2, .slice b3 ls.length d3] 29))
  have N1a := (N1.alloc (.cells #[.bool up, .int .i64 ni, .slice b ps.length d, .slice b' is.length d', .slice b2 ts.length d2, .slice b3 ls.length d3] 29)).wide (Nat.zero_le _) (hi' := (wp1.alloc (.cells #[.bool up, .int .i64 ni, .slice b ps.length d, .slice b' is.length d', .slice b2 ts.length d2, .slice b3 ls.length d3] 29)).heap.size) (by simp)
  replace N1 := toHid N1a
  replace BM := toHid (BM.out.below st)
  replace N0 := toHid ((N0.out.below st (Nat.le_of_lt e0.out)).wide (Nat.le_refl _) (Nat.le_trans (Nat.le_of_lt e0.out) st.size))
  replace hB := toHid (hB.out.on st)
  clear st hp1 N1a e0
  generalize wp1.alloc (.cells #[.bool up, .int .i64 ni, .slice b ps.length d, .slice b' is.length d', .slice b2 ts.length d2, .slice b3 ls.length d3] 29) = W1 at BM BY N0 N1 hB ⊢
  have e0 := toHid BM.out.1
  have e1 := toHid BY.out.1
  have y1 := toHid (Nat.le_refl W1.heap.size)
  obtain ⟨m1, m2, m3⟩ := BY.out
  go_upto_region 3 with (go_at_call 5; refine (H2.out _ _ _ _ _ _ _ N1.out y1.out).mono ?_; rintro e wp2 ⟨a5A, c5A, a6A, c6A, a7A, c7A, a8A, c8A, bA, dA, mA, rfl, NA, OA, zA1, zA2, hp⟩)
  clear m1 m2 m3 H2
  have BA := toHid (Box.new wp2 #[.bool u1, .int .i64 i1, .slice a5A p1.length c5A, .slice a6A s1.length c6A, .slice a7A t1.length c7A, .slice a8A l1.length c8A] 29)
  have st := hp.on ((Below.refl _ wp2).onA (.cells #[.bool u1, .int .i64 i1, .slice a5A p1.length c5A, .slice a6A s1.length c6A, .slice a7A t1.length c7A, .slice a8A l1.length c8A] 29))
  replace NA := toHid (NA.alloc (.cells #[.bool u1, .int .i64 i1, .slice a5A p1.length c5A, .slice a6A s1.length c6A, .slice a7A t1.length c7A, .slice a8A l1.length c8A] 29))
  replace OA := toHid (OA.alloc (.cells #[.bool u1, .int .i64 i1, .slice a5A p1.length c5A, .slice a6A s1.length c6A, .slice a7A t1.length c7A, .slice a8A l1.length c8A] 29))
  have yA : Hid (mA ≤ (wp2.alloc (.cells #[.bool u1, .int .i64 i1, .slice a5A p1.length c5A, .slice a6A s1.length c6A, .slice a7A t1.length c7A, .slice a8A l1.length c8A] 29)).heap.size) := toHid (Nat.le_trans zA2 (by simp))
  have xA : Hid (mA ≤ wp2.heap.size) := toHid zA2
  have vA : Hid (W1.heap.size ≤ mA) := toHid zA1
  replace BM := toHid (BM.out.below st)
  replace BY := toHid (BY.out.below st)
  replace N0 := toHid (N0.out.below st y1.out)
  replace N1 := toHid (N1.out.below st y1.out)
  replace y1 := toHid (Nat.le_trans y1.out st.size)
  replace hB := toHid (hB.out.on st)
  clear st hp zA1 zA2
  generalize wp2.alloc (.cells #[.bool u1, .int .i64 i1, .slice a5A p1.length c5A, .slice a6A s1.length c6A, .slice a7A t1.length c7A, .slice a8A l1.length c8A] 29) = W2 at BM BY BA N0 N1 NA OA hB y1 yA ⊢
  obtain ⟨m1, m2, m3⟩ := BM.out
  go_upto_region 4 with (go_at_call 6; refine (H3.out _ _ _ _ _ _ _ N0.out y1.out).mono ?_; rintro e wp3 ⟨a5B, c5B, a6B, c6B, a7B, c7B, a8B, c8B, bB, dB, rfl, NB, OB, hp⟩)
  clear m1 m2 m3 H3
  have BB := toHid (Box.new wp3 #[.bool u1, .int .i64 i1, .slice a5B p1.length c5B, .slice a6B s1.length c6B, .slice a7B t1.length c7B, .slice a8B l1.length c8B] 29)
  have st := hp.on ((Below.refl _ wp3).onA (.cells #[.bool u1, .int .i64 i1, .slice a5B p1.length c5B, .slice a6B s1.length c6B, .slice a7B t1.length c7B, .slice a8B l1.length c8B] 29))
  replace NB := toHid (NB.alloc (.cells #[.bool u1, .int .i64 i1, .slice a5B p1.length c5B, .slice a6B s1.length c6B, .slice a7B t1.length c7B, .slice a8B l1.length c8B] 29))
  have RB := toHid (OB.alloc (.cells #[.bool u1, .int .i64 i1, .slice a5B p1.length c5B, .slice a6B s1.length c6B, .slice a7B t1.length c7B, .slice a8B l1.length c8B] 29)).row
  replace BM := toHid (BM.out.below st)
  replace BY := toHid (BY.out.below st)
  replace BA := toHid (BA.out.below st)
  replace N0 := toHid (N0.out.below st y1.out)
  replace N1 := toHid (N1.out.below st y1.out)
  replace NA := toHid (NA.out.below st yA.out)
  replace OA := toHid (OA.out.below st)
  replace y1 := toHid (Nat.le_trans y1.out st.size)
  replace yA := toHid (Nat.le_trans yA.out st.size)
  have yB : Hid (wp3.heap.size ≤ (wp3.alloc (.cells #[.bool u1, .int .i64 i1, .slice a5B p1.length c5B, .slice a6B s1.length c6B, .slice a7B t1.length c7B, .slice a8B l1.length c8B] 29)).heap.size) := toHid (by simp)
  replace hB := toHid (hB.out.on st)
  clear st hp OB
  generalize wp3.alloc (.cells #[.bool u1, .int .i64 i1, .slice a5B p1.length c5B, .slice a6B s1.length c6B, .slice a7B t1.length c7B, .slice a8B l1.length c8B] 29) = W3 at BM BY BA BB N0 N1 NA NB OA RB hB y1 yA yB ⊢
  have RA := toHid OA.out.row
  obtain ⟨a1', a2', a3'⟩ := BA.out
  obtain ⟨b1', b2', b3'⟩ := BB.out
  go_upto_region 6 with (first
    | (go_at_call 7; refine (sameNode_same u1 i1 NA.out NB.out yA.out yB.out).mono ?_; rintro e W6 ⟨rfl, h6⟩
       replace BM := toHid (BM.out.below h6)
       replace BY := toHid (BY.out.below h6)
       replace BA := toHid (BA.out.below h6)
       replace N0 := toHid (N0.out.below h6 y1.out)
       replace N1 := toHid (N1.out.below h6 y1.out)
       replace NA := toHid (NA.out.below h6 yA.out)
       replace OA := toHid (OA.out.below h6)
       replace RA := toHid (RA.out.below h6 (Nat.le_refl _))
       replace RB := toHid (RB.out.below h6 (Nat.le_refl _))
       replace y1 := toHid (Nat.le_trans y1.out h6.size)
       replace yA := toHid (Nat.le_trans yA.out h6.size)
       have y3 : Hid (W3.heap.size ≤ W6.heap.size) := toHid h6.size
       replace hB := toHid (hB.out.on h6)
       clear h6 a1' a2' a3' b1' b2' b3')
    | (go_at_call 8; refine (sameMsgs_any RA.out y3.out RB.out y3.out).mono ?_; rintro e W7 ⟨rfl, h7⟩; rw [decide_eq_true rfl]
       replace BM := toHid (BM.out.below h7)
       replace BY := toHid (BY.out.below h7)
       replace BA := toHid (BA.out.below h7)
       replace N0 := toHid (N0.out.below h7 y1.out)
       replace N1 := toHid (N1.out.below h7 y1.out)
       replace NA := toHid (NA.out.below h7 yA.out)
       replace OA := toHid (OA.out.below h7)
       replace y1 := toHid (Nat.le_trans y1.out h7.size)
       replace yA := toHid (Nat.le_trans yA.out h7.size)
       replace hB := toHid (hB.out.on h7)
       clear h7)
    | (go_at_call 9; refine (num_any _ _).mono ?_; rintro e w' ⟨rfl, hw'⟩; subst w'))
  have vW : Hid (W1.heap.size ≤ W7.heap.size) := toHid (Nat.le_trans vA.out yA.out)
  obtain ⟨a1', a2', a3'⟩ := BA.out
  go_upto_region 7 with (go_at_call 10; refine (spoilNode_sp u1 i1 NA.out.spn vW.out yA.out).mono ?_; rintro e W8 ⟨rfl, s8⟩)
  clear a1' a2' a3'
  replace BM := toHid (BM.out.spl s8 (.inl e0.out))
  replace BY := toHid (BY.out.spl s8 (.inl e1.out))
  replace N0 := toHid (N0.out.below s8.below (Nat.le_refl _))
  replace N1 := toHid (N1.out.below s8.below (Nat.le_refl _))
  replace OA := toHid (ownM_spl OA.out s8 (Nat.le_refl _))
  replace y1 := toHid (Nat.le_trans y1.out s8.below.size)
  replace yA := toHid (Nat.le_trans yA.out s8.below.size)
  replace hB := toHid (hB.out.trans (s8.below.mono (Nat.le_of_lt e0.out)))
  clear s8 NA BA
  go_upto_region 8 with (go_at_call 11; refine (spoilMsgs_any OA.out yA.out hLM.out).mono ?_; rintro e W9 ⟨rfl, h9⟩)
  replace BM := toHid (BM.out.belowAt h9 (Nat.lt_of_lt_of_le e0.out vA.out))
  replace BY := toHid (BY.out.belowAt h9 (Nat.lt_of_lt_of_le e1.out vA.out))
  replace N0 := toHid (N0.out.below h9 vA.out)
  replace N1 := toHid (N1.out.below h9 vA.out)
  replace y1 := toHid (Nat.le_trans y1.out h9.size)
  replace hB := toHid (hB.out.trans (h9.mono (Nat.le_trans (Nat.le_of_lt e0.out) vA.out)))
  clear h9 OA hLM
  obtain ⟨m1, m2, m3⟩ := BM.out
  obtain ⟨b1', b2', b3'⟩ := BY.out
  go_wp2_with (first
    | (go_at_call 7; refine (sameNode_same up ni N1.out N0.out y1.out y1.out).mono ?_; rintro e WA ⟨rfl, hA⟩
       replace hB := toHid (hB.out.on hA)
       clear hA m1 m2 m3 b1' b2' b3')
    | (go_at_call 12; refine (awake19_any _).mono ?_; rintro e WB ⟨rfl, hb⟩))
  go_ret
  exact ⟨rfl, hB.out.on hb⟩

/-! ### The row's step -/
set_option maxRecDepth 100000 in
theorem lifted (os : Os) (started : os.Started) (H : Type) (enc : TypeId × Value → H) :
    ReturnsInHanded {} Tryz.checked os 3 .any (Rows.ticksSpec.pre6 enc Tryz.prog Tryz.f3 Rows.ticksRow.domain false) (Rows.ticksSpec.post enc Tryz.prog Tryz.f3 false true false false) := by
  refine returnsInHanded_of_change_sized (C := Tryz.checked) ownK started (by kernel_rfl) Tryz.func3
    (ChangeSpec.witness6 (enc := enc) (C := Tryz.checked) false ⟨#[], #[.agg #[.bool false, .int .i64 0, .slice none 0 0, .slice none 0 0, .slice none 0 0, .slice none 0 0]], []⟩ 8 (by kernel_rfl) (by kernel_rfl) (by kernel_rfl) (by kernel_rfl)) ?_
  intro W base args ds gs before hval0 hW hcnd hsz0 _
  have hsz : (DataW.weightsEach Tryz.prog (Tryz.f3.params.toList ++ Rows.ticksSpec.plain.varTypes Tryz.prog) (ds ++ gs)).all (· ≤ reachBytes) = true := hsz0
  have hval : ∀ (j : Nat) t v, Tryz.f3.params[j]? = some t → args[j]? = some v → Value.okWide Tryz.prog W .any base t v := hval0
  have hW' := hW
  obtain ⟨p, q, hA0, hV, rfl, hfz, hnd⟩ := hW
  have hA : DataW.TrodAll enc Tryz.prog W 0 (fun _ => true) true Tryz.f3.params.toList args.toList ds p := hA0
  rw [Tryz.params3] at hA hval hsz
  obtain ⟨v0, vs0, d0, ds0, p0, q0, hargs, rfl, rfl, h0, r0⟩ := trodAll_cons hA
  obtain ⟨rfl, rfl, rfl⟩ := trodAll_nil r0
  obtain rfl : args = #[v0] := by cases args; simp_all
  obtain ⟨rfl, rfl⟩ := trodVars_none hV
  clear r0
  have k0 := h0
  have lt0 : ∀ x ∈ p0, x.block < W.heap.size := by obtain ⟨m, hm⟩ := k0; exact DataW.trod_lt m _ _ _ hm
  have z0 : ∀ n ∈ d0.weights Tryz.prog 29, n ≤ reachBytes := fun n hn => by simpa using List.all_eq_true.1 hsz _ (DataW.weights_mem_each (j := 0) rfl rfl n hn)
  have f0 : W.noneFrozen p0 := fun b off hm => hfz b off (by simp [hm])
  obtain ⟨x0, r0, h0, s0, t0, u0, y0, w0, i0, j0, m0, n0⟩ := open_node (hval 0 29 v0 rfl rfl) h0 f0 z0
  clear hA0 hval0
  refine (walk v0 x0 W r0 h0 s0 t0 u0 y0 w0 i0 j0 m0 n0).mono fun e W' ⟨he, bel⟩ => ?_
  subst he
  exact ⟨_, rfl, _, _, _, [], _, [], hW', trodAll_mk1 (shut_bool Tryz.underlying4 _), (trodAll_cons_mk (Below.trod laidOut (by kernel_rfl) (of_decide_eq_true (by kernel_rfl)) k0 bel lt0) trodAll_mk0), rfl, bel.frame _, fun h => by cases h⟩

theorem over : Rows.ticksRow.holds Tryz.pinned (OpenSpec.ofChange Rows.ticksSpec) :=
  OpenClaim.holds_of_wide 3 Tryz.f3 rfl rfl rfl rfl rfl rfl rfl ⟨rfl, rfl, rfl, rfl, rfl⟩ rfl rfl rfl rfl rfl (by kernel_rfl) Tryz.func3 (by kernel_rfl)
    (of_decide_eq_true (by kernel_rfl)) (by unfold Func.isWrapper; first | (rw [if_pos (by decide +kernel)]; kernel_rfl) | (rw [if_neg (by decide +kernel)]; exact ⟨rfl, rfl⟩))
    (fun os started H enc _ => lifted os started H enc)

end Go.Proofs.YtghamcomjfholaaGreat.ticks

namespace Go.Proofs.YtghamcomjfholaaGreat
/-- The statement, by its short name. -/
theorem ticks_holds : Rows.TicksSaid := ticks.over
#print axioms ticks_holds
end Go.Proofs.YtghamcomjfholaaGreat
