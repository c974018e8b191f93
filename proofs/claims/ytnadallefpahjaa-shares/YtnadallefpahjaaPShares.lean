
/-
  The statement Shares: at any node, Of answers the messages and the error that the document's own answer has, and leaves the node as it was, even when what it answered is written over.
-/
import Derived.Test.YtnadallefpahjaaRows
import Derived.Test.YtnadallefpahjaaOpen
import Derived.Test.YtnadallefpahjaaShareLaw
import Derived.Test.YtnadallefpahjaaMsgsSame
import Derived.Test.YtnadallefpahjaaMsgsSpoil
import Derived.Test.YtnadallefpahjaaNodeCopy
import Derived.Test.YtnadallefpahjaaOpenN
import Derived.Deep.DeepCutAuto
import Derived.Deep.CutRange
import Derived.Deep.CutBlock
namespace Go.Proofs.Ytnadallefpahjaa.shares
open Go.ChangeShapes Go.WideShapes Go.ChangeAt Go.RowKit
set_option linter.unusedVariables false

/-! ### The walk -/
set_option maxHeartbeats 8000000 in
theorem walk (v0 : Value) (x0 : NdO) (w : World) (r0 : v0 = .agg #[.bool x0.up, .int .i64 x0.v.i, x0.v.p, x0.v.q, x0.r, x0.s]) (h0 : NdAt 0 w.heap.size w x0.v.p x0.v.q x0.r x0.s x0.v.ps x0.v.is x0.ts x0.ls) (s0 : x0.v.ps.length * 16 ≤ 140737488351232) (t0 : x0.v.is.length * 8 ≤ 140737488351232) (u0 : x0.ts.length * 40 ≤ 140737488351232) (y0 : x0.ls.length * 24 ≤ 140737488351232) (w0 : (Lit.int .i64 x0.v.i).wf = true) (i0 : ∀ y ∈ x0.v.ps, PeW y) (j0 : ∀ y ∈ x0.v.is, (Lit.int .i64 y).wf = true) (m0 : ∀ y ∈ x0.ts, ItW y) (n0 : ∀ y ∈ x0.ls, TeW y) :
    Calls Try.prog 3 #[v0] w fun e w' => e = .returned (.bool true) ∧ Below w.heap.size w w' := by
  obtain ⟨up, ⟨ni, ps, is, p, q⟩, ts, ls, r, s⟩ := x0
  dsimp only at r0 h0 s0 t0 u0 y0
  subst r0
  clear w0 i0 j0 m0 n0
  have H2 := toHid (fun (W : World) (p q r s : Value) (lo hi : Nat) (N : NdAt lo hi W p q r s ps is ts ls) (hh : hi ≤ W.heap.size) => sOf_any up ni N hh)
  have H3 := toHid (fun (W : World) (p q r s : Value) (lo hi : Nat) (N : NdAt lo hi W p q r s ps is ts ls) (hh : hi ≤ W.heap.size) => rShare_any up ni N hh s0)
  have hLM : Hid ((if (up && ndB ⟨up, ni, ps, is, ts, ls⟩) = true then shL ni ps is ts else []).length ≤ 9223372036854775807) := toHid (by
    have := shL_len ni ps is ts
    split
    · omega
    · simp)
  generalize (if (up && ndB ⟨up, ni, ps, is, ts, ls⟩) = true then shL ni ps is ts else []) = L at H2 H3 hLM
  generalize (if (up && ndB ⟨up, ni, ps, is, ts, ls⟩) = true then (0 : Int) else 1800) = E at H2 H3
  obtain ⟨a, c, a', c', a2, c2, a3, c3, rfl, rfl, rfl, rfl⟩ := h0.shape
  have BM := toHid (Box.new w #[.bool up, .int .i64 ni, .slice a ps.length c, .slice a' is.length c', .slice a2 ts.length c2, .slice a3 ls.length c3] 29)
  have N0 := toHid (h0.alloc (.cells #[.bool up, .int .i64 ni, .slice a ps.length c, .slice a' is.length c', .slice a2 ts.length c2, .slice a3 ls.length c3] 29))
  have hB := toHid ((Below.refl _ w).onA (.cells #[.bool up, .int .i64 ni, .slice a ps.length c, .slice a' is.length c', .slice a2 ts.length c2, .slice a3 ls.length c3] 29))
  have e0 : Hid (w.heap.size < (w.alloc (.cells #[.bool up, .int .i64 ni, .slice a ps.length c, .slice a' is.length c', .slice a2 ts.length c2, .slice a3 ls.length c3] 29)).heap.size) := toHid (by simp)
  clear h0
  go_enter Try.func3, Try.ntmps3
  go_upto_region 1 with (fail)
  generalize w.alloc (.cells #[.bool up, .int .i64 ni, .slice a ps.length c, .slice a' is.length c', .slice a2 ts.length c2, .slice a3 ls.length c3] 29) = wA at BM N0 hB e0 ⊢
  have HC := toHid (copyNode_any up ni N0.out (Nat.le_of_lt e0.out) (by omega) (by omega) (by omega) (by omega))
  clear s0 t0 u0 y0
  obtain ⟨m1, m2, m3⟩ := BM.out
  go_upto_region 2 with (go_at_call 9; refine HC.out.mono ?_; rintro e wp1 ⟨pp, qq, rr, ss, rfl, N1, hp1⟩
                         obtain ⟨b, d, b', d', b2, d2, b3, d3, rfl, rfl, rfl, rfl⟩ := id N1.shape)
  clear m1 m2 m3 HC
  have BY := toHid (Box.new wp1 #[.bool up, .int .i64 ni, .slice b ps.length d, .slice b' is.length d', .slice b2 ts.length d2, .slice b3 ls.length d3] 29)
  have st := hp1.on ((Below.refl _ wp1).onA (.cells #[.bool up, .int .i64 ni, .slice b ps.length d, .slice b' is.length d', .slice b2 ts.length d2, .slice b3 ls.length d3] 29))
  have N1a := (N1.alloc (.cells #[.bool up, .int .i64 ni, .slice b ps.length d, .slice b' is.length d', .slice b2 ts.length d2, .slice b3 ls.length d3] 29)).wide (Nat.zero_le _) (hi' := (wp1.alloc (.cells #[.bool up, .int .i64 ni, .slice b ps.length d, .slice b' is.length d', .slice b2 ts.length d2, .slice b3 ls.length d3] 29)).heap.size) (by simp)
  replace N1 := toHid N1a
  replace BM := toHid (BM.out.below st)
  replace N0 := toHid ((N0.out.below st (Nat.le_of_lt e0.out)).wide (Nat.le_refl _) (Nat.le_trans (Nat.le_of_lt e0.out) st.size))
  replace hB := toHid (hB.out.on st)
  clear st hp1 N1a e0
  generalize wp1.alloc (.cells #[.bool up, .int .i64 ni, .slice b ps.length d, .slice b' is.length d', .slice b2 ts.length d2, .slice b3 ls.length d3] 29) = W1 at BM BY N0 N1 hB ⊢
  have e0 := toHid BM.out.1
  have e1 := toHid BY.out.1
  have y1 := toHid (Nat.le_refl W1.heap.size)
  obtain ⟨m1, m2, m3⟩ := BY.out
  go_upto_region 3 with (go_at_call 10; refine (H2.out _ _ _ _ _ _ _ N1.out y1.out).mono ?_; rintro e W2 ⟨va, rfl, OA, hp⟩)
  clear m1 m2 m3 H2
  replace BM := toHid (BM.out.below hp)
  replace BY := toHid (BY.out.below hp)
  replace N0 := toHid (N0.out.below hp y1.out)
  replace N1 := toHid (N1.out.below hp y1.out)
  replace y1 := toHid (Nat.le_trans y1.out hp.size)
  replace hB := toHid (hB.out.on hp)
  replace OA := toHid OA
  clear hp
  obtain ⟨m1, m2, m3⟩ := BM.out
  go_upto_region 4 with (go_at_call 11; refine (H3.out _ _ _ _ _ _ _ N0.out y1.out).mono ?_; rintro e W3 ⟨vb, rfl, OB, hp⟩)
  clear m1 m2 m3 H3
  replace BM := toHid (BM.out.below hp)
  replace BY := toHid (BY.out.below hp)
  replace N0 := toHid (N0.out.below hp y1.out)
  replace N1 := toHid (N1.out.below hp y1.out)
  replace OA := toHid (OA.out.below hp)
  replace y1 := toHid (Nat.le_trans y1.out hp.size)
  replace hB := toHid (hB.out.on hp)
  have RA := toHid OA.out.row
  have RB := toHid OB.row
  clear hp OB
  go_upto_region 6 with (first
    | (go_at_call 12; refine (sameMsgs_any RA.out (Nat.le_refl _) RB.out (Nat.le_refl _)).mono ?_; rintro e W4 ⟨rfl, h4⟩; rw [decide_eq_true rfl])
    | (go_at_call 13; refine (num_any _ _).mono ?_; rintro e w' ⟨rfl, hw'⟩; subst w'))
  replace BM := toHid (BM.out.below h4)
  replace BY := toHid (BY.out.below h4)
  replace N0 := toHid (N0.out.below h4 y1.out)
  replace N1 := toHid (N1.out.below h4 y1.out)
  replace OA := toHid (OA.out.below h4)
  replace y1 := toHid (Nat.le_trans y1.out h4.size)
  replace hB := toHid (hB.out.on h4)
  clear h4 RA RB
  go_upto_region 7 with (go_at_call 14; refine (spoilMsgs_any OA.out y1.out hLM.out).mono ?_; rintro e W5 ⟨rfl, h5⟩)
  replace BM := toHid (BM.out.belowAt h5 e0.out)
  replace BY := toHid (BY.out.belowAt h5 e1.out)
  replace N0 := toHid (N0.out.below h5 (Nat.le_refl _))
  replace N1 := toHid (N1.out.below h5 (Nat.le_refl _))
  replace y1 := toHid (Nat.le_trans y1.out h5.size)
  replace hB := toHid (hB.out.trans (h5.mono (Nat.le_of_lt e0.out)))
  clear h5 OA hLM
  obtain ⟨m1, m2, m3⟩ := BM.out
  obtain ⟨b1', b2', b3'⟩ := BY.out
  go_wp2_with (first
    | (go_at_call 15; refine (sameNode_same up ni N1.out N0.out y1.out y1.out).mono ?_; rintro e WA ⟨rfl, hA⟩
       replace hB := toHid (hB.out.on hA)
       clear hA m1 m2 m3 b1' b2' b3')
    | (go_at_call 16; refine (awake18_any _).mono ?_; rintro e WB ⟨rfl, hb⟩))
  go_ret
  exact ⟨rfl, hB.out.on hb⟩

/-! ### The row's step -/
set_option maxRecDepth 100000 in
theorem lifted (os : Os) (started : os.Started) (H : Type) (enc : TypeId × Value → H) :
    ReturnsInHanded {} Try.checked os 3 .any (Rows.sharesSpec.pre6 enc Try.prog Try.f3 Rows.sharesRow.domain false) (Rows.sharesSpec.post enc Try.prog Try.f3 false true false false) := by
  refine returnsInHanded_of_change_sized (C := Try.checked) ownK started (by kernel_rfl) Try.func3
    (ChangeSpec.witness6 (enc := enc) (C := Try.checked) false ⟨#[], #[.agg #[.bool false, .int .i64 0, .slice none 0 0, .slice none 0 0, .slice none 0 0, .slice none 0 0]], []⟩ 8 (by kernel_rfl) (by kernel_rfl) (by kernel_rfl) (by kernel_rfl)) ?_
  intro W base args ds gs before hval0 hW hcnd hsz0 _
  have hsz : (DataW.weightsEach Try.prog (Try.f3.params.toList ++ Rows.sharesSpec.plain.varTypes Try.prog) (ds ++ gs)).all (· ≤ reachBytes) = true := hsz0
  have hval : ∀ (j : Nat) t v, Try.f3.params[j]? = some t → args[j]? = some v → Value.okWide Try.prog W .any base t v := hval0
  have hW' := hW
  obtain ⟨p, q, hA0, hV, rfl, hfz, hnd⟩ := hW
  have hA : DataW.TrodAll enc Try.prog W 0 (fun _ => true) true Try.f3.params.toList args.toList ds p := hA0
  rw [Try.params3] at hA hval hsz
  obtain ⟨v0, vs0, d0, ds0, p0, q0, hargs, rfl, rfl, h0, r0⟩ := trodAll_cons hA
  obtain ⟨rfl, rfl, rfl⟩ := trodAll_nil r0
  obtain rfl : args = #[v0] := by cases args; simp_all
  obtain ⟨rfl, rfl⟩ := trodVars_none hV
  clear r0
  have k0 := h0
  have lt0 : ∀ x ∈ p0, x.block < W.heap.size := by obtain ⟨m, hm⟩ := k0; exact DataW.trod_lt m _ _ _ hm
  have z0 : ∀ n ∈ d0.weights Try.prog 29, n ≤ reachBytes := fun n hn => by simpa using List.all_eq_true.1 hsz _ (DataW.weights_mem_each (j := 0) rfl rfl n hn)
  have f0 : W.noneFrozen p0 := fun b off hm => hfz b off (by simp [hm])
  obtain ⟨x0, r0, h0, s0, t0, u0, y0, w0, i0, j0, m0, n0⟩ := open_node (hval 0 29 v0 rfl rfl) h0 f0 z0
  clear hA0 hval0
  refine (walk v0 x0 W r0 h0 s0 t0 u0 y0 w0 i0 j0 m0 n0).mono fun e W' ⟨he, bel⟩ => ?_
  subst he
  exact ⟨_, rfl, _, _, _, [], _, [], hW', trodAll_mk1 (shut_bool Try.underlying4 _), (trodAll_cons_mk (Below.trod laidOut (by kernel_rfl) (of_decide_eq_true (by kernel_rfl)) k0 bel lt0) trodAll_mk0), rfl, bel.frame _, fun h => by cases h⟩

theorem over : Rows.sharesRow.holds Try.pinned (OpenSpec.ofChange Rows.sharesSpec) :=
  OpenClaim.holds_of_wide 3 Try.f3 rfl rfl rfl rfl rfl rfl rfl ⟨rfl, rfl, rfl, rfl, rfl⟩ rfl rfl rfl rfl rfl (by kernel_rfl) Try.func3 (by kernel_rfl)
    (of_decide_eq_true (by kernel_rfl)) (by unfold Func.isWrapper; first | (rw [if_pos (by decide +kernel)]; kernel_rfl) | (rw [if_neg (by decide +kernel)]; exact ⟨rfl, rfl⟩))
    (fun os started H enc _ => lifted os started H enc)

end Go.Proofs.Ytnadallefpahjaa.shares

namespace Go.Proofs.Ytnadallefpahjaa
/-- The statement, by its short name. -/
theorem shares_holds : Rows.SharesSaid := shares.over
#print axioms shares_holds
end Go.Proofs.Ytnadallefpahjaa
