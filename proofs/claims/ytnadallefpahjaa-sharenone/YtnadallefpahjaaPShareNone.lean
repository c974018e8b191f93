
/-
  The statement ShareNone: at a node that knows nobody, and at one that holds nothing, Of answers no message and no error.
-/
import Derived.Test.YtnadallefpahjaaRows
import Derived.Test.YtnadallefpahjaaOpen
import Derived.Test.YtnadallefpahjaaShareLaw
import Derived.Test.YtnadallefpahjaaShareMath
import Derived.Test.YtnadallefpahjaaRowBox
import Derived.Deep.DeepCutAuto
import Derived.Deep.CutRange
import Derived.Deep.CutBlock
namespace Go.Proofs.Ytnadallefpahjaa.shareNone
open Go.ChangeShapes Go.WideShapes Go.ChangeAt Go.RowKit
set_option linter.unusedVariables false

/-! ### The walk -/
/-- What the first statements leave: a node that knows nobody in a variable. -/
def AloneN (i : Int) (b lo : Nat) (w wx : World) : Prop := ∃ (p q r s : Value) (is : List Int), Box wx b #[.bool true, .int .i64 i, p, q, r, s] ∧
  NdAt 0 wx.heap.size wx p q r s [] is gnT [] ∧ vwB i [] is = true ∧ Below lo w wx
theorem alone_ok {i : Int} {is : List Int} (h : vwB i [] is = true) : ndB ⟨true, i, [], is, gnT, []⟩ = true := by
  rw [ndB_up, h]
  decide +kernel
theorem alone_none {i : Int} {is : List Int} (h : vwB i [] is = true) : shL i [] is gnT = [] := shL_none h (stB_iff.1 (by decide +kernel : stB gnT = true)).1
theorem alone_nil {i : Int} (h : plB i = true) : vwB i [] [] = true := by rw [vwB_none]; exact h
theorem alone_one {i p : Int} (h : plB i = true) (hp : plB p = true) (hn : ¬ p = i) : vwB i [] [p] = true := by
  have h0 := (vwB_iff.1 (alone_nil h)).1
  refine vwB_iff.2 ⟨h0, ?_, by simp, fun y hy => ?_⟩
  · simp [paB, Up, plsB, hp]
  · rw [List.mem_singleton.1 hy]
    simp [idL, nmL, hn]

set_option maxRecDepth 20000 in
set_option maxHeartbeats 8000000 in
theorem walk (a0 : Int) (a1 : Int) (w : World) (w0 : (Lit.int .i64 a0).wf = true) (w1 : (Lit.int .i64 a1).wf = true) :
    Calls Try.prog 8 #[.int .i64 a0, .int .i64 a1] w fun e w' => e = .returned (.bool true) ∧ Below w.heap.size w w' := by
  have e1 : bits .and .i64 a0 255 = a0 % 256 := and255 a0
  have e2 : bits .and .i64 a1 255 = a1 % 256 := and255 a1
  obtain ⟨i, hi⟩ : ∃ x, a0 % 256 = x := ⟨_, rfl⟩
  obtain ⟨p, hp⟩ : ∃ x, a1 % 256 = x := ⟨_, rfl⟩
  have i1 := toHid (plB_mk (a := i) (by omega) (by omega))
  have p1 := toHid (plB_mk (a := p) (by omega) (by omega))
  rw [hi] at e1
  rw [hp] at e2
  clear hi hp w0 w1
  have hB := toHid (Below.refl w.heap.size w)
  go_enter Try.func8, Try.ntmps8
  go_upto_region 4 with (first
    | (go_at_call 16; refine (awake18_any _).mono ?_; rintro e w1 ⟨rfl, h1⟩)
    | (go_at_call 21; refine (gNode_any _).mono ?_; rintro e w2 ⟨a, b, c, rfl, N2, h2⟩
       have k2 := toHid ((hB.out.on h1).on h2)
       clear h1 h2 hB))
  have X1 := toHid (Box.new w2 #[.bool true, .int .i64 100, .slice a 3 3, .slice b 1 1, .slice c 3 3, .slice none 0 0] 29)
  have T1 := toHid ((N2.ts.alloc (.cells #[.bool true, .int .i64 100, .slice a 3 3, .slice b 1 1, .slice c 3 3, .slice none 0 0] 29) ItV_len).wide (Nat.zero_le _) (hi' := w2.heap.size) (Nat.le_refl _))
  have k3 := toHid (k2.out.onA (.cells #[.bool true, .int .i64 100, .slice a 3 3, .slice b 1 1, .slice c 3 3, .slice none 0 0] 29))
  have z2 : Hid (w.heap.size ≤ w2.heap.size) := toHid k2.out.size
  clear N2 k2
  generalize w2.alloc (.cells #[.bool true, .int .i64 100, .slice a 3 3, .slice b 1 1, .slice c 3 3, .slice none 0 0] 29) = W1 at X1 T1 k3 ⊢
  obtain ⟨x1, x2, x3⟩ := X1.out
  go_upto_region 6 with (fail)
  have S3 := (((Only.refl w2.heap.size (w2.heap.size + 1) W1).setCell (b := w2.heap.size) (o := 1) (Nat.le_refl _) (Nat.lt_succ_self _) (.int .i64 i)).setCell (b := w2.heap.size) (o := 2) (Nat.le_refl _) (Nat.lt_succ_self _) (.slice none 0 0)).setCell (b := w2.heap.size) (o := 3) (Nat.le_refl _) (Nat.lt_succ_self _) (.slice none 0 0)
  have X2 := toHid (((X1.out.setS (ys := #[.bool true, .int .i64 i, .slice a 3 3, .slice b 1 1, .slice c 3 3, .slice none 0 0]) 1 (.int .i64 i) (by simp) (by simp)).setS (ys := #[.bool true, .int .i64 i, .slice none 0 0, .slice b 1 1, .slice c 3 3, .slice none 0 0]) 2 (.slice none 0 0) (by simp) (by simp)).setS (ys := #[.bool true, .int .i64 i, .slice none 0 0, .slice none 0 0, .slice c 3 3, .slice none 0 0]) 3 (.slice none 0 0) (by simp) (by simp))
  have T2 := toHid (T1.out.only S3 (.inl (Nat.le_refl _)))
  have k4 := toHid (k3.out.trans (S3.below.mono z2.out))
  clear X1 T1 k3 S3 x1 x2 x3
  generalize ((W1.setCell ⟨w2.heap.size, 1, none⟩ (.int .i64 i)).setCell ⟨w2.heap.size, 2, none⟩ (.slice none 0 0)).setCell ⟨w2.heap.size, 3, none⟩ (.slice none 0 0) = W2 at X2 T2 k4 ⊢
  obtain ⟨bq, hbq⟩ : ∃ x, (p == i) = x := ⟨_, rfl⟩
  go_upto_if 24 with (fail)
  go_cut [] from 25 to 28 (fun wx => AloneN i w2.heap.size w2.heap.size W2 wx)
  case first =>
    obtain ⟨x1, x2, x3⟩ := X2.out
    cases bq with
    | true =>
      go_wp2
      go_meet
      exact ⟨_, _, _, _, [], X2.out, NdAt.wide ⟨⟨RowC.nil0, RowI.nil0⟩, T2.out, RowC.nil0⟩ (Nat.le_refl _) (Nat.le_of_lt X2.out.1), alone_nil i1.out, Below.refl _ _⟩
    | false =>
      have hpi : ¬ p = i := by simpa using hbq
      go_wp2
      go_meet
      have ON := (Only.refl w2.heap.size (w2.heap.size + 1) W2).setCell (o := 3) (Nat.le_refl _) (Nat.lt_succ_self _) (.slice (some ⟨W2.heap.size, 0, none⟩) 1 1)
      exact ⟨_, _, _, _, [p], (X2.out.setS (ys := #[.bool true, .int .i64 i, .slice none 0 0, .slice (some ⟨W2.heap.size, 0, none⟩) 1 1, .slice c 3 3, .slice none 0 0]) 3 _ (by simp) (by simp)).alloc _,
        ⟨⟨RowC.nil0, (Box.rowI [p] (Box.newAt _ _ (World.size_setCell _ _ _).symm) rfl rfl (by show 1 ≤ maxLen; decide)).wide (Nat.zero_le _) (by simp)⟩, ((T2.out.only ON (.inl (Nat.le_refl _))).alloc (.cells #[.int .i64 p] 3) ItV_len).wide (Nat.zero_le _) (by simp; omega), RowC.nil0⟩, alone_one i1.out p1.out hpi,
        ON.below.trans (((Below.refl _ _).onA _).mono (by have := ON.size; omega))⟩
  case rest =>
    obtain ⟨p, q, r, s, is, BX, N, hv, hB⟩ := hcut
    have hE : Hid ((if (true && ndB ⟨true, i, [], is, gnT, []⟩) = true then (0 : Int) else 1800) = 0) := toHid (by rw [alone_ok hv]; rfl)
    have hL : Hid ((if (true && ndB ⟨true, i, [], is, gnT, []⟩) = true then shL i [] is gnT else []) = []) := toHid (by rw [alone_ok hv]; exact alone_none hv)
    have k5 := toHid (k4.out.trans (hB.mono z2.out))
    obtain ⟨a, c, a', c', a2, c2, a3, c3, rfl, rfl, rfl, rfl⟩ := N.shape
    replace N := toHid N
    clear hB k4 hv X2 T2 hbq e1 e2
    obtain ⟨x1, x2, x3⟩ := BX
    go_upto_region 9 with (go_at_call 10; refine (sOf_at true i N.out (Nat.le_refl _) hE.out hL.out).mono ?_; rintro e w5 ⟨v, rfl, O, h5⟩
                           obtain ⟨v1, v2, rfl⟩ := O.cap
                           have k6 := toHid (k5.out.on h5)
                           clear O h5)
    clear x1 x2 x3 hE hL N k5
    go_upto_region 10 with (go_at_call 21; refine (gNode_any _).mono ?_; rintro e w6 ⟨ya, yb, yc, rfl, N6, h6⟩)
    have X6 := toHid (Box.new w6 #[.bool true, .int .i64 100, .slice ya 3 3, .slice yb 1 1, .slice yc 3 3, .slice none 0 0] 29)
    have V6 := toHid ((N6.vw.alloc (.cells #[.bool true, .int .i64 100, .slice ya 3 3, .slice yb 1 1, .slice yc 3 3, .slice none 0 0] 29)).wide (Nat.zero_le _) (hi' := w6.heap.size) (Nat.le_refl _))
    have z6 : Hid (w.heap.size ≤ w6.heap.size) := toHid (k6.out.on h6).size
    have k7 := toHid ((k6.out.on h6).onA (.cells #[.bool true, .int .i64 100, .slice ya 3 3, .slice yb 1 1, .slice yc 3 3, .slice none 0 0] 29))
    clear N6 h6 k6
    generalize w6.alloc (.cells #[.bool true, .int .i64 100, .slice ya 3 3, .slice yb 1 1, .slice yc 3 3, .slice none 0 0] 29) = W6 at X6 V6 k7 ⊢
    obtain ⟨x1, x2, x3⟩ := X6.out
    go_upto_region 11 with (fail)
    have ON := (Only.refl w6.heap.size (w6.heap.size + 1) W6).setCell (o := 4) (Nat.le_refl _) (Nat.lt_succ_self _) (.slice none 0 0)
    have X7 := toHid (X6.out.setS (ys := #[.bool true, .int .i64 100, .slice ya 3 3, .slice yb 1 1, .slice none 0 0, .slice none 0 0]) 4 (.slice none 0 0) (by simp) (by simp))
    have N7 : Hid (NdAt 0 w6.heap.size (W6.setCell ⟨w6.heap.size, 4, none⟩ (.slice none 0 0)) (.slice ya 3 3) (.slice yb 1 1) (.slice none 0 0) (.slice none 0 0) gnP [7] [] []) := toHid ⟨⟨V6.out.ps.only ON (.inl (Nat.le_refl _)), V6.out.is.only ON (.inl (Nat.le_refl _))⟩, RowC.nil0, RowC.nil0⟩
    have k8 := toHid (k7.out.trans (ON.below.mono z6.out))
    clear ON X6 V6 k7 x1 x2 x3
    generalize W6.setCell ⟨w6.heap.size, 4, none⟩ (.slice none 0 0) = W7 at X7 N7 k8 ⊢
    obtain ⟨x1, x2, x3⟩ := X7.out
    go_wp2_with (first
      | (go_at_call 10; refine (sOf_at (E := 0) (L := []) true 100 N7.out (Nat.le_of_lt X7.out.1) (by decide +kernel) (by decide +kernel)).mono ?_; rintro e w9 ⟨v, rfl, O, h9⟩
         obtain ⟨q1, q2, rfl⟩ := O.cap
         have k9 := toHid (k8.out.on h9)
         clear O h9 x1 x2 x3)
      | (go_at_call 13; refine (num_any _ _).mono ?_; rintro e w' ⟨rfl, hw'⟩; subst w'))
    go_ret
    exact ⟨rfl, k9.out⟩

/-! ### The row's step -/
set_option maxRecDepth 100000 in
theorem lifted (os : Os) (started : os.Started) (H : Type) (enc : TypeId × Value → H) :
    ReturnsInHanded {} Try.checked os 8 .any (Rows.shareNoneSpec.pre6 enc Try.prog Try.f8 Rows.shareNoneRow.domain false) (Rows.shareNoneSpec.post enc Try.prog Try.f8 false true false false) := by
  refine returnsInHanded_of_change_sized (C := Try.checked) ownK started (by kernel_rfl) Try.func8
    (ChangeSpec.witness6 (enc := enc) (C := Try.checked) false ⟨#[], #[.int .i64 0, .int .i64 0], []⟩ 8 (by kernel_rfl) (by kernel_rfl) (by kernel_rfl) (by kernel_rfl)) ?_
  intro W base args ds gs before hval0 hW hcnd hsz0 _
  have hsz : (DataW.weightsEach Try.prog (Try.f8.params.toList ++ Rows.shareNoneSpec.plain.varTypes Try.prog) (ds ++ gs)).all (· ≤ reachBytes) = true := hsz0
  have hval : ∀ (j : Nat) t v, Try.f8.params[j]? = some t → args[j]? = some v → Value.okWide Try.prog W .any base t v := hval0
  have hW' := hW
  obtain ⟨p, q, hA0, hV, rfl, hfz, hnd⟩ := hW
  have hA : DataW.TrodAll enc Try.prog W 0 (fun _ => true) true Try.f8.params.toList args.toList ds p := hA0
  rw [Try.params8] at hA hval hsz
  obtain ⟨v0, vs0, d0, ds0, p0, q0, hargs, rfl, rfl, h0, r0⟩ := trodAll_cons hA
  obtain ⟨v1, vs1, d1, ds1, p1, q1, rfl, rfl, rfl, h1, r1⟩ := trodAll_cons r0
  obtain ⟨rfl, rfl, rfl⟩ := trodAll_nil r1
  obtain rfl : args = #[v0, v1] := by cases args; simp_all
  obtain ⟨rfl, rfl⟩ := trodVars_none hV
  clear r0 r1
  have k0 := h0
  have lt0 : ∀ x ∈ p0, x.block < W.heap.size := by obtain ⟨m, hm⟩ := k0; exact DataW.trod_lt m _ _ _ hm
  have k1 := h1
  have lt1 : ∀ x ∈ p1, x.block < W.heap.size := by obtain ⟨m, hm⟩ := k1; exact DataW.trod_lt m _ _ _ hm
  obtain ⟨a0, rfl, rfl, rfl, w0⟩ := open_int Try.underlying3 (hval 0 3 v0 rfl rfl) h0
  obtain ⟨a1, rfl, rfl, rfl, w1⟩ := open_int Try.underlying3 (hval 1 3 v1 rfl rfl) h1
  clear hA0 hval0
  refine (walk a0 a1 W w0 w1).mono fun e W' ⟨he, bel⟩ => ?_
  subst he
  exact ⟨_, rfl, _, _, _, [], _, [], hW', trodAll_mk1 (shut_bool Try.underlying4 _), (trodAll_cons_mk (Below.trod laidOut (by kernel_rfl) (of_decide_eq_true (by kernel_rfl)) k0 bel lt0) (trodAll_cons_mk (Below.trod laidOut (by kernel_rfl) (of_decide_eq_true (by kernel_rfl)) k1 bel lt1) trodAll_mk0)), rfl, bel.frame _, fun h => by cases h⟩

theorem over : Rows.shareNoneRow.holds Try.pinned (OpenSpec.ofChange Rows.shareNoneSpec) :=
  OpenClaim.holds_of_wide 8 Try.f8 rfl rfl rfl rfl rfl rfl rfl ⟨rfl, rfl, rfl, rfl, rfl⟩ rfl rfl rfl rfl rfl (by kernel_rfl) Try.func8 (by kernel_rfl)
    (of_decide_eq_true (by kernel_rfl)) (by unfold Func.isWrapper; first | (rw [if_pos (by decide +kernel)]; kernel_rfl) | (rw [if_neg (by decide +kernel)]; exact ⟨rfl, rfl⟩))
    (fun os started H enc _ => lifted os started H enc)

end Go.Proofs.Ytnadallefpahjaa.shareNone

namespace Go.Proofs.Ytnadallefpahjaa
/-- The statement, by its short name. -/
theorem shareNone_holds : Rows.ShareNoneSaid := shareNone.over
#print axioms shareNone_holds
end Go.Proofs.Ytnadallefpahjaa
