
/-
  The statement TickForms: of a node that may not be, or is not up, Step answers the node with nothing, no message and the number of the error.
-/
import Derived.Test.YtghamcomjfholaaRows
import Derived.Test.YtghamcomjfholaaOpen
import Derived.Test.YtghamcomjfholaaTickMsg
import Derived.Test.YtghamcomjfholaaNodeCopy
import Derived.Test.YtghamcomjfholaaRowBox
import Derived.Deep.DeepCutAuto
import Derived.Deep.CutRange
import Derived.Deep.CutBlock
namespace Go.Proofs.Ytghamcomjfholaa.tickForms
open Go.ChangeShapes Go.WideShapes Go.ChangeAt Go.RowKit
set_option linter.unusedVariables false

/-! ### The walk -/
/-- What the switch leaves: a node in a variable, which may not be, or is not up. -/
def BadS (b lo : Nat) (w wx : World) : Prop := ∃ (up : Bool) (i : Int) (p q r s : Value) (ps : List Pe) (is : List Int) (ts : List It) (ls : List Te), Box wx b #[.bool up, .int .i64 i, p, q, r, s] ∧
  NdAt 0 wx.heap.size wx p q r s ps is ts ls ∧ (up && ndB ⟨up, i, ps, is, ts, ls⟩) = false ∧ Below lo w wx

theorem bad_long {n : Nat} (h : 64 < n) : ndB ⟨true, 100, gnP, [7], gnT, List.replicate n ⟨0, false, 0⟩⟩ = false := by
  have : ¬ n ≤ 64 := by omega
  simp [ndB, this]
set_option maxRecDepth 20000 in
set_option maxHeartbeats 8000000 in
theorem walk (a0 : Int) (a1 : Int) (w : World) (w0 : (Lit.int .i64 a0).wf = true) (w1 : (Lit.int .i64 a1).wf = true) :
    Calls Try.prog 3 #[.int .i64 a0, .int .i64 a1] w fun e w' => e = .returned (.bool true) ∧ Below w.heap.size w w' := by
  have ed : bits .and .i64 a1 1023 = a1 % 1024 := and1023 a1
  have e1 : bits .and .i64 a0 3 = a0 % 4 := and3 a0
  obtain ⟨d, hd⟩ : ∃ x, x = a1 % 1024 := ⟨_, rfl⟩
  have d0 : 0 ≤ d := by omega
  have d1 : d < 1024 := by omega
  rw [← hd] at ed
  obtain ⟨r4, hr1⟩ : ∃ r : Nat, (r : Int) = a0 % 4 := ⟨(a0 % 4).toNat, by omega⟩
  have hr4 : r4 < 4 := by omega
  rw [← hr1] at e1
  obtain ⟨n, hn⟩ : ∃ n : Nat, (n : Int) = 64 + (1 + d) := ⟨(64 + (1 + d)).toNat, by omega⟩
  have hn1 : Hid (64 < n ∧ n ≤ 2000) := toHid (by omega)
  replace hn := toHid hn
  clear hd hr1 w0 w1
  have hB := toHid (Below.refl w.heap.size w)
  go_enter Try.func3, Try.ntmps3
  go_upto_region 5 with (first
    | (go_at_call 7; refine (awake19_any _).mono ?_; rintro e w1 ⟨rfl, h1⟩)
    | (go_at_call 8; refine (gNode_any _).mono ?_; rintro e w2 ⟨a, b, c, rfl, N2, h2⟩
       have k2 := toHid ((hB.out.on h1).on h2)
       clear h1 h2 hB))
  have X1 := toHid (Box.new w2 #[.bool true, .int .i64 100, .slice a 3 3, .slice b 1 1, .slice c 3 3, .slice none 0 0] 30)
  have N1 := toHid ((N2.alloc (.cells #[.bool true, .int .i64 100, .slice a 3 3, .slice b 1 1, .slice c 3 3, .slice none 0 0] 30)).wide (Nat.zero_le _) (hi' := w2.heap.size) (Nat.le_refl _))
  have k3 := toHid (k2.out.onA (.cells #[.bool true, .int .i64 100, .slice a 3 3, .slice b 1 1, .slice c 3 3, .slice none 0 0] 30))
  have z2 : Hid (w.heap.size ≤ w2.heap.size) := toHid k2.out.size
  clear N2 k2
  generalize w2.alloc (.cells #[.bool true, .int .i64 100, .slice a 3 3, .slice b 1 1, .slice c 3 3, .slice none 0 0] 30) = W1 at X1 N1 k3 ⊢
  go_upto_block 0 with (fail)
  go_cut [] from 17 to 35 (fun wx => BadS w2.heap.size w2.heap.size W1 wx)
  case first =>
    obtain ⟨x1, x2, x3⟩ := X1.out
    match r4, hr4 with
    | 0, _ =>
      go_wp2
      go_meet
      have S6 := X1.out.set6 (.bool false) (.int .i64 100) (.slice none 0 0) (.slice none 0 0) (.slice none 0 0) (.slice none 0 0)
      exact ⟨false, 100, _, _, _, _, [], [], [], [], S6.1, NdAt.nil0, rfl, S6.2.below⟩
    | 1, _ =>
      go_wp2_with (first
        | (go_at_call 9; refine (gIt_any _ _ _).mono ?_; rintro e wi ⟨rfl, hi⟩
           have X2 := X1.out.below hi
           have N2 := toHid (N1.out.below hi (Nat.le_of_lt X1.out.1))
           have k4 := toHid hi
           clear x1 x2 x3 hi
           obtain ⟨x1, x2, x3⟩ := id X2))
      go_meet
      have ON := (Only.refl w2.heap.size (w2.heap.size + 1) wi).setCell (o := 4) (Nat.le_refl _) (Nat.lt_succ_self _) (.slice (some ⟨wi.heap.size, 0, none⟩) 1 1)
      have N5 := ((N2.out.only ON (.inl (Nat.le_refl _))).alloc (.cells #[.int .i64 9, .int .i64 0, .int .i64 1, .int .i64 0, .bool false] 35)).wide (Nat.zero_le _) (hi' := wi.heap.size + 1) (by have := X2.1; omega)
      exact ⟨true, 100, _, _, _, _, gnP, [7], [⟨9, 0, 1, 0, false⟩], [], (X2.setS (ys := #[.bool true, .int .i64 100, .slice a 3 3, .slice b 1 1, .slice (some ⟨wi.heap.size, 0, none⟩) 1 1, .slice none 0 0]) 4 _ (by simp) (by simp)).alloc _,
        NdAt.wide ⟨N5.vw, (Box.rowT [⟨9, 0, 1, 0, false⟩] (Box.newAt _ _ (World.size_setCell _ _ _).symm) rfl rfl (by decide)).wide (Nat.zero_le _) (Nat.le_refl _), RowC.nil0⟩ (Nat.le_refl _) (by simp), by decide +kernel,
        ((k4.out.mono (Nat.le_of_lt X1.out.1)).trans ON.below).trans (((Below.refl _ _).onA _).mono (by have := ON.size; have := X2.1; omega))⟩
    | 2, _ =>
      go_wp2
      go_meet
      have ON := (Only.refl w2.heap.size (w2.heap.size + 1) W1).setCell (o := 3) (Nat.le_refl _) (Nat.lt_succ_self _) (.slice (some ⟨W1.heap.size, 0, none⟩) 1 1)
      have N5 := ((N1.out.only ON (.inl (Nat.le_refl _))).alloc (.cells #[.int .i64 100] 3)).wide (Nat.zero_le _) (hi' := W1.heap.size + 1) (by have := X1.out.1; omega)
      exact ⟨true, 100, _, _, _, _, gnP, [100], gnT, [], (X1.out.setS (ys := #[.bool true, .int .i64 100, .slice a 3 3, .slice (some ⟨W1.heap.size, 0, none⟩) 1 1, .slice c 3 3, .slice none 0 0]) 3 _ (by simp) (by simp)).alloc _,
        NdAt.wide ⟨⟨N5.vw.ps, (Box.rowI [100] (Box.newAt _ _ (World.size_setCell _ _ _).symm) rfl rfl (by decide)).wide (Nat.zero_le _) (Nat.le_refl _)⟩, N5.ts, N5.ls⟩ (Nat.le_refl _) (by simp), by decide +kernel,
        ON.below.trans (((Below.refl _ _).onA _).mono (by have := ON.size; have := X1.out.1; omega))⟩
    | 3, _ =>
      go_wp2_with (at_make; refine make_tolds rfl _ _ rfl _ _ n rfl rfl (by have := hn.out; omega) (by have := hn.out; omega) (by have := hn1.out; omega) ?_; intro w4 R4 h4
                   have X2 := X1.out.below h4
                   have N2 := toHid (N1.out.below h4 (Nat.le_of_lt X1.out.1))
                   replace R4 := toHid R4
                   have k4 := toHid h4
                   clear x1 x2 x3 h4
                   obtain ⟨x1, x2, x3⟩ := id X2)
      go_meet
      have ON := (Only.refl w2.heap.size (w2.heap.size + 1) w4).setCell (o := 5) (Nat.le_refl _) (Nat.lt_succ_self _) (.slice (some ⟨W1.heap.size, 0, none⟩) n n)
      have N5 := (N2.out.only ON (.inl (Nat.le_refl _))).wide (Nat.zero_le _) (hi' := w4.heap.size) (by have := X2.1; omega)
      exact ⟨true, 100, _, _, _, _, gnP, [7], gnT, List.replicate n ⟨0, false, 0⟩,
        X2.setS (ys := #[.bool true, .int .i64 100, .slice a 3 3, .slice b 1 1, .slice c 3 3, .slice (some ⟨W1.heap.size, 0, none⟩) n n]) 5 _ (by simp) (by simp),
        NdAt.wide ⟨N5.vw, N5.ts, (R4.out.only ON (.inr X1.out.1)).wide (Nat.zero_le _) (Nat.le_refl _)⟩ (Nat.le_refl _) (Nat.le_of_eq ON.size.symm), by rw [bad_long hn1.out.1]; rfl, (k4.out.mono (Nat.le_of_lt X1.out.1)).trans ON.below⟩
  case rest =>
    obtain ⟨up, i, p, q, r, s, ps, is, ts, ls, BX, N, hbad, hB⟩ := hcut
    clear X1 N1 e1 ed hr4 hn hn1
    have hE : Hid (tiE ⟨up, i, ps, is, ts, ls⟩ = 1900) := toHid (by simp [tiE, hbad])
    have hN : Hid (tiN ⟨up, i, ps, is, ts, ls⟩ = ⟨false, 0, [], [], [], []⟩) := toHid (by simp [tiN, hbad, zeroN])
    have hL : Hid (tiM ⟨up, i, ps, is, ts, ls⟩ = []) := toHid (by simp [tiM, hbad])
    have k5 := toHid (k3.out.trans (hB.mono z2.out))
    obtain ⟨a, c, a', c', a2, c2, a3, c3, rfl, rfl, rfl, rfl⟩ := N.shape
    replace N := toHid N
    clear hB k3 hbad
    obtain ⟨x1, x2, x3⟩ := BX
    go_wp2_with (first
      | (go_at_call 10; refine (tStep_at up i N.out (Nat.le_refl _) hE.out hN.out hL.out).mono ?_; rintro e w5 ⟨a5, c5, a6, c6, a7, c7, a8, c8, b9, d9, m9, rfl, N5, -, -, m2, h5⟩
         have k6 := toHid ((k5.out.on h5).onA (.cells #[.bool false, .int .i64 0, .slice a5 ([] : List Pe).length c5, .slice a6 ([] : List Int).length c6, .slice a7 ([] : List It).length c7, .slice a8 ([] : List Te).length c8] 30))
         have N6 := toHid (N5.alloc (.cells #[.bool false, .int .i64 0, .slice a5 ([] : List Pe).length c5, .slice a6 ([] : List Int).length c6, .slice a7 ([] : List It).length c7, .slice a8 ([] : List Te).length c8] 30))
         have m3 : m9 ≤ (w5.alloc (.cells #[.bool false, .int .i64 0, .slice a5 ([] : List Pe).length c5, .slice a6 ([] : List Int).length c6, .slice a7 ([] : List It).length c7, .slice a8 ([] : List Te).length c8] 30)).heap.size := Nat.le_trans m2 (by simp)
         clear N5 h5)
      | (go_at_call 11; refine (sameNode_same false 0 N6.out (NdAt.nil0 (lo := 0) (hi := 0)) m3 (Nat.zero_le _)).mono ?_; rintro e w6 ⟨rfl, h6⟩
         have k7 := toHid (k6.out.on h6)
         clear h6)
      | (go_at_call 12; refine (num_any _ _).mono ?_; rintro e w' ⟨rfl, hw'⟩; subst w'))
    go_ret
    exact ⟨rfl, k7.out⟩

/-! ### The row's step -/
set_option maxRecDepth 100000 in
theorem lifted (os : Os) (started : os.Started) (H : Type) (enc : TypeId × Value → H) :
    ReturnsInHanded {} Try.checked os 3 .any (Rows.tickFormsSpec.pre6 enc Try.prog Try.f3 Rows.tickFormsRow.domain false) (Rows.tickFormsSpec.post enc Try.prog Try.f3 false true false false) := by
  refine returnsInHanded_of_change_sized (C := Try.checked) ownK started (by kernel_rfl) Try.func3
    (ChangeSpec.witness6 (enc := enc) (C := Try.checked) false ⟨#[], #[.int .i64 0, .int .i64 0], []⟩ 8 (by kernel_rfl) (by kernel_rfl) (by kernel_rfl) (by kernel_rfl)) ?_
  intro W base args ds gs before hval0 hW hcnd hsz0 _
  have hsz : (DataW.weightsEach Try.prog (Try.f3.params.toList ++ Rows.tickFormsSpec.plain.varTypes Try.prog) (ds ++ gs)).all (· ≤ reachBytes) = true := hsz0
  have hval : ∀ (j : Nat) t v, Try.f3.params[j]? = some t → args[j]? = some v → Value.okWide Try.prog W .any base t v := hval0
  have hW' := hW
  obtain ⟨p, q, hA0, hV, rfl, hfz, hnd⟩ := hW
  have hA : DataW.TrodAll enc Try.prog W 0 (fun _ => true) true Try.f3.params.toList args.toList ds p := hA0
  rw [Try.params3] at hA hval hsz
  obtain ⟨v0, vs0, d0, ds0, p0, q0, hargs, rfl, rfl, h0, r0⟩ := trodAll_cons hA
  obtain ⟨v1, vs1, d1, ds1, p1, q1, rfl, rfl, rfl, h1, r1⟩ := trodAll_cons r0
  obtain ⟨rfl, rfl, rfl⟩ := trodAll_nil r1
  obtain rfl : args = #[v0, v1] := by cases args; simp_all
  obtain ⟨rfl, rfl⟩ := trodVars_none hV
  clear r0 r1
  have k0 := h0
  have lt0 : ∀ x ∈ p0, x.block < W.heap.size := by obtain ⟨m, hm⟩ := k0; exact DataW.trod_lt m _ _ _ hm
  have k1 := h1
  have lt1 : ∀ x ∈ p1, x.block < W.heap.size := by obtain ⟨m, hm⟩ := k1; exact DataW.trod_lt m _ _ _ hm
  obtain ⟨a0, rfl, rfl, rfl, w0⟩ := open_int Try.underlying3 (hval 0 3 v0 rfl rfl) h0
  obtain ⟨a1, rfl, rfl, rfl, w1⟩ := open_int Try.underlying3 (hval 1 3 v1 rfl rfl) h1
  clear hA0 hval0
  refine (walk a0 a1 W w0 w1).mono fun e W' ⟨he, bel⟩ => ?_
  subst he
  exact ⟨_, rfl, _, _, _, [], _, [], hW', trodAll_mk1 (shut_bool Try.underlying4 _), (trodAll_cons_mk (Below.trod laidOut (by kernel_rfl) (of_decide_eq_true (by kernel_rfl)) k0 bel lt0) (trodAll_cons_mk (Below.trod laidOut (by kernel_rfl) (of_decide_eq_true (by kernel_rfl)) k1 bel lt1) trodAll_mk0)), rfl, bel.frame _, fun h => by cases h⟩

theorem over : Rows.tickFormsRow.holds Try.pinned (OpenSpec.ofChange Rows.tickFormsSpec) :=
  OpenClaim.holds_of_wide 3 Try.f3 rfl rfl rfl rfl rfl rfl rfl ⟨rfl, rfl, rfl, rfl, rfl⟩ rfl rfl rfl rfl rfl (by kernel_rfl) Try.func3 (by kernel_rfl)
    (of_decide_eq_true (by kernel_rfl)) (by unfold Func.isWrapper; first | (rw [if_pos (by decide +kernel)]; kernel_rfl) | (rw [if_neg (by decide +kernel)]; exact ⟨rfl, rfl⟩))
    (fun os started H enc _ => lifted os started H enc)

end Go.Proofs.Ytghamcomjfholaa.tickForms

namespace Go.Proofs.Ytghamcomjfholaa
/-- The statement, by its short name. -/
theorem tickForms_holds : Rows.TickFormsSaid := tickForms.over
#print axioms tickForms_holds
end Go.Proofs.Ytghamcomjfholaa
