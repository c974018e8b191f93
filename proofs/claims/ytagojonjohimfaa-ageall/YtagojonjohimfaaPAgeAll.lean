
/-
  The statement AgeAll: of any view, when nobody is heard for three ticks, all peers are lost, all of them are among the passive ones, and at each tick as many are greeted as were known; a view that may not be is refused.
-/
import Derived.Test.YtagojonjohimfaaRows
import Derived.Test.YtagojonjohimfaaOpen
import Derived.Test.YtagojonjohimfaaAgeLaw
import Derived.Test.YtagojonjohimfaaAgeBox
import Derived.Test.YtagojonjohimfaaViewRef
import Derived.Test.YtagojonjohimfaaOpenV
namespace Go.Proofs.Ytagojonjohimfaa.ageAll
open Go.ChangeShapes Go.WideShapes Go.ChangeAt Go.RowKit
set_option linter.unusedVariables false

/-! ### The walk -/
set_option maxHeartbeats 4000000 in
theorem walk (v0 : Value) (x0 : VwO) (w : World) (r0 : v0 = .agg #[.int .i64 x0.i, x0.p, x0.q]) (w0 : (Lit.int .i64 x0.i).wf = true) (h0 : VwAt 0 w.heap.size w x0.p x0.q x0.ps x0.is) (s0 : x0.ps.length * 16 ≤ 140737488351232) (t0 : x0.is.length * 8 ≤ 140737488351232) (u0 : ∀ y ∈ x0.ps, PeW y) (y0 : ∀ y ∈ x0.is, (Lit.int .i64 y).wf = true) :
    Calls Try.prog 5 #[v0] w fun e w' => e = .returned (.bool true) ∧ Below w.heap.size w w' := by
  obtain ⟨i, ps, is, p, q⟩ := x0
  dsimp only at r0 w0 h0 s0 t0 u0 y0
  subst r0
  clear w0 u0 y0 t0
  have VV := toHid (fun (o : Obj) (w1 : World) (hb : Below (w.alloc o).heap.size (w.alloc o) w1) => (h0.alloc o).below hb (by simp))
  have B1 := toHid (fun (cs : Array Value) (t : TypeId) => Box.new w cs t)
  obtain ⟨a, c, a', c', ep, eq, hn, hn'⟩ := h0.shape
  subst ep eq
  clear h0
  rcases Bool.eq_false_or_eq_true (vwB i ps is) with hB | hB
  · have hO := toHid (tkN_ok (i := i) (s := (ps, is)) hB)
    have hZ := toHid (tkN_size (i := i) (s := (ps, is)) hB)
    have hG : Hid ((tkN 3 (ps, is)).1 = []) := toHid (tk_gone (i := i) (s := (ps, is)) hB)
    obtain ⟨N, hN⟩ : ∃ N, ps.length + is.length = N := ⟨_, rfl⟩
    have hN1 : (N : Int) = (ps.length : Int) + (is.length : Int) := by omega
    have hl : ps.length + is.length ≤ 16 := (vwB_iff.1 hB).2.2.1
    replace hN := toHid hN
    clear hB s0
    go_enter Try.func5, Try.ntmps5
    go_wp2_with (first
      | (go_at_call 15; refine (awake11_any _).mono ?_; rintro e w1 ⟨rfl, hk⟩
         obtain ⟨b1, b2, b3⟩ := (B1.out _ _).below hk))
    have z1 : w.heap.size + 1 ≤ w1.heap.size := Nat.le_trans (by simp) hk.size
    have X0 : Hid (VaBut w1.heap.size (w1.alloc (.cells #[.int .i64 i, .slice a ps.length c, .slice a' is.length c'] 25)) (.slice a ps.length c) (.slice a' is.length c') (tkN 0 (ps, is)).1 (tkN 0 (ps, is)).2) := toHid ⟨_, _, (VV.out _ _ hk).alloc _, by simp; omega, .inl (by omega)⟩
    have BX0 := toHid (Box.new w1 #[.int .i64 i, .slice a ps.length c, .slice a' is.length c'] 25)
    have BV0 := toHid (((B1.out _ _).below hk).alloc (.cells #[.int .i64 i, .slice a ps.length c, .slice a' is.length c'] 25))
    have hb0 := toHid ((((Below.refl _ w).onA _).on hk).onA (.cells #[.int .i64 i, .slice a ps.length c, .slice a' is.length c'] 25))
    clear b1 b2 b3 VV B1 hk
    generalize w1.heap.size = bo at *
    go_loopw [4] (fun j wr => ∃ (k : Nat) (p q : Value), k ≤ 3 ∧ j = .int .i64 k ∧ Hid (VaBut bo wr p q (tkN k (ps, is)).1 (tkN k (ps, is)).2) ∧ Hid (Box wr bo #[.int .i64 i, p, q]) ∧ Hid (Box wr w.heap.size #[.int .i64 i, .slice a ps.length c, .slice a' is.length c']) ∧ Hid (Below w.heap.size w wr)) (fun j _ => 3 - (intOf j).toNat)
    case atStart => exact ⟨0, _, _, by omega, rfl, X0, BX0, BV0, hb0⟩
    case round =>
      clear X0 BX0 BV0 hb0
      obtain ⟨k, p, q, hk, rfl, X, BX, BV, hbel⟩ := hrel
      by_cases hlt : k < 3
      · have ok := toHid (hO.out k)
        have sz := toHid (hZ.out k)
        have hst : Hid (tkN (k + 1) (ps, is) = tkS (tkN k (ps, is))) := toHid rfl
        have sz' := toHid (hZ.out (k + 1))
        clear hO hZ hG
        rw [hst.out] at sz'
        obtain ⟨⟨s1, s2⟩, hs⟩ : ∃ s, tkN k (ps, is) = s := ⟨_, rfl⟩
        rw [hs] at X ok sz hst sz'
        dsimp only at X sz
        clear hs
        obtain ⟨⟨u1, u2⟩, hu⟩ : ∃ s, tkS (s1, s2) = s := ⟨_, rfl⟩
        have KT := toHid (fun (W : World) (p q : Value) (h : VaBut bo W p q s1 s2) => (by
          obtain ⟨lo, hi, V, h1, -⟩ := h.out
          exact aTick_at (n3 := N) V h1 (tk_yes (s := (s1, s2)) ok.out).1 ((tk_yes (s := (s1, s2)) ok.out).2.1.trans hu) (tk_yes (s := (s1, s2)) ok.out).2.2.1 (tk_yes (s := (s1, s2)) ok.out).2.2.2 rfl rfl ((tkG_len ok.out).trans (sz.out.trans hN.out)) : Calls Try.prog 8 #[.agg #[.int .i64 i, p, q]] W fun e w' => ∃ a c a' c' b d, e = .returned (.tuple #[.agg #[.int .i64 i, .slice a u1.length c, .slice a' u2.length c'], .slice b N d, .int .i64 0]) ∧ VgNew W.heap.size w' (.slice a u1.length c) (.slice a' u2.length c') (.slice b N d) u1 u2 (tkG (s1, s2)) ∧ Below W.heap.size W w'))
        obtain ⟨a5, c5, a5', c5', ep5, eq5⟩ := X.out.shape
        subst ep5 eq5
        rw [hu] at hst
        have hlt' : (k : Int) < 3 := by omega
        obtain ⟨b1, b2, b3⟩ := id BX.out
        clear ok sz sz' hu
        go_wp2_with (first
          | (go_at_call 8; refine (KT.out _ _ _ X.out).mono ?_; rintro e w6 ⟨a6, c6, a6', c6', b6, d6, rfl, X6, h6⟩
             clear b1 b2 b3
             have hz6 : bo < w6.heap.size := (BX.out.below h6).1
             have hz7 : w.heap.size < w6.heap.size := (BV.out.below h6).1
             have hS6 := ((((Only.refl bo (bo + 1) w6).setCell (o := 0) (Nat.le_refl _) (Nat.lt_succ_self _) (.int .i64 i)).setCell (b := bo) (o := 1) (Nat.le_refl _) (Nat.lt_succ_self _) (.slice a6 u1.length c6)).setCell (b := bo) (o := 2) (Nat.le_refl _) (Nat.lt_succ_self _) (.slice a6' u2.length c6'))
             have X7 := toHid (((X6.vw.va (b := bo) BX.out.1).set hS6).below ((Below.refl _ _).onA (.cells #[.int .i64 i, .slice a6 u1.length c6, .slice a6' u2.length c6'] 25)))
             have BX7 := toHid (((((BX.out.below h6).setS (ys := #[.int .i64 i, .slice a5 s1.length c5, .slice a5' s2.length c5']) 0 (.int .i64 i) (by simp) (by simp)).setS (ys := #[.int .i64 i, .slice a6 u1.length c6, .slice a5' s2.length c5']) 1 (.slice a6 u1.length c6) (by simp) (by simp)).setS (ys := #[.int .i64 i, .slice a6 u1.length c6, .slice a6' u2.length c6']) 2 (.slice a6' u2.length c6') (by simp) (by simp)).alloc (.cells #[.int .i64 i, .slice a6 u1.length c6, .slice a6' u2.length c6'] 25))
             have BV7 := toHid (((((BV.out.below h6).setO bo 0 (.int .i64 i) (by omega)).setO bo 1 (.slice a6 u1.length c6) (by omega)).setO bo 2 (.slice a6' u2.length c6') (by omega)).alloc (.cells #[.int .i64 i, .slice a6 u1.length c6, .slice a6' u2.length c6'] 25))
             have hbel7 := toHid (((hbel.out.on h6).trans (hS6.below.mono (by omega))).onA (.cells #[.int .i64 i, .slice a6 u1.length c6, .slice a6' u2.length c6'] 25))
             clear hS6
             obtain ⟨b1, b2, b3⟩ := BX.out.below h6
             obtain ⟨d1, d2, d3⟩ := BV.out.below h6
             clear X6 h6)
          | (go_at_call 12; refine (num_any _ _).mono ?_; rintro e w' ⟨rfl, hw'⟩; subst w'))
        go_roundw
        case rel => exact ⟨k + 1, _, _, by omega, by go_num, by rw [hst.out]; exact X7, BX7, BV7, hbel7⟩
        case measure => simp [intOf]; omega
      · obtain rfl : k = 3 := by omega
        have e0 := hG.out
        have e1 := hZ.out 3
        obtain ⟨⟨s1, s2⟩, hs⟩ : ∃ s, tkN 3 (ps, is) = s := ⟨_, rfl⟩
        rw [hs] at X e0 e1
        dsimp only at X e0 e1
        subst e0
        obtain ⟨a5, c5, a5', c5', ep5, eq5⟩ := X.out.shape
        subst ep5 eq5
        have hs2 : (s2.length : Int) = (ps.length : Int) + (is.length : Int) := by simp at e1; omega
        obtain ⟨b1, b2, b3⟩ := id BX.out
        obtain ⟨d1, d2, d3⟩ := id BV.out
        have hfd : ∀ (ga gb : Option Addr) (W : World), (Instr.field 25 (.agg #[.int .i64 100, .slice ga 3 3, .slice gb 2 2]) 1).run Try.prog W = .ok (.slice ga 3 3) W := fun _ _ _ => by kernel_rfl
        clear hO hZ hG hs X e1 hN1
        go_wp2_with (first
          | (go_at_call 18; refine (given11_any _).mono ?_; rintro e w7 ⟨ga, gb, rfl, -, h7⟩))
        go_ret
        exact ⟨rfl, hbel.out.on h7⟩
  · have KT := toHid (fun (W : World) (h : VwAt 0 w.heap.size W (.slice a ps.length c) (.slice a' is.length c') ps is) (hh : w.heap.size ≤ W.heap.size) => aTick_at (n1 := 0) (n2 := 0) (n3 := 0) h hh (tk_no (s := (ps, is)) hB).1 (tk_no (s := (ps, is)) hB).2.1 (tk_no (s := (ps, is)) hB).2.2.1 (tk_no (s := (ps, is)) hB).2.2.2 rfl rfl rfl)
    have KM := toHid (fun (W : World) (h : VwAt 0 w.heap.size W (.slice a ps.length c) (.slice a' is.length c') ps is) (hh : w.heap.size ≤ W.heap.size) => hB ▸ rVMay_any i h hh s0)
    clear hB
    go_enter Try.func5, Try.ntmps5
    go_wp2_with (first
      | (go_at_call 15; refine (awake11_any _).mono ?_; rintro e w1 ⟨rfl, hk⟩
         obtain ⟨b1, b2, b3⟩ := (B1.out _ _).below hk))
    have z1 : w.heap.size + 1 ≤ w1.heap.size := Nat.le_trans (by simp) hk.size
    have V0 := toHid ((VV.out _ _ hk).alloc (.cells #[.int .i64 i, .slice a ps.length c, .slice a' is.length c'] 25))
    have BX0 := toHid (Box.new w1 #[.int .i64 i, .slice a ps.length c, .slice a' is.length c'] 25)
    have BV0 := toHid (((B1.out _ _).below hk).alloc (.cells #[.int .i64 i, .slice a ps.length c, .slice a' is.length c'] 25))
    have hb0 := toHid ((((Below.refl _ w).onA _).on hk).onA (.cells #[.int .i64 i, .slice a ps.length c, .slice a' is.length c'] 25))
    clear b1 b2 b3 VV B1 hk
    generalize w1.heap.size = bo at *
    go_loopw [4] (fun j wr => j = .int .i64 0 ∧ Hid (VwAt 0 w.heap.size wr (.slice a ps.length c) (.slice a' is.length c') ps is) ∧ Hid (Box wr bo #[.int .i64 i, .slice a ps.length c, .slice a' is.length c']) ∧ Hid (Box wr w.heap.size #[.int .i64 i, .slice a ps.length c, .slice a' is.length c']) ∧ Hid (Below w.heap.size w wr)) (fun _ _ => 0)
    case atStart => exact ⟨rfl, V0, BX0, BV0, hb0⟩
    case round =>
      clear V0 BX0 BV0 hb0
      obtain ⟨rfl, V, BX, BV, hbel⟩ := hrel
      obtain ⟨b1, b2, b3⟩ := id BX.out
      go_wp2_with (first
        | (go_at_call 8; refine (KT.out _ V.out hbel.out.size).mono ?_; rintro e w6 ⟨a6, c6, a6', c6', b6, d6, rfl, -, h6⟩
           clear b1 b2 b3
           obtain ⟨d1, d2, d3⟩ := BV.out.below h6
           have V6 := toHid ((V.out.below h6 hbel.out.size).alloc (.cells #[.int .i64 0, .slice a6 0 c6, .slice a6' 0 c6'] 25))
           have hbel6 := toHid ((hbel.out.on h6).onA (.cells #[.int .i64 0, .slice a6 0 c6, .slice a6' 0 c6'] 25)))
        | (go_at_call 17; refine (KM.out _ V6.out hbel6.out.size).mono ?_; rintro e w7 ⟨rfl, h7⟩)
        | (go_at_call 12; refine (num_any _ _).mono ?_; rintro e w' ⟨rfl, hw'⟩; subst w'))
      go_ret
      exact ⟨rfl, hbel6.out.on h7⟩

/-! ### The row's step -/
set_option maxRecDepth 100000 in
theorem lifted (os : Os) (started : os.Started) (H : Type) (enc : TypeId × Value → H) :
    ReturnsInHanded {} Try.checked os 5 .any (Rows.ageAllSpec.pre6 enc Try.prog Try.f5 Rows.ageAllRow.domain false) (Rows.ageAllSpec.post enc Try.prog Try.f5 false true false false) := by
  refine returnsInHanded_of_change_sized (C := Try.checked) ownK started (by kernel_rfl) Try.func5
    (ChangeSpec.witness6 (enc := enc) (C := Try.checked) false ⟨#[], #[.agg #[.int .i64 0, .slice none 0 0, .slice none 0 0]], []⟩ 8 (by kernel_rfl) (by kernel_rfl) (by kernel_rfl) (by kernel_rfl)) ?_
  intro W base args ds gs before hval0 hW hcnd hsz0 _
  have hsz : (DataW.weightsEach Try.prog (Try.f5.params.toList ++ Rows.ageAllSpec.plain.varTypes Try.prog) (ds ++ gs)).all (· ≤ reachBytes) = true := hsz0
  have hval : ∀ (j : Nat) t v, Try.f5.params[j]? = some t → args[j]? = some v → Value.okWide Try.prog W .any base t v := hval0
  have hW' := hW
  obtain ⟨p, q, hA0, hV, rfl, hfz, hnd⟩ := hW
  have hA : DataW.TrodAll enc Try.prog W 0 (fun _ => true) true Try.f5.params.toList args.toList ds p := hA0
  rw [Try.params5] at hA hval hsz
  obtain ⟨v0, vs0, d0, ds0, p0, q0, hargs, rfl, rfl, h0, r0⟩ := trodAll_cons hA
  obtain ⟨rfl, rfl, rfl⟩ := trodAll_nil r0
  obtain rfl : args = #[v0] := by cases args; simp_all
  obtain ⟨rfl, rfl⟩ := trodVars_none hV
  clear r0
  have k0 := h0
  have lt0 : ∀ x ∈ p0, x.block < W.heap.size := by obtain ⟨m, hm⟩ := k0; exact DataW.trod_lt m _ _ _ hm
  have z0 : ∀ n ∈ d0.weights Try.prog 25, n ≤ reachBytes := fun n hn => by simpa using List.all_eq_true.1 hsz _ (DataW.weights_mem_each (j := 0) rfl rfl n hn)
  have f0 : W.noneFrozen p0 := fun b off hm => hfz b off (by simp [hm])
  obtain ⟨x0, r0, w0, h0, s0, t0, u0, y0⟩ := open_view (hval 0 25 v0 rfl rfl) h0 f0 z0
  clear hA0 hval0
  refine (walk v0 x0 W r0 w0 h0 s0 t0 u0 y0).mono fun e W' ⟨he, bel⟩ => ?_
  subst he
  exact ⟨_, rfl, _, _, _, [], _, [], hW', trodAll_mk1 (shut_bool Try.underlying4 _), (trodAll_cons_mk (Below.trod laidOut (by kernel_rfl) (of_decide_eq_true (by kernel_rfl)) k0 bel lt0) trodAll_mk0), rfl, bel.frame _, fun h => by cases h⟩

theorem over : Rows.ageAllRow.holds Try.pinned (OpenSpec.ofChange Rows.ageAllSpec) :=
  OpenClaim.holds_of_wide 5 Try.f5 rfl rfl rfl rfl rfl rfl rfl ⟨rfl, rfl, rfl, rfl, rfl⟩ rfl rfl rfl rfl rfl (by kernel_rfl) Try.func5 (by kernel_rfl)
    (of_decide_eq_true (by kernel_rfl)) (by unfold Func.isWrapper; first | (rw [if_pos (by decide +kernel)]; kernel_rfl) | (rw [if_neg (by decide +kernel)]; exact ⟨rfl, rfl⟩))
    (fun os started H enc _ => lifted os started H enc)

end Go.Proofs.Ytagojonjohimfaa.ageAll

namespace Go.Proofs.Ytagojonjohimfaa
/-- The statement, by its short name. -/
theorem ageAll_holds : Rows.AgeAllSaid := ageAll.over
#print axioms ageAll_holds
end Go.Proofs.Ytagojonjohimfaa
