
/-
  The statement Ages: of any view the program's tick is the document's (the view, whom to greet, the error), and the view that was handed in stays as it was, also when both answers are written over.
-/
import Derived.Test.YtagojonjohimfaaRows
import Derived.Test.YtagojonjohimfaaOpen
import Derived.Test.YtagojonjohimfaaAgeLaw
import Derived.Test.YtagojonjohimfaaAgeRef
import Derived.Test.YtagojonjohimfaaOpenV
namespace Go.Proofs.Ytagojonjohimfaa.ages
open Go.ChangeShapes Go.WideShapes Go.ChangeAt Go.RowKit
set_option linter.unusedVariables false

/-! ### The walk -/
set_option maxHeartbeats 4000000 in
theorem walk (v0 : Value) (x0 : VwO) (w : World) (r0 : v0 = .agg #[.int .i64 x0.i, x0.p, x0.q]) (w0 : (Lit.int .i64 x0.i).wf = true) (h0 : VwAt 0 w.heap.size w x0.p x0.q x0.ps x0.is) (s0 : x0.ps.length * 16 ≤ 140737488351232) (t0 : x0.is.length * 8 ≤ 140737488351232) (u0 : ∀ y ∈ x0.ps, PeW y) (y0 : ∀ y ∈ x0.is, (Lit.int .i64 y).wf = true) :
    Calls Try.prog 3 #[v0] w fun e w' => e = .returned (.bool true) ∧ Below w.heap.size w w' := by
  obtain ⟨i, ps, is, p, q⟩ := x0
  dsimp only at r0 w0 h0 s0 t0 u0 y0
  subst r0
  clear w0 u0 y0
  have V1 := toHid (fun o : Obj => h0.alloc o)
  have B1 := toHid (fun (cs : Array Value) (t : TypeId) => Box.new w cs t)
  obtain ⟨a, c, a', c', ep, eq, hn, hn'⟩ := h0.shape
  subst ep eq
  clear h0
  obtain ⟨j, hj⟩ : ∃ j, tkI i (ps, is) = j := ⟨_, rfl⟩
  obtain ⟨⟨s1, s2⟩, hs⟩ : ∃ s, tkV i (ps, is) = s := ⟨_, rfl⟩
  obtain ⟨gs, hg⟩ : ∃ s, tkL i (ps, is) = s := ⟨_, rfl⟩
  obtain ⟨er, he⟩ : ∃ e, tkE i (ps, is) = e := ⟨_, rfl⟩
  obtain ⟨n1, hn1⟩ : ∃ n, s1.length = n := ⟨_, rfl⟩
  obtain ⟨n2, hn2⟩ : ∃ n, s2.length = n := ⟨_, rfl⟩
  obtain ⟨n3, hn3⟩ : ∃ n, gs.length = n := ⟨_, rfl⟩
  have K1 := toHid (fun (W : World) (p q : Value) (lo hi : Nat) (h : VwAt lo hi W p q ps is) (hh : hi ≤ W.heap.size) => aTick_at h hh hj hs hg he hn1 hn2 hn3)
  have K2 := toHid (fun (W : World) (p q : Value) (lo hi : Nat) (h : VwAt lo hi W p q ps is) (hh : hi ≤ W.heap.size) => (rTick_any i h hh s0).mono fun e w' (k : ∃ p' q' g, e = .returned (.tuple #[.agg #[.int .i64 (tkI i (ps, is)), p', q'], g, .int .i64 (tkE i (ps, is))]) ∧ VwAt W.heap.size w'.heap.size w' p' q' (tkV i (ps, is)).1 (tkV i (ps, is)).2 ∧ RowI W.heap.size w'.heap.size w' g (tkL i (ps, is)) ∧ Below W.heap.size W w') => (by
    obtain ⟨p', q', g, e1, X, R, hb⟩ := k
    rw [hs] at X
    rw [hg] at R
    rw [hj, he] at e1
    dsimp only at X
    obtain ⟨a, c, a', c', e2, e3, -, -⟩ := X.shape
    obtain ⟨b, d, e4, -⟩ := id R
    rw [hn1] at e2
    rw [hn2] at e3
    rw [hn3] at e4
    subst e2 e3 e4
    exact ⟨a, c, a', c', b, d, e1, X, R, hb⟩ : ∃ a c a' c' b d, e = .returned (.tuple #[.agg #[.int .i64 j, .slice a n1 c, .slice a' n2 c'], .slice b n3 d, .int .i64 er]) ∧ VwAt W.heap.size w'.heap.size w' (.slice a n1 c) (.slice a' n2 c') s1 s2 ∧ RowI W.heap.size w'.heap.size w' (.slice b n3 d) gs ∧ Below W.heap.size W w'))
  clear hj hs he hg hn1 hn2 hn3
  have t1 := trivial
  go_enter Try.func3, Try.ntmps3
  go_wp2_with (first
    | (go_at_call 7; refine (copyView_any i (V1.out _) (by simp) (by omega) (by omega)).mono ?_; rintro e w1 ⟨p1, q1, rfl, X1, hk⟩
       obtain ⟨a1, n4, d1, a1', n5, d1', ep1, eq1⟩ := X1.slices
       subst ep1 eq1
       have z1 : w.heap.size ≤ w1.heap.size := Nat.le_trans (by simp) hk.size
       have BV := toHid (((B1.out _ _).below hk).alloc (.cells #[.int .i64 i, .slice a1 n4 d1, .slice a1' n5 d1'] 25))
       have BX := toHid (Box.new w1 #[.int .i64 i, .slice a1 n4 d1, .slice a1' n5 d1'] 25)
       have VX := toHid (X1.alloc (.cells #[.int .i64 i, .slice a1 n4 d1, .slice a1' n5 d1'] 25))
       have VV := toHid (((V1.out _).below hk (by simp)).alloc (.cells #[.int .i64 i, .slice a1 n4 d1, .slice a1' n5 d1'] 25))
       have hB2 := toHid ((((Below.refl _ w).onA _).on hk).onA (.cells #[.int .i64 i, .slice a1 n4 d1, .slice a1' n5 d1'] 25))
       clear X1 hk)
    | (go_at_call 8; refine (K1.out _ _ _ _ _ VX.out (by simp)).mono ?_; rintro e w3 ⟨a3, d3, a3', d3', b3, f3, rfl, X3, hq⟩
       obtain ⟨b1, b2, b3⟩ := BV.out.below hq
       have BA := toHid (Box.new w3 #[.int .i64 j, .slice a3 n1 d3, .slice a3' n2 d3'] 25)
       have XA := toHid (X3.below ((Below.refl _ w3).onA (.cells #[.int .i64 j, .slice a3 n1 d3, .slice a3' n2 d3'] 25)))
       replace hq := hq.onA (.cells #[.int .i64 j, .slice a3 n1 d3, .slice a3' n2 d3'] 25)
       clear X3)
    | (go_at_call 9; refine (K2.out _ _ _ _ _ (VV.out.below hq (by simp; omega)) (Nat.le_trans (by simp; omega) hq.size)).mono ?_; rintro e w4 ⟨a4, d4, a4', d4', b4, f4, rfl, X4, R4, h4⟩
       replace hq := (hq.on h4).onA (.cells #[.int .i64 j, .slice a4 n1 d4, .slice a4' n2 d4'] 25)
       have hr := toHid (h4.onA (.cells #[.int .i64 j, .slice a4 n1 d4, .slice a4' n2 d4'] 25))
       clear b1 b2 b3
       obtain ⟨b1, b2, b3⟩ := BA.out.below h4
       have XB := toHid (X4.alloc (.cells #[.int .i64 j, .slice a4 n1 d4, .slice a4' n2 d4'] 25))
       have RB := toHid (R4.alloc (.cells #[.int .i64 j, .slice a4 n1 d4, .slice a4' n2 d4'] 25))
       clear X4 R4 h4)
    | (go_at_call 10; clear t1; refine (sameView_same j (XA.out.below hr.out).vw.at XB.out (by simp) (by simp)).mono ?_; rintro e w5 ⟨rfl, h5⟩
       replace hq := hq.on h5
       have hr5 := toHid (hr.out.on h5)
       have RB5 := toHid (RB.out.below h5 (by simp)))
    | (go_at_call 11; refine (sameI_at (XA.out.below hr5.out).row RB5.out (b := true) (by simp)).mono ?_; rintro e w6 ⟨rfl, h6⟩
       replace hq := hq.on h6
       have hr6 := toHid (hr5.out.on h6)
       clear b1 b2 b3
       obtain ⟨b1, b2, b3⟩ := BA.out.below hr6.out
       clear h6 h5)
    | (go_at_call 13; refine (spoilView_beside j (XA.out.below hr6.out) hq.size).mono ?_; rintro e w7 ⟨rfl, R7, h7⟩
       replace hq := hq.trans h7)
    | (go_at_call 14; refine (spoilI_only R7).mono ?_; rintro e w8 ⟨rfl, h8⟩
       replace hq := hq.trans h8.below
       clear b1 b2 b3
       obtain ⟨b1, b2, b3⟩ := BV.out.below hq
       obtain ⟨d1, d2, d3⟩ := BX.out.below hq)
    | (go_at_call 10; refine (sameView_same i (VX.out.below hq (by simp)) (VV.out.below hq (by simp; omega)) (Nat.le_trans (by simp) hq.size) (Nat.le_trans (by simp; omega) hq.size)).mono ?_; rintro e w9 ⟨rfl, h9⟩
       replace hq := hq.on h9)
    | (go_at_call 15; refine (awake11_any _).mono ?_; rintro e w10 ⟨rfl, h10⟩)
    | (go_at_call 12; refine (num_any _ _).mono ?_; rintro e w' ⟨rfl, hw'⟩; subst w'))
  go_ret
  exact ⟨rfl, (hB2.out.on hq).on h10⟩

/-! ### The row's step -/
set_option maxRecDepth 100000 in
theorem lifted (os : Os) (started : os.Started) (H : Type) (enc : TypeId × Value → H) :
    ReturnsInHanded {} Try.checked os 3 .any (Rows.agesSpec.pre6 enc Try.prog Try.f3 Rows.agesRow.domain false) (Rows.agesSpec.post enc Try.prog Try.f3 false true false false) := by
  refine returnsInHanded_of_change_sized (C := Try.checked) ownK started (by kernel_rfl) Try.func3
    (ChangeSpec.witness6 (enc := enc) (C := Try.checked) false ⟨#[], #[.agg #[.int .i64 0, .slice none 0 0, .slice none 0 0]], []⟩ 8 (by kernel_rfl) (by kernel_rfl) (by kernel_rfl) (by kernel_rfl)) ?_
  intro W base args ds gs before hval0 hW hcnd hsz0 _
  have hsz : (DataW.weightsEach Try.prog (Try.f3.params.toList ++ Rows.agesSpec.plain.varTypes Try.prog) (ds ++ gs)).all (· ≤ reachBytes) = true := hsz0
  have hval : ∀ (j : Nat) t v, Try.f3.params[j]? = some t → args[j]? = some v → Value.okWide Try.prog W .any base t v := hval0
  have hW' := hW
  obtain ⟨p, q, hA0, hV, rfl, hfz, hnd⟩ := hW
  have hA : DataW.TrodAll enc Try.prog W 0 (fun _ => true) true Try.f3.params.toList args.toList ds p := hA0
  rw [Try.params3] at hA hval hsz
  obtain ⟨v0, vs0, d0, ds0, p0, q0, hargs, rfl, rfl, h0, r0⟩ := trodAll_cons hA
  obtain ⟨rfl, rfl, rfl⟩ := trodAll_nil r0
  obtain rfl : args = #[v0] := by cases args; simp_all
  obtain ⟨rfl, rfl⟩ := trodVars_none hV
  clear r0
  have k0 := h0
  have lt0 : ∀ x ∈ p0, x.block < W.heap.size := by obtain ⟨m, hm⟩ := k0; exact DataW.trod_lt m _ _ _ hm
  have z0 : ∀ n ∈ d0.weights Try.prog 25, n ≤ reachBytes := fun n hn => by simpa using List.all_eq_true.1 hsz _ (DataW.weights_mem_each (j := 0) rfl rfl n hn)
  have f0 : W.noneFrozen p0 := fun b off hm => hfz b off (by simp [hm])
  obtain ⟨x0, r0, w0, h0, s0, t0, u0, y0⟩ := open_view (hval 0 25 v0 rfl rfl) h0 f0 z0
  clear hA0 hval0
  refine (walk v0 x0 W r0 w0 h0 s0 t0 u0 y0).mono fun e W' ⟨he, bel⟩ => ?_
  subst he
  exact ⟨_, rfl, _, _, _, [], _, [], hW', trodAll_mk1 (shut_bool Try.underlying4 _), (trodAll_cons_mk (Below.trod laidOut (by kernel_rfl) (of_decide_eq_true (by kernel_rfl)) k0 bel lt0) trodAll_mk0), rfl, bel.frame _, fun h => by cases h⟩

theorem over : Rows.agesRow.holds Try.pinned (OpenSpec.ofChange Rows.agesSpec) :=
  OpenClaim.holds_of_wide 3 Try.f3 rfl rfl rfl rfl rfl rfl rfl ⟨rfl, rfl, rfl, rfl, rfl⟩ rfl rfl rfl rfl rfl (by kernel_rfl) Try.func3 (by kernel_rfl)
    (of_decide_eq_true (by kernel_rfl)) (by unfold Func.isWrapper; first | (rw [if_pos (by decide +kernel)]; kernel_rfl) | (rw [if_neg (by decide +kernel)]; exact ⟨rfl, rfl⟩))
    (fun os started H enc _ => lifted os started H enc)

end Go.Proofs.Ytagojonjohimfaa.ages

namespace Go.Proofs.Ytagojonjohimfaa
/-- The statement, by its short name. -/
theorem ages_holds : Rows.AgesSaid := ages.over
#print axioms ages_holds
end Go.Proofs.Ytagojonjohimfaa
