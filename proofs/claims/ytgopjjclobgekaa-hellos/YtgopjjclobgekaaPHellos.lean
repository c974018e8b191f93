
/-
  The statement Hellos: of any view, any number and any list the program's greeting is the document's, and the view and the list that were handed in stay as they were, also when the answer is written over.
-/
import Derived.Test.YtgopjjclobgekaaRows
import Derived.Test.YtgopjjclobgekaaOpen
import Derived.Test.YtgopjjclobgekaaHelloLaw
import Derived.Test.YtgopjjclobgekaaHelloRef
import Derived.Test.YtgopjjclobgekaaHelloSpoil
import Derived.Test.YtgopjjclobgekaaOpenV
namespace Go.Proofs.Ytgopjjclobgekaa.hellos
open Go.ChangeShapes Go.WideShapes Go.ChangeAt Go.RowKit
set_option linter.unusedVariables false

/-! ### The walk -/
set_option maxHeartbeats 4000000 in
theorem walk (v0 : Value) (x0 : VwO) (a1 : Int) (v2 : Value) (x2 : List Int) (w : World) (r0 : v0 = .agg #[.int .i64 x0.i, x0.p, x0.q]) (w0 : (Lit.int .i64 x0.i).wf = true) (h0 : VwAt 0 w.heap.size w x0.p x0.q x0.ps x0.is) (s0 : x0.ps.length * 16 ≤ 140737488351232) (t0 : x0.is.length * 8 ≤ 140737488351232) (u0 : ∀ y ∈ x0.ps, PeW y) (y0 : ∀ y ∈ x0.is, (Lit.int .i64 y).wf = true) (w1 : (Lit.int .i64 a1).wf = true) (r2 : RowI 0 w.heap.size w v2 x2) (s2 : x2.length * 8 ≤ 140737488351232) (w2 : ∀ x ∈ x2, (Lit.int .i64 x).wf = true) :
    Calls Try.prog 3 #[v0, .int .i64 a1, v2] w fun e w' => e = .returned (.bool true) ∧ Below w.heap.size w w' := by
  obtain ⟨i, ps, is, p, q⟩ := x0
  dsimp only at r0 w0 h0 s0 t0 u0 y0
  subst r0
  clear w0 u0 y0 w1 w2
  have V1 := toHid (fun o : Obj => h0.alloc o)
  have R1 := toHid (fun (o : Obj) (w1 : World) (hb : Below (w.alloc o).heap.size (w.alloc o) w1) => (r2.alloc o).below hb (by simp))
  have B1 := toHid (fun (cs : Array Value) (t : TypeId) => Box.new w cs t)
  obtain ⟨a, c, a', c', ep, eq, hn, hn'⟩ := h0.shape
  subst ep eq
  clear h0
  obtain ⟨p2, c2, e2, -⟩ := r2
  subst e2
  obtain ⟨j, hj⟩ : ∃ j, heI i (ps, is) a1 x2 = j := ⟨_, rfl⟩
  obtain ⟨⟨s1, s2⟩, hs⟩ : ∃ s, heV i (ps, is) a1 x2 = s := ⟨_, rfl⟩
  obtain ⟨er, he⟩ : ∃ e, heE i (ps, is) a1 x2 = e := ⟨_, rfl⟩
  obtain ⟨n1, hn1⟩ : ∃ n, s1.length = n := ⟨_, rfl⟩
  obtain ⟨n2, hn2⟩ : ∃ n, s2.length = n := ⟨_, rfl⟩
  have K1 := toHid (fun (W : World) (p q x : Value) (lo hi lo' hi' : Nat) (h : VwAt lo hi W p q ps is) (hh : hi ≤ W.heap.size) (R : RowI lo' hi' W x x2) (hh' : hi' ≤ W.heap.size) => hTake_at h hh R hh' hj hs he hn1 hn2)
  have K2 := toHid (fun (W : World) (p q x : Value) (lo hi lo' hi' : Nat) (h : VwAt lo hi W p q ps is) (hh : hi ≤ W.heap.size) (R : RowI lo' hi' W x x2) (hh' : hi' ≤ W.heap.size) => (rHello_any i a1 h hh s0 R hh').mono fun e w' (k : ∃ p' q', e = .returned (.tuple #[.agg #[.int .i64 (heI i (ps, is) a1 x2), p', q'], .int .i64 (heE i (ps, is) a1 x2)]) ∧ VwNew W.heap.size w' p' q' (heV i (ps, is) a1 x2).1 (heV i (ps, is) a1 x2).2 ∧ Below W.heap.size W w') => (by
    obtain ⟨p', q', e1, X, hb⟩ := k
    rw [hs] at X
    rw [hj, he] at e1
    dsimp only at X
    obtain ⟨a, c, a', c', e2, e3, -, -⟩ := X.at.shape
    rw [hn1] at e2
    rw [hn2] at e3
    subst e2 e3
    exact ⟨a, c, a', c', e1, X, hb⟩ : ∃ a c a' c', e = .returned (.tuple #[.agg #[.int .i64 j, .slice a n1 c, .slice a' n2 c'], .int .i64 er]) ∧ VwNew W.heap.size w' (.slice a n1 c) (.slice a' n2 c') s1 s2 ∧ Below W.heap.size W w'))
  clear hj hs he hn1 hn2
  have t1 := trivial
  go_enter Try.func3, Try.ntmps3
  go_wp2_with (first
    | (go_at_call 10; refine (copyView_any i (V1.out _) (by simp) (by omega) (by omega)).mono ?_; rintro e w1 ⟨p1, q1, rfl, X1, hk⟩
       obtain ⟨a1, n3, d1, a1', n4, d1', ep1, eq1⟩ := X1.slices
       subst ep1 eq1
       have z1 : w.heap.size ≤ w1.heap.size := Nat.le_trans (by simp) hk.size)
    | (go_at_call 11; refine (lendInts_any (R1.out _ _ hk) (by omega)).mono ?_; rintro e w2 ⟨xs, rfl, L2, h2⟩
       have BV := toHid ((((B1.out _ _).below hk).below h2).alloc (.cells #[.int .i64 i, .slice a1 n3 d1, .slice a1' n4 d1'] 25))
       have BX := toHid (Box.new w2 #[.int .i64 i, .slice a1 n3 d1, .slice a1' n4 d1'] 25)
       have VX := toHid ((X1.below h2 (Nat.le_refl _)).alloc (.cells #[.int .i64 i, .slice a1 n3 d1, .slice a1' n4 d1'] 25))
       have VV := toHid ((((V1.out _).below hk (by simp)).below h2 z1).alloc (.cells #[.int .i64 i, .slice a1 n3 d1, .slice a1' n4 d1'] 25))
       have RR := toHid (((R1.out _ _ hk).below h2 z1).alloc (.cells #[.int .i64 i, .slice a1 n3 d1, .slice a1' n4 d1'] 25))
       have LL := toHid (L2.below ((Below.refl _ w2).onA (.cells #[.int .i64 i, .slice a1 n3 d1, .slice a1' n4 d1'] 25)) (Nat.le_refl _))
       have z2 : w.heap.size ≤ w2.heap.size := Nat.le_trans z1 h2.size
       have z3 : w1.heap.size ≤ w2.heap.size := h2.size
       have hB2 := toHid (((((Below.refl _ w).onA _).on hk).on h2).onA (.cells #[.int .i64 i, .slice a1 n3 d1, .slice a1' n4 d1'] 25))
       clear X1 L2 h2 hk)
    | (go_at_call 12; refine (K1.out _ _ _ _ _ _ _ _ VX.out (by simp; omega) LL.out.row (by simp)).mono ?_; rintro e w3 ⟨a3, d3, a3', d3', rfl, X3, hq⟩
       obtain ⟨b1, b2, b3⟩ := BV.out.below hq
       have BA := toHid (Box.new w3 #[.int .i64 j, .slice a3 n1 d3, .slice a3' n2 d3'] 25)
       have XA := toHid (X3.below ((Below.refl _ w3).onA (.cells #[.int .i64 j, .slice a3 n1 d3, .slice a3' n2 d3'] 25)))
       replace hq := hq.onA (.cells #[.int .i64 j, .slice a3 n1 d3, .slice a3' n2 d3'] 25)
       clear X3)
    | (go_at_call 13; refine (K2.out _ _ _ _ _ _ _ _ (VV.out.below hq (by simp; omega)) (Nat.le_trans (by simp; omega) hq.size) (RR.out.below hq (by simp; omega)) (Nat.le_trans (by simp; omega) hq.size)).mono ?_; rintro e w4 ⟨a4, d4, a4', d4', rfl, X4, h4⟩
       replace hq := (hq.on h4).onA (.cells #[.int .i64 j, .slice a4 n1 d4, .slice a4' n2 d4'] 25)
       have hr := toHid (h4.onA (.cells #[.int .i64 j, .slice a4 n1 d4, .slice a4' n2 d4'] 25))
       clear b1 b2 b3
       obtain ⟨b1, b2, b3⟩ := BA.out.below h4
       have XB := toHid (X4.at.alloc (.cells #[.int .i64 j, .slice a4 n1 d4, .slice a4' n2 d4'] 25))
       clear X4 h4)
    | (go_at_call 14; clear t1; refine (sameView_same j (XA.out.below hr.out).at XB.out (by simp) (by simp)).mono ?_; rintro e w5 ⟨rfl, h5⟩
       replace hq := hq.on h5
       have hr5 := toHid (hr.out.on h5)
       clear b1 b2 b3
       obtain ⟨b1, b2, b3⟩ := BA.out.below hr5.out
       clear h5)
    | (go_at_call 16; refine (spoilView_any j (XA.out.below hr5.out) hq.size).mono ?_; rintro e w6 ⟨rfl, h6⟩
       replace hq := hq.trans h6
       clear b1 b2 b3
       obtain ⟨b1, b2, b3⟩ := BV.out.below hq
       obtain ⟨d1, d2, d3⟩ := BX.out.below hq)
    | (go_at_call 14; refine (sameView_same i (VX.out.below hq (by simp; omega)) (VV.out.below hq (by simp; omega)) (Nat.le_trans (by simp; omega) hq.size) (Nat.le_trans (by simp; omega) hq.size)).mono ?_; rintro e w7 ⟨rfl, h7⟩
       replace hq := hq.on h7)
    | (go_at_call 17; refine (keptInts_any (LL.out.below hq (by simp)) (RR.out.below hq (by simp; omega))).mono ?_; rintro e w8 ⟨rfl, n8, hw8⟩; subst w8)
    | (go_at_call 18; refine (awake10_any _).mono ?_; rintro e w9 ⟨rfl, h9⟩)
    | (go_at_call 15; refine (num_any _ _).mono ?_; rintro e w' ⟨rfl, hw'⟩; subst w'))
  go_ret
  exact ⟨rfl, (hB2.out.on (hq.onD n8)).on h9⟩

/-! ### The row's step -/
set_option maxRecDepth 100000 in
theorem lifted (os : Os) (started : os.Started) (H : Type) (enc : TypeId × Value → H) :
    ReturnsInHanded {} Try.checked os 3 .any (Rows.hellosSpec.pre6 enc Try.prog Try.f3 Rows.hellosRow.domain false) (Rows.hellosSpec.post enc Try.prog Try.f3 false true false false) := by
  refine returnsInHanded_of_change_sized (C := Try.checked) ownK started (by kernel_rfl) Try.func3
    (ChangeSpec.witness6 (enc := enc) (C := Try.checked) false ⟨#[], #[.agg #[.int .i64 0, .slice none 0 0, .slice none 0 0], .int .i64 0, .slice none 0 0], []⟩ 8 (by kernel_rfl) (by kernel_rfl) (by kernel_rfl) (by kernel_rfl)) ?_
  intro W base args ds gs before hval0 hW hcnd hsz0 _
  have hsz : (DataW.weightsEach Try.prog (Try.f3.params.toList ++ Rows.hellosSpec.plain.varTypes Try.prog) (ds ++ gs)).all (· ≤ reachBytes) = true := hsz0
  have hval : ∀ (j : Nat) t v, Try.f3.params[j]? = some t → args[j]? = some v → Value.okWide Try.prog W .any base t v := hval0
  have hW' := hW
  obtain ⟨p, q, hA0, hV, rfl, hfz, hnd⟩ := hW
  have hA : DataW.TrodAll enc Try.prog W 0 (fun _ => true) true Try.f3.params.toList args.toList ds p := hA0
  rw [Try.params3] at hA hval hsz
  obtain ⟨v0, vs0, d0, ds0, p0, q0, hargs, rfl, rfl, h0, r0⟩ := trodAll_cons hA
  obtain ⟨v1, vs1, d1, ds1, p1, q1, rfl, rfl, rfl, h1, r1⟩ := trodAll_cons r0
  obtain ⟨v2, vs2, d2, ds2, p2, q2, rfl, rfl, rfl, h2, r2⟩ := trodAll_cons r1
  obtain ⟨rfl, rfl, rfl⟩ := trodAll_nil r2
  obtain rfl : args = #[v0, v1, v2] := by cases args; simp_all
  obtain ⟨rfl, rfl⟩ := trodVars_none hV
  clear r0 r1 r2
  have k0 := h0
  have lt0 : ∀ x ∈ p0, x.block < W.heap.size := by obtain ⟨m, hm⟩ := k0; exact DataW.trod_lt m _ _ _ hm
  have z0 : ∀ n ∈ d0.weights Try.prog 25, n ≤ reachBytes := fun n hn => by simpa using List.all_eq_true.1 hsz _ (DataW.weights_mem_each (j := 0) rfl rfl n hn)
  have f0 : W.noneFrozen p0 := fun b off hm => hfz b off (by simp [hm])
  have k1 := h1
  have lt1 : ∀ x ∈ p1, x.block < W.heap.size := by obtain ⟨m, hm⟩ := k1; exact DataW.trod_lt m _ _ _ hm
  have k2 := h2
  have lt2 : ∀ x ∈ p2, x.block < W.heap.size := by obtain ⟨m, hm⟩ := k2; exact DataW.trod_lt m _ _ _ hm
  have z2 : ∀ n ∈ d2.weights Try.prog 23, n ≤ reachBytes := fun n hn => by simpa using List.all_eq_true.1 hsz _ (DataW.weights_mem_each (j := 2) rfl rfl n hn)
  have f2 : W.noneFrozen p2 := fun b off hm => hfz b off (by simp [hm])
  obtain ⟨x0, r0, w0, h0, s0, t0, u0, y0⟩ := open_view (hval 0 25 v0 rfl rfl) h0 f0 z0
  obtain ⟨a1, rfl, rfl, rfl, w1⟩ := open_int Try.underlying3 (hval 1 3 v1 rfl rfl) h1
  obtain ⟨x2, r2, s2, w2⟩ := open_rowI (hval 2 23 v2 rfl rfl) h2 f2 z2
  clear hA0 hval0
  refine (walk v0 x0 a1 v2 x2 W r0 w0 h0 s0 t0 u0 y0 w1 r2 s2 w2).mono fun e W' ⟨he, bel⟩ => ?_
  subst he
  exact ⟨_, rfl, _, _, _, [], _, [], hW', trodAll_mk1 (shut_bool Try.underlying4 _), (trodAll_cons_mk (Below.trod laidOut (by kernel_rfl) (of_decide_eq_true (by kernel_rfl)) k0 bel lt0) (trodAll_cons_mk (Below.trod laidOut (by kernel_rfl) (of_decide_eq_true (by kernel_rfl)) k1 bel lt1) (trodAll_cons_mk (Below.trod laidOut (by kernel_rfl) (of_decide_eq_true (by kernel_rfl)) k2 bel lt2) trodAll_mk0))), rfl, bel.frame _, fun h => by cases h⟩

theorem over : Rows.hellosRow.holds Try.pinned (OpenSpec.ofChange Rows.hellosSpec) :=
  OpenClaim.holds_of_wide 3 Try.f3 rfl rfl rfl rfl rfl rfl rfl ⟨rfl, rfl, rfl, rfl, rfl⟩ rfl rfl rfl rfl rfl (by kernel_rfl) Try.func3 (by kernel_rfl)
    (of_decide_eq_true (by kernel_rfl)) (by unfold Func.isWrapper; first | (rw [if_pos (by decide +kernel)]; kernel_rfl) | (rw [if_neg (by decide +kernel)]; exact ⟨rfl, rfl⟩))
    (fun os started H enc _ => lifted os started H enc)

end Go.Proofs.Ytgopjjclobgekaa.hellos

namespace Go.Proofs.Ytgopjjclobgekaa
/-- The statement, by its short name. -/
theorem hellos_holds : Rows.HellosSaid := hellos.over
#print axioms hellos_holds
end Go.Proofs.Ytgopjjclobgekaa
