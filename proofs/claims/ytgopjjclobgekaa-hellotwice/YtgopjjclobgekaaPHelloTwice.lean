
/-
  The statement HelloTwice: the same greeting told twice leaves the view as told once; one that may not be is answered by the empty view.
-/
import Derived.Test.YtgopjjclobgekaaRows
import Derived.Test.YtgopjjclobgekaaOpen
import Derived.Test.YtgopjjclobgekaaHelloLaw
import Derived.Test.YtgopjjclobgekaaOpenV
namespace Go.Proofs.Ytgopjjclobgekaa.helloTwice
open Go.ChangeShapes Go.WideShapes Go.ChangeAt Go.RowKit
set_option linter.unusedVariables false

/-! ### The walk -/
set_option maxHeartbeats 4000000 in
theorem walk (v0 : Value) (x0 : VwO) (a1 : Int) (v2 : Value) (x2 : List Int) (w : World) (r0 : v0 = .agg #[.int .i64 x0.i, x0.p, x0.q]) (w0 : (Lit.int .i64 x0.i).wf = true) (h0 : VwAt 0 w.heap.size w x0.p x0.q x0.ps x0.is) (s0 : x0.ps.length * 16 ≤ 140737488351232) (t0 : x0.is.length * 8 ≤ 140737488351232) (u0 : ∀ y ∈ x0.ps, PeW y) (y0 : ∀ y ∈ x0.is, (Lit.int .i64 y).wf = true) (w1 : (Lit.int .i64 a1).wf = true) (r2 : RowI 0 w.heap.size w v2 x2) (s2 : x2.length * 8 ≤ 140737488351232) (w2 : ∀ x ∈ x2, (Lit.int .i64 x).wf = true) :
    Calls Try.prog 7 #[v0, .int .i64 a1, v2] w fun e w' => e = .returned (.bool true) ∧ Below w.heap.size w w' := by
  obtain ⟨i, ps, is, p, q⟩ := x0
  dsimp only at r0 w0 h0 s0 t0 u0 y0
  subst r0
  clear w0 u0 y0 s0 t0 s2 w2 w1
  have RR := toHid (fun (o : Obj) (w1 : World) (hb : Below (w.alloc o).heap.size (w.alloc o) w1) => (r2.alloc o).below hb (by simp))
  have VV := toHid (fun (o : Obj) (w1 : World) (hb : Below (w.alloc o).heap.size (w.alloc o) w1) => (h0.alloc o).below hb (by simp))
  have B1 := toHid (fun (cs : Array Value) (t : TypeId) => Box.new w cs t)
  obtain ⟨a, c, a', c', ep, eq, hn, hn'⟩ := h0.shape
  subst ep eq
  clear h0
  obtain ⟨p2, c2, e2, -⟩ := r2
  subst e2
  have t1 := trivial
  rcases Bool.eq_false_or_eq_true (heB i (ps, is) a1 x2) with hB | hB
  · obtain ⟨e1, e2, e3⟩ := he_yes hB
    obtain ⟨k1, k2, k3, k4, -⟩ := heB_iff.1 hB
    have hT := he_twice k1 k2 k3 k4
    have hN := heB_next hB k2 k3
    obtain ⟨⟨s1, s2⟩, hs⟩ : ∃ s, heS i (ps, is) a1 x2 = s := ⟨_, rfl⟩
    rw [hs] at e2 hT hN
    obtain ⟨f1, f2, f3⟩ := he_yes hN
    rw [hT] at f2
    obtain ⟨n1, hn1⟩ : ∃ n, s1.length = n := ⟨_, rfl⟩
    obtain ⟨n2, hn2⟩ : ∃ n, s2.length = n := ⟨_, rfl⟩
    have K1 := toHid (fun (o : Obj) (w1 : World) (hb : Below (w.alloc o).heap.size (w.alloc o) w1) => hTake_at (VV.out o w1 hb) (Nat.le_trans (by simp) hb.size) (RR.out o w1 hb) (Nat.le_trans (by simp) hb.size) e1 e2 e3 hn1 hn2)
    have K2 := toHid (fun (W : World) (p q : Value) (lo hi lo' hi' : Nat) (h : VwAt lo hi W p q s1 s2) (hh : hi ≤ W.heap.size) (R : RowI lo' hi' W (.slice p2 x2.length c2) x2) (hh' : hi' ≤ W.heap.size) => hTake_at h hh R hh' f1 f2 f3 hn1 hn2)
    clear e1 e2 e3 f1 f2 f3 hT hN hs k1 k2 k3 k4 hB VV hn1 hn2
    go_enter Try.func7, Try.ntmps7
    go_wp2_with (first
      | (go_at_call 18; refine (awake10_any _).mono ?_; rintro e w1 ⟨rfl, hk⟩
         obtain ⟨b1, b2, b3⟩ := (B1.out _ _).below hk)
      | (go_at_call 12; clear t1; refine (K1.out _ _ hk).mono ?_; rintro e w2 ⟨a2, d2, a2', d2', rfl, X2, h2⟩
         replace hk := hk.on h2
         have z2 : w.heap.size ≤ w2.heap.size := Nat.le_trans (by simp) hk.size
         have R2 := toHid ((RR.out _ _ hk).alloc (.cells #[.int .i64 i, .slice a2 n1 d2, .slice a2' n2 d2'] 25))
         have X2' := toHid (X2.at.alloc (.cells #[.int .i64 i, .slice a2 n1 d2, .slice a2' n2 d2'] 25))
         have AX := toHid (Box.new w2 #[.int .i64 i, .slice a2 n1 d2, .slice a2' n2 d2'] 25)
         clear X2 h2 b1 b2 b3)
      | (go_at_call 12; refine (K2.out _ _ _ _ _ _ _ X2'.out (by simp) R2.out (by simp; omega)).mono ?_; rintro e w3 ⟨a3, d3, a3', d3', rfl, X3, h3⟩
         obtain ⟨b1, b2, b3⟩ := AX.out.below h3
         have X2'' := toHid (X2'.out.below h3 (by simp))
         replace X3 := toHid X3.at)
      | (go_at_call 15; refine (num_any _ _).mono ?_; rintro e w' ⟨rfl, hw'⟩; subst w')
      | (go_at_call 14; refine (sameView_same i (X2''.out.alloc _) (X3.out.alloc _) (by simp; omega) (by simp)).mono ?_; rintro e w4 ⟨rfl, h4⟩))
    go_ret
    exact ⟨rfl, (((((((Below.refl _ w).onA _).on hk).onA _).on h3).onA _).on h4)⟩
  · obtain ⟨e1, e2, e3⟩ := he_no hB
    have K1 := toHid (fun (o : Obj) (w1 : World) (hb : Below (w.alloc o).heap.size (w.alloc o) w1) => hTake_at (n1 := 0) (n2 := 0) (VV.out o w1 hb) (Nat.le_trans (by simp) hb.size) (RR.out o w1 hb) (Nat.le_trans (by simp) hb.size) e1 e2 e3 rfl rfl)
    clear e1 e2 e3 hB VV RR
    go_enter Try.func7, Try.ntmps7
    go_wp2_with (first
      | (go_at_call 18; refine (awake10_any _).mono ?_; rintro e w1 ⟨rfl, hk⟩
         obtain ⟨b1, b2, b3⟩ := (B1.out _ _).below hk)
      | (go_at_call 12; clear t1; refine (K1.out _ _ hk).mono ?_; rintro e w2 ⟨a2, d2, a2', d2', rfl, X2, h2⟩
         replace hk := hk.on h2
         replace X2 := toHid X2.at
         clear h2 b1 b2 b3)
      | (go_at_call 15; refine (num_any _ _).mono ?_; rintro e w' ⟨rfl, hw'⟩; subst w')
      | (go_at_call 14; refine (sameView_same (lo' := 0) (hi' := 0) 0 (X2.out.alloc _) ⟨RowC.nil0, RowI.nil0⟩ (by simp) (Nat.zero_le _)).mono ?_; rintro e w4 ⟨rfl, h4⟩))
    go_ret
    exact ⟨rfl, ((((Below.refl _ w).onA _).on hk).onA _).on h4⟩

/-! ### The row's step -/
set_option maxRecDepth 100000 in
theorem lifted (os : Os) (started : os.Started) (H : Type) (enc : TypeId × Value → H) :
    ReturnsInHanded {} Try.checked os 7 .any (Rows.helloTwiceSpec.pre6 enc Try.prog Try.f7 Rows.helloTwiceRow.domain false) (Rows.helloTwiceSpec.post enc Try.prog Try.f7 false true false false) := by
  refine returnsInHanded_of_change_sized (C := Try.checked) ownK started (by kernel_rfl) Try.func7
    (ChangeSpec.witness6 (enc := enc) (C := Try.checked) false ⟨#[], #[.agg #[.int .i64 0, .slice none 0 0, .slice none 0 0], .int .i64 0, .slice none 0 0], []⟩ 8 (by kernel_rfl) (by kernel_rfl) (by kernel_rfl) (by kernel_rfl)) ?_
  intro W base args ds gs before hval0 hW hcnd hsz0 _
  have hsz : (DataW.weightsEach Try.prog (Try.f7.params.toList ++ Rows.helloTwiceSpec.plain.varTypes Try.prog) (ds ++ gs)).all (· ≤ reachBytes) = true := hsz0
  have hval : ∀ (j : Nat) t v, Try.f7.params[j]? = some t → args[j]? = some v → Value.okWide Try.prog W .any base t v := hval0
  have hW' := hW
  obtain ⟨p, q, hA0, hV, rfl, hfz, hnd⟩ := hW
  have hA : DataW.TrodAll enc Try.prog W 0 (fun _ => true) true Try.f7.params.toList args.toList ds p := hA0
  rw [Try.params7] at hA hval hsz
  obtain ⟨v0, vs0, d0, ds0, p0, q0, hargs, rfl, rfl, h0, r0⟩ := trodAll_cons hA
  obtain ⟨v1, vs1, d1, ds1, p1, q1, rfl, rfl, rfl, h1, r1⟩ := trodAll_cons r0
  obtain ⟨v2, vs2, d2, ds2, p2, q2, rfl, rfl, rfl, h2, r2⟩ := trodAll_cons r1
  obtain ⟨rfl, rfl, rfl⟩ := trodAll_nil r2
  obtain rfl : args = #[v0, v1, v2] := by cases args; simp_all
  obtain ⟨rfl, rfl⟩ := trodVars_none hV
  clear r0 r1 r2
  have k0 := h0
  have lt0 : ∀ x ∈ p0, x.block < W.heap.size := by obtain ⟨m, hm⟩ := k0; exact DataW.trod_lt m _ _ _ hm
  have z0 : ∀ n ∈ d0.weights Try.prog 25, n ≤ reachBytes := fun n hn => by simpa using List.all_eq_true.1 hsz _ (DataW.weights_mem_each (j := 0) rfl rfl n hn)
  have f0 : W.noneFrozen p0 := fun b off hm => hfz b off (by simp [hm])
  have k1 := h1
  have lt1 : ∀ x ∈ p1, x.block < W.heap.size := by obtain ⟨m, hm⟩ := k1; exact DataW.trod_lt m _ _ _ hm
  have k2 := h2
  have lt2 : ∀ x ∈ p2, x.block < W.heap.size := by obtain ⟨m, hm⟩ := k2; exact DataW.trod_lt m _ _ _ hm
  have z2 : ∀ n ∈ d2.weights Try.prog 23, n ≤ reachBytes := fun n hn => by simpa using List.all_eq_true.1 hsz _ (DataW.weights_mem_each (j := 2) rfl rfl n hn)
  have f2 : W.noneFrozen p2 := fun b off hm => hfz b off (by simp [hm])
  obtain ⟨x0, r0, w0, h0, s0, t0, u0, y0⟩ := open_view (hval 0 25 v0 rfl rfl) h0 f0 z0
  obtain ⟨a1, rfl, rfl, rfl, w1⟩ := open_int Try.underlying3 (hval 1 3 v1 rfl rfl) h1
  obtain ⟨x2, r2, s2, w2⟩ := open_rowI (hval 2 23 v2 rfl rfl) h2 f2 z2
  clear hA0 hval0
  refine (walk v0 x0 a1 v2 x2 W r0 w0 h0 s0 t0 u0 y0 w1 r2 s2 w2).mono fun e W' ⟨he, bel⟩ => ?_
  subst he
  exact ⟨_, rfl, _, _, _, [], _, [], hW', trodAll_mk1 (shut_bool Try.underlying4 _), (trodAll_cons_mk (Below.trod laidOut (by kernel_rfl) (of_decide_eq_true (by kernel_rfl)) k0 bel lt0) (trodAll_cons_mk (Below.trod laidOut (by kernel_rfl) (of_decide_eq_true (by kernel_rfl)) k1 bel lt1) (trodAll_cons_mk (Below.trod laidOut (by kernel_rfl) (of_decide_eq_true (by kernel_rfl)) k2 bel lt2) trodAll_mk0))), rfl, bel.frame _, fun h => by cases h⟩

theorem over : Rows.helloTwiceRow.holds Try.pinned (OpenSpec.ofChange Rows.helloTwiceSpec) :=
  OpenClaim.holds_of_wide 7 Try.f7 rfl rfl rfl rfl rfl rfl rfl ⟨rfl, rfl, rfl, rfl, rfl⟩ rfl rfl rfl rfl rfl (by kernel_rfl) Try.func7 (by kernel_rfl)
    (of_decide_eq_true (by kernel_rfl)) (by unfold Func.isWrapper; first | (rw [if_pos (by decide +kernel)]; kernel_rfl) | (rw [if_neg (by decide +kernel)]; exact ⟨rfl, rfl⟩))
    (fun os started H enc _ => lifted os started H enc)

end Go.Proofs.Ytgopjjclobgekaa.helloTwice

namespace Go.Proofs.Ytgopjjclobgekaa
/-- The statement, by its short name. -/
theorem helloTwice_holds : Rows.HelloTwiceSaid := helloTwice.over
#print axioms helloTwice_holds
end Go.Proofs.Ytgopjjclobgekaa
