
/-
  The statement Views: of any view and any number the program's answers (who is next, who was before, who owns the key, may it be) are the document's, and the view that was handed in stays as it was.
-/
import Derived.Test.YtpbfhnjdnkmpaaaRows
import Derived.Test.YtpbfhnjdnkmpaaaOpen
import Derived.Test.YtpbfhnjdnkmpaaaViewLaw
import Derived.Test.YtpbfhnjdnkmpaaaViewRef
import Derived.Test.YtpbfhnjdnkmpaaaOpenV
namespace Go.Proofs.Ytpbfhnjdnkmpaaa.views
open Go.ChangeShapes Go.WideShapes Go.ChangeAt Go.RowKit
set_option linter.unusedVariables false

/-! ### The walk -/
set_option maxHeartbeats 4000000 in
theorem walk (v0 : Value) (x0 : VwO) (a1 : Int) (w : World) (r0 : v0 = .agg #[.int .i64 x0.i, x0.p, x0.q]) (w0 : (Lit.int .i64 x0.i).wf = true) (h0 : VwAt 0 w.heap.size w x0.p x0.q x0.ps x0.is) (s0 : x0.ps.length * 16 ≤ 140737488351232) (t0 : x0.is.length * 8 ≤ 140737488351232) (u0 : ∀ y ∈ x0.ps, PeW y) (y0 : ∀ y ∈ x0.is, (Lit.int .i64 y).wf = true) (w1 : (Lit.int .i64 a1).wf = true) :
    Calls Try.prog 3 #[v0, .int .i64 a1] w fun e w' => e = .returned (.bool true) ∧ Below w.heap.size w w' := by
  obtain ⟨i, ps, is, p, q⟩ := x0
  dsimp only at r0 w0 h0 s0 t0 u0 y0
  subst r0
  clear w0 u0 y0 w1
  obtain ⟨a, c, a', c', ep, eq, hn, hn'⟩ := h0.shape
  subst ep eq
  have B1 := toHid (fun (cs : Array Value) (t : TypeId) => Box.new w cs t)
  have V1 := toHid (fun o : Obj => h0.alloc o)
  clear h0
  have t2 := trivial
  have t3 := trivial
  have t4 := trivial
  have t5 := trivial
  have t6 := trivial
  have t7 := trivial
  go_enter Try.func3, Try.ntmps3
  go_wp2_with (first
    | (go_at_call 8; refine (copyView_any i (V1.out _) (by simp) (by omega) (by omega)).mono ?_; rintro e w1 ⟨p1, q1, rfl, X1, h1⟩
       obtain ⟨b1, b2, b3⟩ := (B1.out _ _).below h1
       obtain ⟨a1, c1, a1', c1', ep1, eq1, -, -⟩ := X1.shape
       subst ep1 eq1
       have BA := toHid (fun o : Obj => ((B1.out _ _).below h1).alloc o)
       have CA := toHid (fun (cs : Array Value) (t : TypeId) => Box.new w1 cs t)
       have XA := toHid (fun o : Obj => X1.alloc o)
       have VA := toHid (fun o : Obj => ((V1.out _).below h1 (by simp)).alloc o)
       have z1 : w.heap.size ≤ w1.heap.size := Nat.le_of_lt b1
       clear X1)
    | (go_at_call 9; clear t2; refine (vSucc_any i (XA.out _) (by simp)).mono ?_; rintro e w2 ⟨rfl, hk⟩
       clear b1 b2 b3
       obtain ⟨b1, b2, b3⟩ := (BA.out _).below hk
       obtain ⟨d1, d2, d3⟩ := (CA.out _ _).below hk)
    | (go_at_call 10; clear t3; refine (rSucc_any i ((VA.out _).below hk (Nat.le_trans z1 (by simp))) (Nat.le_trans z1 (Nat.le_trans (by simp) hk.size)) s0).mono ?_; rintro e w3 ⟨rfl, h3⟩
       replace hk := hk.on h3
       clear h3 b1 b2 b3 d1 d2 d3
       obtain ⟨b1, b2, b3⟩ := (BA.out _).below hk
       obtain ⟨d1, d2, d3⟩ := (CA.out _ _).below hk
       have zz := hk.size)
    | (go_at_call 11; clear t4; refine (vPred_any i ((XA.out _).below hk (by simp)) (Nat.le_trans (by simp) hk.size)).mono ?_; rintro e w4 ⟨rfl, h4⟩
       replace hk := hk.on h4
       clear h4 b1 b2 b3 d1 d2 d3
       obtain ⟨b1, b2, b3⟩ := (BA.out _).below hk
       obtain ⟨d1, d2, d3⟩ := (CA.out _ _).below hk
       have zz := hk.size)
    | (go_at_call 12; clear t5; refine (rPred_any i ((VA.out _).below hk (Nat.le_trans z1 (by simp))) (Nat.le_trans z1 (Nat.le_trans (by simp) hk.size)) s0).mono ?_; rintro e w5 ⟨rfl, h5⟩
       replace hk := hk.on h5
       clear h5 b1 b2 b3 d1 d2 d3
       obtain ⟨b1, b2, b3⟩ := (BA.out _).below hk
       obtain ⟨d1, d2, d3⟩ := (CA.out _ _).below hk
       have zz := hk.size)
    | (go_at_call 13; clear t6; refine (vOwner_any i _ ((XA.out _).below hk (by simp)) (Nat.le_trans (by simp) hk.size)).mono ?_; rintro e w6 ⟨rfl, h6⟩
       replace hk := hk.on h6
       clear h6 b1 b2 b3 d1 d2 d3
       obtain ⟨b1, b2, b3⟩ := (BA.out _).below hk
       obtain ⟨d1, d2, d3⟩ := (CA.out _ _).below hk
       have zz := hk.size)
    | (go_at_call 14; clear t7; refine (rVOwner_any i _ ((VA.out _).below hk (Nat.le_trans z1 (by simp))) (Nat.le_trans z1 (Nat.le_trans (by simp) hk.size)) s0).mono ?_; rintro e w7 ⟨rfl, h7⟩
       replace hk := hk.on h7
       clear h7 b1 b2 b3 d1 d2 d3
       obtain ⟨b1, b2, b3⟩ := (BA.out _).below hk
       obtain ⟨d1, d2, d3⟩ := (CA.out _ _).below hk
       have zz := hk.size))
  refine wp_region_below (by kernel_rfl) (by kernel_rfl) ?_
  repeat (first
    | go_big_quiet_skip
    | (go_big_quiet_want; go_big_quiet_op; go_big_quiet_on)
    | (refine wpQuiet_step (fun K hK => ?_)
       go_simp
       first
         | (refine hK _ ?_; clear hK K)
         | (refine ⟨_, fun w' hw' => rfl, hK _ ?_⟩; clear hK K)
         | (apply Exists.intro
            refine ⟨fun w' hw' => ?_, hK _ ?_⟩
            · (obtain ⟨hc', hf'⟩ := bcell hw'
               first
                 | (go_simp; rfl)
                 | (go_at_call 15; refine (num_any _ _).mono ?_; rintro e w9 ⟨rfl, hw9⟩; subst w9; exact ⟨rfl, hw'⟩)
                 | (go_at_call 16; refine (vMay_any i ((XA.out _).below (hk.on hw') (by simp)) (Nat.le_trans (by simp) (hk.on hw').size)).mono ?_; rintro e w9 ⟨rfl, h9⟩; exact ⟨rfl, hw'.on h9⟩)
                 | (go_at_call 17; refine (rVMay_any i ((VA.out _).below (hk.on hw') (Nat.le_trans z1 (by simp))) (Nat.le_trans z1 (Nat.le_trans (by simp) (hk.on hw').size)) s0).mono ?_; rintro e w9 ⟨rfl, h9⟩; exact ⟨rfl, hw'.on h9⟩)
                 | (go_at_call 18; refine (sameView_same i ((XA.out _).below (hk.on hw') (by simp)) ((VA.out _).below (hk.on hw') (Nat.le_trans z1 (by simp))) (Nat.le_trans (by simp) (hk.on hw').size) (Nat.le_trans z1 (Nat.le_trans (by simp) (hk.on hw').size))).mono ?_; rintro e w9 ⟨rfl, h9⟩; exact ⟨rfl, hw'.on h9⟩)
                 | (go_at_call 19; refine (awake9_any _).mono ?_; rintro e w9 ⟨rfl, h9⟩; exact ⟨rfl, hw'.on h9⟩))
            clear hK K)))
  refine wpQuiet_nil ?_
  intro wc hc0
  go_wp2
  go_ret
  exact ⟨rfl, (((((Below.refl _ w).onA _).on h1).onA _).on hk).on hc0⟩

/-! ### The row's step -/
set_option maxRecDepth 100000 in
theorem lifted (os : Os) (started : os.Started) (H : Type) (enc : TypeId × Value → H) :
    ReturnsInHanded {} Try.checked os 3 .any (Rows.viewsSpec.pre6 enc Try.prog Try.f3 Rows.viewsRow.domain false) (Rows.viewsSpec.post enc Try.prog Try.f3 false true false false) := by
  refine returnsInHanded_of_change_sized (C := Try.checked) ownK started (by kernel_rfl) Try.func3
    (ChangeSpec.witness6 (enc := enc) (C := Try.checked) false ⟨#[], #[.agg #[.int .i64 0, .slice none 0 0, .slice none 0 0], .int .i64 0], []⟩ 8 (by kernel_rfl) (by kernel_rfl) (by kernel_rfl) (by kernel_rfl)) ?_
  intro W base args ds gs before hval0 hW hcnd hsz0 _
  have hsz : (DataW.weightsEach Try.prog (Try.f3.params.toList ++ Rows.viewsSpec.plain.varTypes Try.prog) (ds ++ gs)).all (· ≤ reachBytes) = true := hsz0
  have hval : ∀ (j : Nat) t v, Try.f3.params[j]? = some t → args[j]? = some v → Value.okWide Try.prog W .any base t v := hval0
  have hW' := hW
  obtain ⟨p, q, hA0, hV, rfl, hfz, hnd⟩ := hW
  have hA : DataW.TrodAll enc Try.prog W 0 (fun _ => true) true Try.f3.params.toList args.toList ds p := hA0
  rw [Try.params3] at hA hval hsz
  obtain ⟨v0, vs0, d0, ds0, p0, q0, hargs, rfl, rfl, h0, r0⟩ := trodAll_cons hA
  obtain ⟨v1, vs1, d1, ds1, p1, q1, rfl, rfl, rfl, h1, r1⟩ := trodAll_cons r0
  obtain ⟨rfl, rfl, rfl⟩ := trodAll_nil r1
  obtain rfl : args = #[v0, v1] := by cases args; simp_all
  obtain ⟨rfl, rfl⟩ := trodVars_none hV
  clear r0 r1
  have k0 := h0
  have lt0 : ∀ x ∈ p0, x.block < W.heap.size := by obtain ⟨m, hm⟩ := k0; exact DataW.trod_lt m _ _ _ hm
  have z0 : ∀ n ∈ d0.weights Try.prog 25, n ≤ reachBytes := fun n hn => by simpa using List.all_eq_true.1 hsz _ (DataW.weights_mem_each (j := 0) rfl rfl n hn)
  have f0 : W.noneFrozen p0 := fun b off hm => hfz b off (by simp [hm])
  have k1 := h1
  have lt1 : ∀ x ∈ p1, x.block < W.heap.size := by obtain ⟨m, hm⟩ := k1; exact DataW.trod_lt m _ _ _ hm
  obtain ⟨x0, r0, w0, h0, s0, t0, u0, y0⟩ := open_view (hval 0 25 v0 rfl rfl) h0 f0 z0
  obtain ⟨a1, rfl, rfl, rfl, w1⟩ := open_int Try.underlying3 (hval 1 3 v1 rfl rfl) h1
  clear hA0 hval0
  refine (walk v0 x0 a1 W r0 w0 h0 s0 t0 u0 y0 w1).mono fun e W' ⟨he, bel⟩ => ?_
  subst he
  exact ⟨_, rfl, _, _, _, [], _, [], hW', trodAll_mk1 (shut_bool Try.underlying4 _), (trodAll_cons_mk (Below.trod laidOut (by kernel_rfl) (of_decide_eq_true (by kernel_rfl)) k0 bel lt0) (trodAll_cons_mk (Below.trod laidOut (by kernel_rfl) (of_decide_eq_true (by kernel_rfl)) k1 bel lt1) trodAll_mk0)), rfl, bel.frame _, fun h => by cases h⟩

theorem over : Rows.viewsRow.holds Try.pinned (OpenSpec.ofChange Rows.viewsSpec) :=
  OpenClaim.holds_of_wide 3 Try.f3 rfl rfl rfl rfl rfl rfl rfl ⟨rfl, rfl, rfl, rfl, rfl⟩ rfl rfl rfl rfl rfl (by kernel_rfl) Try.func3 (by kernel_rfl)
    (of_decide_eq_true (by kernel_rfl)) (by unfold Func.isWrapper; first | (rw [if_pos (by decide +kernel)]; kernel_rfl) | (rw [if_neg (by decide +kernel)]; exact ⟨rfl, rfl⟩))
    (fun os started H enc _ => lifted os started H enc)

end Go.Proofs.Ytpbfhnjdnkmpaaa.views

namespace Go.Proofs.Ytpbfhnjdnkmpaaa
/-- The statement, by its short name. -/
theorem views_holds : Rows.ViewsSaid := views.over
#print axioms views_holds
end Go.Proofs.Ytpbfhnjdnkmpaaa
