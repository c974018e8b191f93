
/-
  The statement Msgs: of any message the program's answer whether it may be is the document's, and the message that was handed in stays as it was.
-/
import Derived.Test.YtpbjlomlkjkedaaRows
import Derived.Test.YtpbjlomlkjkedaaOpen
import Derived.Test.YtpbjlomlkjkedaaMsgLaw
import Derived.Test.YtpbjlomlkjkedaaMsgRow
import Derived.Test.YtpbjlomlkjkedaaMsgRef
import Derived.Test.YtpbjlomlkjkedaaCalm
import Derived.Test.YtpbjlomlkjkedaaOld
import Derived.Test.YtpbjlomlkjkedaaOpenM
namespace Go.Proofs.Ytpbjlomlkjkedaa.msgs
open Go.ChangeShapes Go.WideShapes Go.ChangeAt Go.RowKit
set_option linter.unusedVariables false

/-! ### The walk -/
set_option maxHeartbeats 4000000 in
theorem walk (v0 : Value) (x0 : MgO) (w : World) (r0 : v0 = .agg #[.int .i64 x0.n, .int .i64 x0.a, .int .i64 x0.b, x0.v, .int .i64 x0.k, .int .i64 x0.t.k, .int .i64 x0.t.c, .int .i64 x0.t.u, .int .i64 x0.t.x, .bool x0.t.g, .bool x0.h]) (h0 : RowI 0 w.heap.size w x0.v x0.is) (s0 : x0.is.length * 8 ≤ 140737488351232) :
    Calls Try.prog 3 #[v0] w fun e w' => e = .returned (.bool true) ∧ Below w.heap.size w w' := by
  obtain ⟨n, a, b, is, k, ⟨tk, tc, tu, tx, tg⟩, h, v⟩ := x0
  dsimp only at r0 h0 s0
  subst r0
  have B1 := toHid (fun (cs : Array Value) (t : TypeId) => Box.new w cs t)
  have V1 := toHid (fun o : Obj => h0.alloc o)
  obtain ⟨p, c, rfl, -⟩ := h0
  go_enter Try.func3, Try.ntmps3
  go_wp2_with (first
    | (go_at_call 6; refine (copyMsg_any (V1.out _) (by omega) _ _ _ _ _ _ _ _ _ _).mono ?_; rintro e w1 ⟨p1, c1, rfl, X1, h1⟩
       have BM := toHid (((B1.out _ _).below h1).alloc (.cells #[.int .i64 n, .int .i64 a, .int .i64 b, .slice p1 is.length c1, .int .i64 k, .int .i64 tk, .int .i64 tc, .int .i64 tu, .int .i64 tx, .bool tg, .bool h] 28))
       have BX := toHid (Box.new w1 #[.int .i64 n, .int .i64 a, .int .i64 b, .slice p1 is.length c1, .int .i64 k, .int .i64 tk, .int .i64 tc, .int .i64 tu, .int .i64 tx, .bool tg, .bool h] 28)
       have RX := toHid ((X1.alloc (.cells #[.int .i64 n, .int .i64 a, .int .i64 b, .slice p1 is.length c1, .int .i64 k, .int .i64 tk, .int .i64 tc, .int .i64 tu, .int .i64 tx, .bool tg, .bool h] 28)).wide (Nat.zero_le _) (hi' := (w1.alloc (.cells #[.int .i64 n, .int .i64 a, .int .i64 b, .slice p1 is.length c1, .int .i64 k, .int .i64 tk, .int .i64 tc, .int .i64 tu, .int .i64 tx, .bool tg, .bool h] 28)).heap.size) (by simp))
       have RM := toHid ((((V1.out _).below h1 (by simp)).alloc (.cells #[.int .i64 n, .int .i64 a, .int .i64 b, .slice p1 is.length c1, .int .i64 k, .int .i64 tk, .int .i64 tc, .int .i64 tu, .int .i64 tx, .bool tg, .bool h] 28)).wide (Nat.zero_le _) (hi' := (w1.alloc (.cells #[.int .i64 n, .int .i64 a, .int .i64 b, .slice p1 is.length c1, .int .i64 k, .int .i64 tk, .int .i64 tc, .int .i64 tu, .int .i64 tx, .bool tg, .bool h] 28)).heap.size) (Nat.le_trans (by simp) (Nat.le_trans h1.size (by simp))))
       have hB := toHid ((((Below.refl _ w).onA _).on h1).onA (.cells #[.int .i64 n, .int .i64 a, .int .i64 b, .slice p1 is.length c1, .int .i64 k, .int .i64 tk, .int .i64 tc, .int .i64 tu, .int .i64 tx, .bool tg, .bool h] 28))
       clear X1 h1))
  generalize w1.alloc (.cells #[.int .i64 n, .int .i64 a, .int .i64 b, .slice p1 is.length c1, .int .i64 k, .int .i64 tk, .int .i64 tc, .int .i64 tu, .int .i64 tx, .bool tg, .bool h] 28) = wA at BM BX RX RM hB ⊢
  obtain ⟨b1, b2, b3⟩ := BM.out
  obtain ⟨d1, d2, d3⟩ := BX.out
  refine wp_region_below (by kernel_rfl) (by kernel_rfl) ?_
  repeat (first
    | go_big_quiet_skip
    | (go_big_quiet_want; go_big_quiet_op; go_big_quiet_on)
    | (refine wpQuiet_step (fun K hK => ?_)
       go_simp
       first
         | (refine hK _ ?_; clear hK K)
         | (refine ⟨_, fun w' hw' => rfl, hK _ ?_⟩; clear hK K)
         | (apply Exists.intro
            refine ⟨fun w' hw' => ?_, hK _ ?_⟩
            · (obtain ⟨hc', hf'⟩ := bcell hw'
               first
                 | (go_simp; rfl)
                 | (go_at_call 10; refine (num_any _ _).mono ?_; rintro e w9 ⟨rfl, hw9⟩; subst w9; exact ⟨rfl, hw'⟩)
                 | (go_at_call 7; refine (mMay_any (RX.out.below hw' (Nat.le_refl _)) _ _ _ _ _ _ _ _ _ _).mono ?_; rintro e w9 ⟨rfl, h9⟩; exact ⟨rfl, hw'.on h9⟩)
                 | (go_at_call 8; refine (rMsgMay_any (RM.out.below hw' (Nat.le_refl _)) _ _ _ _ _ _ _ _ _ _).mono ?_; rintro e w9 ⟨rfl, h9⟩; exact ⟨rfl, hw'.on h9⟩)
                 | (go_at_call 9; refine (sameMsg_same (RX.out.below hw' (Nat.le_refl _)) (RM.out.below hw' (Nat.le_refl _)) _ _ _ _ _ _ _ _ _ _).mono ?_; rintro e w9 ⟨rfl, h9⟩; exact ⟨rfl, hw'.on h9⟩)
                 | (go_at_call 11; refine (awake12_any _).mono ?_; rintro e w9 ⟨rfl, h9⟩; exact ⟨rfl, hw'.on h9⟩))
            clear hK K)))
  refine wpQuiet_nil ?_
  intro wc hc0
  go_wp2
  go_ret
  exact ⟨rfl, hB.out.on hc0⟩

/-! ### The row's step -/
set_option maxRecDepth 100000 in
theorem lifted (os : Os) (started : os.Started) (H : Type) (enc : TypeId × Value → H) :
    ReturnsInHanded {} Try.checked os 3 .any (Rows.msgsSpec.pre6 enc Try.prog Try.f3 Rows.msgsRow.domain false) (Rows.msgsSpec.post enc Try.prog Try.f3 false true false false) := by
  refine returnsInHanded_of_change_sized (C := Try.checked) ownK started (by kernel_rfl) Try.func3
    (ChangeSpec.witness6 (enc := enc) (C := Try.checked) false ⟨#[], #[.agg #[.int .i64 0, .int .i64 0, .int .i64 0, .slice none 0 0, .int .i64 0, .int .i64 0, .int .i64 0, .int .i64 0, .int .i64 0, .bool false, .bool false]], []⟩ 8 (by kernel_rfl) (by kernel_rfl) (by kernel_rfl) (by kernel_rfl)) ?_
  intro W base args ds gs before hval0 hW hcnd hsz0 _
  have hsz : (DataW.weightsEach Try.prog (Try.f3.params.toList ++ Rows.msgsSpec.plain.varTypes Try.prog) (ds ++ gs)).all (· ≤ reachBytes) = true := hsz0
  have hval : ∀ (j : Nat) t v, Try.f3.params[j]? = some t → args[j]? = some v → Value.okWide Try.prog W .any base t v := hval0
  have hW' := hW
  obtain ⟨p, q, hA0, hV, rfl, hfz, hnd⟩ := hW
  have hA : DataW.TrodAll enc Try.prog W 0 (fun _ => true) true Try.f3.params.toList args.toList ds p := hA0
  rw [Try.params3] at hA hval hsz
  obtain ⟨v0, vs0, d0, ds0, p0, q0, hargs, rfl, rfl, h0, r0⟩ := trodAll_cons hA
  obtain ⟨rfl, rfl, rfl⟩ := trodAll_nil r0
  obtain rfl : args = #[v0] := by cases args; simp_all
  obtain ⟨rfl, rfl⟩ := trodVars_none hV
  clear r0
  have k0 := h0
  have lt0 : ∀ x ∈ p0, x.block < W.heap.size := by obtain ⟨m, hm⟩ := k0; exact DataW.trod_lt m _ _ _ hm
  have z0 : ∀ n ∈ d0.weights Try.prog 28, n ≤ reachBytes := fun n hn => by simpa using List.all_eq_true.1 hsz _ (DataW.weights_mem_each (j := 0) rfl rfl n hn)
  have f0 : W.noneFrozen p0 := fun b off hm => hfz b off (by simp [hm])
  obtain ⟨x0, r0, h0, s0⟩ := open_msg (hval 0 28 v0 rfl rfl) h0 f0 z0
  clear hA0 hval0
  refine (walk v0 x0 W r0 h0 s0).mono fun e W' ⟨he, bel⟩ => ?_
  subst he
  exact ⟨_, rfl, _, _, _, [], _, [], hW', trodAll_mk1 (shut_bool Try.underlying4 _), (trodAll_cons_mk (Below.trod laidOut (by kernel_rfl) (of_decide_eq_true (by kernel_rfl)) k0 bel lt0) trodAll_mk0), rfl, bel.frame _, fun h => by cases h⟩

theorem over : Rows.msgsRow.holds Try.pinned (OpenSpec.ofChange Rows.msgsSpec) :=
  OpenClaim.holds_of_wide 3 Try.f3 rfl rfl rfl rfl rfl rfl rfl ⟨rfl, rfl, rfl, rfl, rfl⟩ rfl rfl rfl rfl rfl (by kernel_rfl) Try.func3 (by kernel_rfl)
    (of_decide_eq_true (by kernel_rfl)) (by unfold Func.isWrapper; first | (rw [if_pos (by decide +kernel)]; kernel_rfl) | (rw [if_neg (by decide +kernel)]; exact ⟨rfl, rfl⟩))
    (fun os started H enc _ => lifted os started H enc)

end Go.Proofs.Ytpbjlomlkjkedaa.msgs

namespace Go.Proofs.Ytpbjlomlkjkedaa
/-- The statement, by its short name. -/
theorem msgs_holds : Rows.MsgsSaid := msgs.over
#print axioms msgs_holds
end Go.Proofs.Ytpbjlomlkjkedaa
