/-
  VersionCount: at every four numbers, a greater count is newer, and of equal counts the greater writer; no condition.
-/
import Derived.Test.YtpdcofkohhfncaaRows
import Derived.Test.YtpdcofkohhfncaaOpen
import Derived.Test.YtpdcofkohhfncaaVer
namespace Go.Proofs.Ytpdcofkohhfncaa.versionCount
open Go.ChangeShapes Go.WideShapes Go.ChangeAt Go.RowKit
set_option linter.unusedVariables false

/-! ### The walk -/
set_option maxHeartbeats 1000000 in
theorem walk (a0 : Int) (a1 : Int) (a2 : Int) (a3 : Int) (w : World) (w0 : (Lit.int .i64 a0).wf = true) (w1 : (Lit.int .i64 a1).wf = true) (w2 : (Lit.int .i64 a2).wf = true) (w3 : (Lit.int .i64 a3).wf = true) :
    Calls Try.prog 6 #[.int .i64 a0, .int .i64 a1, .int .i64 a2, .int .i64 a3] w fun e w' => e = .returned (.bool true) ∧ Below w.heap.size w w' := by
  have ec : bits .and .i64 a0 1023 = a0 % 1024 := and1023 a0
  have ed : bits .and .i64 a1 1023 = a1 % 1024 := and1023 a1
  have eu : bits .and .i64 a2 255 = a2 % 256 := and255 a2
  have ev : bits .and .i64 a3 255 = a3 % 256 := and255 a3
  obtain ⟨c, hc⟩ : ∃ c, c = a0 % 1024 := ⟨_, rfl⟩
  obtain ⟨d, hd⟩ : ∃ d, d = a1 % 1024 := ⟨_, rfl⟩
  obtain ⟨u, hu⟩ : ∃ u, u = a2 % 256 := ⟨_, rfl⟩
  obtain ⟨v, hv⟩ : ∃ v, v = a3 % 256 := ⟨_, rfl⟩
  have c0 : 0 ≤ c := by omega
  have c1 : c < 1024 := by omega
  have d0 : 0 ≤ d := by omega
  have d1 : d < 1024 := by omega
  have pu : plB u = true := hu ▸ place_mod a2
  have pv : plB v = true := hv ▸ place_mod a3
  rw [← hc] at ec
  rw [← hd] at ed
  rw [← hu] at eu
  rw [← hv] at ev
  clear hc hd hu hv w0 w1 w2 w3
  have b1 : verB (1 + c) u = true := by simp [verB, cntB, pu]; omega
  have b2 : verB (1 + d) v = true := by simp [verB, cntB, pv]; omega
  obtain ⟨n1, n2⟩ := newB_yes b1 b2
  clear b1 b2 pu pv
  by_cases h1 : 1 + d < 1 + c
  · have g : gtB (1 + c) u (1 + d) v = true := by simp [gtB]; omega
    rw [g] at n1
    clear g
    go_enter Try.func6, Try.ntmps6
    go_wp2_with (first
      | (go_at_call 12; refine (awake3_any _).mono ?_; rintro e w9 ⟨rfl, bb9⟩)
      | (go_at_call 7; refine (newer_any _ _ _ _ _).mono ?_; rintro e w1 ⟨rfl, hb1⟩; obtain ⟨hc1, hf1⟩ := bcell hb1)
      | (go_at_call 9; refine (num_any _ _).mono ?_; rintro e w' ⟨rfl, hw'⟩; subst w'))
    go_ret
    exact ⟨rfl, ((bb9.onA _).onA _).on hb1⟩
  · have h1' : decide (1 + d < 1 + c) = false := by simpa using h1
    have h1'' : decide (d < c) = false := by simp; omega
    by_cases h2 : 1 + c = 1 + d
    · obtain rfl : c = d := by omega
      have g : gtB (1 + c) u (1 + c) v = decide (v < u) := by simp [gtB]
      rw [g] at n1
      clear g h2
      go_enter Try.func6, Try.ntmps6
      go_wp2_with (first
        | (go_at_call 12; refine (awake3_any _).mono ?_; rintro e w9 ⟨rfl, bb9⟩)
        | (go_at_call 7; refine (newer_any _ _ _ _ _).mono ?_; rintro e w1 ⟨rfl, hb1⟩; obtain ⟨hc1, hf1⟩ := bcell hb1)
        | (go_at_call 9; refine (num_any _ _).mono ?_; rintro e w' ⟨rfl, hw'⟩; subst w'))
      go_ret
      exact ⟨rfl, ((bb9.onA _).onA _).on hb1⟩
    · have h2' : (1 + c == 1 + d) = false := by simpa using h2
      have g : gtB (1 + c) u (1 + d) v = false := by simp [gtB]; omega
      rw [g] at n1
      clear g
      go_enter Try.func6, Try.ntmps6
      go_wp2_with (first
        | (go_at_call 12; refine (awake3_any _).mono ?_; rintro e w9 ⟨rfl, bb9⟩)
        | (go_at_call 7; refine (newer_any _ _ _ _ _).mono ?_; rintro e w1 ⟨rfl, hb1⟩; obtain ⟨hc1, hf1⟩ := bcell hb1)
        | (go_at_call 9; refine (num_any _ _).mono ?_; rintro e w' ⟨rfl, hw'⟩; subst w'))
      go_ret
      exact ⟨rfl, ((bb9.onA _).onA _).on hb1⟩

/-! ### The row's step -/
set_option maxRecDepth 100000 in
theorem lifted (os : Os) (started : os.Started) (H : Type) (enc : TypeId × Value → H) :
    ReturnsInHanded {} Try.checked os 6 .any (Rows.versionCountSpec.pre6 enc Try.prog Try.f6 Rows.versionCountRow.domain false) (Rows.versionCountSpec.post enc Try.prog Try.f6 false true false false) := by
  refine returnsInHanded_of_change_sized (C := Try.checked) ownK started (by kernel_rfl) Try.func6
    (ChangeSpec.witness6 (enc := enc) (C := Try.checked) false ⟨#[], #[.int .i64 0, .int .i64 0, .int .i64 0, .int .i64 0], []⟩ 8 (by kernel_rfl) (by kernel_rfl) (by kernel_rfl) (by kernel_rfl)) ?_
  intro W base args ds gs before hval0 hW hcnd hsz0 _
  have hsz : (DataW.weightsEach Try.prog (Try.f6.params.toList ++ Rows.versionCountSpec.plain.varTypes Try.prog) (ds ++ gs)).all (· ≤ reachBytes) = true := hsz0
  have hval : ∀ (j : Nat) t v, Try.f6.params[j]? = some t → args[j]? = some v → Value.okWide Try.prog W .any base t v := hval0
  have hW' := hW
  obtain ⟨p, q, hA0, hV, rfl, hfz, hnd⟩ := hW
  have hA : DataW.TrodAll enc Try.prog W 0 (fun _ => true) true Try.f6.params.toList args.toList ds p := hA0
  rw [Try.params6] at hA hval hsz
  obtain ⟨v0, vs0, d0, ds0, p0, q0, hargs, rfl, rfl, h0, r0⟩ := trodAll_cons hA
  obtain ⟨v1, vs1, d1, ds1, p1, q1, rfl, rfl, rfl, h1, r1⟩ := trodAll_cons r0
  obtain ⟨v2, vs2, d2, ds2, p2, q2, rfl, rfl, rfl, h2, r2⟩ := trodAll_cons r1
  obtain ⟨v3, vs3, d3, ds3, p3, q3, rfl, rfl, rfl, h3, r3⟩ := trodAll_cons r2
  obtain ⟨rfl, rfl, rfl⟩ := trodAll_nil r3
  obtain rfl : args = #[v0, v1, v2, v3] := by cases args; simp_all
  obtain ⟨rfl, rfl⟩ := trodVars_none hV
  clear r0 r1 r2 r3
  have k0 := h0
  have lt0 : ∀ x ∈ p0, x.block < W.heap.size := by obtain ⟨m, hm⟩ := k0; exact DataW.trod_lt m _ _ _ hm
  have k1 := h1
  have lt1 : ∀ x ∈ p1, x.block < W.heap.size := by obtain ⟨m, hm⟩ := k1; exact DataW.trod_lt m _ _ _ hm
  have k2 := h2
  have lt2 : ∀ x ∈ p2, x.block < W.heap.size := by obtain ⟨m, hm⟩ := k2; exact DataW.trod_lt m _ _ _ hm
  have k3 := h3
  have lt3 : ∀ x ∈ p3, x.block < W.heap.size := by obtain ⟨m, hm⟩ := k3; exact DataW.trod_lt m _ _ _ hm
  obtain ⟨a0, rfl, rfl, rfl, w0⟩ := open_int Try.underlying3 (hval 0 3 v0 rfl rfl) h0
  obtain ⟨a1, rfl, rfl, rfl, w1⟩ := open_int Try.underlying3 (hval 1 3 v1 rfl rfl) h1
  obtain ⟨a2, rfl, rfl, rfl, w2⟩ := open_int Try.underlying3 (hval 2 3 v2 rfl rfl) h2
  obtain ⟨a3, rfl, rfl, rfl, w3⟩ := open_int Try.underlying3 (hval 3 3 v3 rfl rfl) h3
  clear hA0 hval0
  refine (walk a0 a1 a2 a3 W w0 w1 w2 w3).mono fun e W' ⟨he, bel⟩ => ?_
  subst he
  exact ⟨_, rfl, _, _, _, [], _, [], hW', trodAll_mk1 (shut_bool Try.underlying4 _), (trodAll_cons_mk (Below.trod laidOut (by kernel_rfl) (of_decide_eq_true (by kernel_rfl)) k0 bel lt0) (trodAll_cons_mk (Below.trod laidOut (by kernel_rfl) (of_decide_eq_true (by kernel_rfl)) k1 bel lt1) (trodAll_cons_mk (Below.trod laidOut (by kernel_rfl) (of_decide_eq_true (by kernel_rfl)) k2 bel lt2) (trodAll_cons_mk (Below.trod laidOut (by kernel_rfl) (of_decide_eq_true (by kernel_rfl)) k3 bel lt3) trodAll_mk0)))), rfl, bel.frame _, fun h => by cases h⟩

theorem over : Rows.versionCountRow.holds Try.pinned (OpenSpec.ofChange Rows.versionCountSpec) :=
  OpenClaim.holds_of_wide 6 Try.f6 rfl rfl rfl rfl rfl rfl rfl ⟨rfl, rfl, rfl, rfl, rfl⟩ rfl rfl rfl rfl rfl (by kernel_rfl) Try.func6 (by kernel_rfl)
    (of_decide_eq_true (by kernel_rfl)) (by unfold Func.isWrapper; first | (rw [if_pos (by decide +kernel)]; kernel_rfl) | (rw [if_neg (by decide +kernel)]; exact ⟨rfl, rfl⟩))
    (fun os started H enc _ => lifted os started H enc)

end Go.Proofs.Ytpdcofkohhfncaa.versionCount

namespace Go.Proofs.Ytpdcofkohhfncaa
/-- The statement, by its short name. -/
theorem versionCount_holds : Rows.VersionCountSaid := versionCount.over
#print axioms versionCount_holds
end Go.Proofs.Ytpdcofkohhfncaa
