/-
  VersionRow: at every three numbers, of two unlike versions just one is newer, of none itself, and of three it goes on; no condition.
-/
import Derived.Test.YtpdcofkohhfncaaRows
import Derived.Test.YtpdcofkohhfncaaOpen
import Derived.Test.YtpdcofkohhfncaaVer
namespace Go.Proofs.Ytpdcofkohhfncaa.versionRow
open Go.ChangeShapes Go.WideShapes Go.ChangeAt Go.RowKit
set_option linter.unusedVariables false

/-! ### The walk -/
set_option maxHeartbeats 4000000 in
theorem walk (a0 : Int) (a1 : Int) (a2 : Int) (w : World) (w0 : (Lit.int .i64 a0).wf = true) (w1 : (Lit.int .i64 a1).wf = true) (w2 : (Lit.int .i64 a2).wf = true) :
    Calls Try.prog 5 #[.int .i64 a0, .int .i64 a1, .int .i64 a2] w fun e w' => e = .returned (.bool true) ∧ Below w.heap.size w w' := by
  have ec : bits .and .i64 a0 3 = a0 % 4 := and3 a0
  have ed : bits .and .i64 a1 3 = a1 % 4 := and3 a1
  have ef : bits .and .i64 a2 3 = a2 % 4 := and3 a2
  have eu : bits .and .i64 (a0 / 4) 3 = a0 / 4 % 4 := and3 _
  have ev : bits .and .i64 (a1 / 4) 3 = a1 / 4 % 4 := and3 _
  have et : bits .and .i64 (a2 / 4) 3 = a2 / 4 % 4 := and3 _
  obtain ⟨c, hc⟩ : ∃ c, c = a0 % 4 := ⟨_, rfl⟩
  obtain ⟨d, hd⟩ : ∃ c, c = a1 % 4 := ⟨_, rfl⟩
  obtain ⟨f, hf⟩ : ∃ c, c = a2 % 4 := ⟨_, rfl⟩
  obtain ⟨u, hu⟩ : ∃ c, c = a0 / 4 % 4 := ⟨_, rfl⟩
  obtain ⟨v, hv⟩ : ∃ c, c = a1 / 4 % 4 := ⟨_, rfl⟩
  obtain ⟨t, ht⟩ : ∃ c, c = a2 / 4 % 4 := ⟨_, rfl⟩
  have c0 : 0 ≤ c ∧ c < 4 ∧ 0 ≤ u ∧ u < 4 := by omega
  have d0 : 0 ≤ d ∧ d < 4 ∧ 0 ≤ v ∧ v < 4 := by omega
  have f0 : 0 ≤ f ∧ f < 4 ∧ 0 ≤ t ∧ t < 4 := by omega
  rw [← hc] at ec
  rw [← hd] at ed
  rw [← hf] at ef
  rw [← hu] at eu
  rw [← hv] at ev
  rw [← ht] at et
  clear hc hd hf hu hv ht w0 w1 w2
  have b1 : verB (1 + c) u = true := by simp [verB, cntB, plB]; omega
  have b2 : verB (1 + d) v = true := by simp [verB, cntB, plB]; omega
  have b3 : verB (1 + f) t = true := by simp [verB, cntB, plB]; omega
  obtain ⟨c1, c2, -, -⟩ := c0
  obtain ⟨d1, d2, -, -⟩ := d0
  obtain ⟨f1, f2, -, -⟩ := f0
  have t1 := trivial
  have t2 := trivial
  have t3 := trivial
  have t4 := trivial
  by_cases hcd : c = d
  · subst hcd
    by_cases huv : u = v
    · subst huv
      have g1 : gtB (1 + c) u (1 + c) u = false := by simp [gtB]
      go_enter Try.func5, Try.ntmps5
      go_wp2_with (first
        | (go_at_call 12; refine (awake3_any _).mono ?_; rintro e w9 ⟨rfl, bb9⟩)
        | (go_at_call 7; clear t1; refine (newer_good _ _ _ _ _ b1 b2).mono ?_; rintro e w1 ⟨rfl, hb1⟩; obtain ⟨hc1, hf1⟩ := bcell hb1)
        | (go_at_call 7; clear t2; refine (newer_good _ _ _ _ _ b2 b1).mono ?_; rintro e w2 ⟨rfl, hb2⟩; replace hb2 := hb1.on hb2; clear hb1 hc1 hf1; obtain ⟨hc2, hf2⟩ := bcell hb2)
        | (go_at_call 7; clear t3; refine (newer_good _ _ _ _ _ b2 b3).mono ?_; rintro e w3 ⟨rfl, hb3⟩; replace hb3 := hb2.on hb3; clear hb2 hc2 hf2; obtain ⟨hc3, hf3⟩ := bcell hb3)
        | (go_at_call 7; clear t4; refine (newer_good _ _ _ _ _ b1 b3).mono ?_; rintro e w4 ⟨rfl, hb4⟩; replace hb4 := hb3.on hb4; clear hb3 hc3 hf3; obtain ⟨hc4, hf4⟩ := bcell hb4)
        | (go_at_call 9; refine (num_any _ _).mono ?_; rintro e w' ⟨rfl, hw'⟩; subst w'))
      go_ret
      exact ⟨rfl, (((bb9.onA _).onA _).onA _).on hb4⟩
    · have n1 : (u == v) = false := by simpa using huv
      by_cases hl : v < u
      · have g1 : gtB (1 + c) u (1 + c) v = true := by simp [gtB]; omega
        have g2 : gtB (1 + c) v (1 + c) u = false := by simp [gtB]; omega
        by_cases g3 : gtB (1 + c) v (1 + f) t = true
        · have g4 : gtB (1 + c) u (1 + f) t = true := by simp [gtB] at g3 ⊢; omega
          clear hl
          go_enter Try.func5, Try.ntmps5
          go_wp2_with (first
            | (go_at_call 12; refine (awake3_any _).mono ?_; rintro e w9 ⟨rfl, bb9⟩)
            | (go_at_call 7; clear t1; refine (newer_good _ _ _ _ _ b1 b2).mono ?_; rintro e w1 ⟨rfl, hb1⟩; obtain ⟨hc1, hf1⟩ := bcell hb1)
            | (go_at_call 7; clear t2; refine (newer_good _ _ _ _ _ b2 b1).mono ?_; rintro e w2 ⟨rfl, hb2⟩; replace hb2 := hb1.on hb2; clear hb1 hc1 hf1; obtain ⟨hc2, hf2⟩ := bcell hb2)
            | (go_at_call 7; clear t3; refine (newer_good _ _ _ _ _ b2 b3).mono ?_; rintro e w3 ⟨rfl, hb3⟩; replace hb3 := hb2.on hb3; clear hb2 hc2 hf2; obtain ⟨hc3, hf3⟩ := bcell hb3)
            | (go_at_call 7; clear t4; refine (newer_good _ _ _ _ _ b1 b3).mono ?_; rintro e w4 ⟨rfl, hb4⟩; replace hb4 := hb3.on hb4; clear hb3 hc3 hf3; obtain ⟨hc4, hf4⟩ := bcell hb4)
            | (go_at_call 9; refine (num_any _ _).mono ?_; rintro e w' ⟨rfl, hw'⟩; subst w'))
          go_ret
          exact ⟨rfl, (((bb9.onA _).onA _).onA _).on hb4⟩
        · have g3 : gtB (1 + c) v (1 + f) t = false := by simpa using g3
          clear hl
          go_enter Try.func5, Try.ntmps5
          go_wp2_with (first
            | (go_at_call 12; refine (awake3_any _).mono ?_; rintro e w9 ⟨rfl, bb9⟩)
            | (go_at_call 7; clear t1; refine (newer_good _ _ _ _ _ b1 b2).mono ?_; rintro e w1 ⟨rfl, hb1⟩; obtain ⟨hc1, hf1⟩ := bcell hb1)
            | (go_at_call 7; clear t2; refine (newer_good _ _ _ _ _ b2 b1).mono ?_; rintro e w2 ⟨rfl, hb2⟩; replace hb2 := hb1.on hb2; clear hb1 hc1 hf1; obtain ⟨hc2, hf2⟩ := bcell hb2)
            | (go_at_call 7; clear t3; refine (newer_good _ _ _ _ _ b2 b3).mono ?_; rintro e w3 ⟨rfl, hb3⟩; replace hb3 := hb2.on hb3; clear hb2 hc2 hf2; obtain ⟨hc3, hf3⟩ := bcell hb3)
            | (go_at_call 7; clear t4; refine (newer_good _ _ _ _ _ b1 b3).mono ?_; rintro e w4 ⟨rfl, hb4⟩; replace hb4 := hb3.on hb4; clear hb3 hc3 hf3; obtain ⟨hc4, hf4⟩ := bcell hb4)
            | (go_at_call 9; refine (num_any _ _).mono ?_; rintro e w' ⟨rfl, hw'⟩; subst w'))
          go_ret
          exact ⟨rfl, (((bb9.onA _).onA _).onA _).on hb4⟩
      · have g1 : gtB (1 + c) u (1 + c) v = false := by simp [gtB]; omega
        have g2 : gtB (1 + c) v (1 + c) u = true := by simp [gtB]; omega
        clear hl
        go_enter Try.func5, Try.ntmps5
        go_wp2_with (first
          | (go_at_call 12; refine (awake3_any _).mono ?_; rintro e w9 ⟨rfl, bb9⟩)
          | (go_at_call 7; clear t1; refine (newer_good _ _ _ _ _ b1 b2).mono ?_; rintro e w1 ⟨rfl, hb1⟩; obtain ⟨hc1, hf1⟩ := bcell hb1)
          | (go_at_call 7; clear t2; refine (newer_good _ _ _ _ _ b2 b1).mono ?_; rintro e w2 ⟨rfl, hb2⟩; replace hb2 := hb1.on hb2; clear hb1 hc1 hf1; obtain ⟨hc2, hf2⟩ := bcell hb2)
          | (go_at_call 7; clear t3; refine (newer_good _ _ _ _ _ b2 b3).mono ?_; rintro e w3 ⟨rfl, hb3⟩; replace hb3 := hb2.on hb3; clear hb2 hc2 hf2; obtain ⟨hc3, hf3⟩ := bcell hb3)
          | (go_at_call 7; clear t4; refine (newer_good _ _ _ _ _ b1 b3).mono ?_; rintro e w4 ⟨rfl, hb4⟩; replace hb4 := hb3.on hb4; clear hb3 hc3 hf3; obtain ⟨hc4, hf4⟩ := bcell hb4)
          | (go_at_call 9; refine (num_any _ _).mono ?_; rintro e w' ⟨rfl, hw'⟩; subst w'))
        go_ret
        exact ⟨rfl, (((bb9.onA _).onA _).onA _).on hb4⟩
  · have n1 : (c == d) = false := by simpa using hcd
    have n2 : (1 + c == 1 + d) = false := by simp; omega
    have n3 : ¬ (1 + c = 1 + d) := by omega
    by_cases hl : d < c
    · have g1 : gtB (1 + c) u (1 + d) v = true := by simp [gtB]; omega
      have g2 : gtB (1 + d) v (1 + c) u = false := by simp [gtB]; omega
      by_cases g3 : gtB (1 + d) v (1 + f) t = true
      · have g4 : gtB (1 + c) u (1 + f) t = true := by simp [gtB] at g3 ⊢; omega
        clear hl
        go_enter Try.func5, Try.ntmps5
        go_wp2_with (first
          | (go_at_call 12; refine (awake3_any _).mono ?_; rintro e w9 ⟨rfl, bb9⟩)
          | (go_at_call 7; clear t1; refine (newer_good _ _ _ _ _ b1 b2).mono ?_; rintro e w1 ⟨rfl, hb1⟩; obtain ⟨hc1, hf1⟩ := bcell hb1)
          | (go_at_call 7; clear t2; refine (newer_good _ _ _ _ _ b2 b1).mono ?_; rintro e w2 ⟨rfl, hb2⟩; replace hb2 := hb1.on hb2; clear hb1 hc1 hf1; obtain ⟨hc2, hf2⟩ := bcell hb2)
          | (go_at_call 7; clear t3; refine (newer_good _ _ _ _ _ b2 b3).mono ?_; rintro e w3 ⟨rfl, hb3⟩; replace hb3 := hb2.on hb3; clear hb2 hc2 hf2; obtain ⟨hc3, hf3⟩ := bcell hb3)
          | (go_at_call 7; clear t4; refine (newer_good _ _ _ _ _ b1 b3).mono ?_; rintro e w4 ⟨rfl, hb4⟩; replace hb4 := hb3.on hb4; clear hb3 hc3 hf3; obtain ⟨hc4, hf4⟩ := bcell hb4)
          | (go_at_call 9; refine (num_any _ _).mono ?_; rintro e w' ⟨rfl, hw'⟩; subst w'))
        go_ret
        exact ⟨rfl, (((bb9.onA _).onA _).onA _).on hb4⟩
      · have g3 : gtB (1 + d) v (1 + f) t = false := by simpa using g3
        clear hl
        go_enter Try.func5, Try.ntmps5
        go_wp2_with (first
          | (go_at_call 12; refine (awake3_any _).mono ?_; rintro e w9 ⟨rfl, bb9⟩)
          | (go_at_call 7; clear t1; refine (newer_good _ _ _ _ _ b1 b2).mono ?_; rintro e w1 ⟨rfl, hb1⟩; obtain ⟨hc1, hf1⟩ := bcell hb1)
          | (go_at_call 7; clear t2; refine (newer_good _ _ _ _ _ b2 b1).mono ?_; rintro e w2 ⟨rfl, hb2⟩; replace hb2 := hb1.on hb2; clear hb1 hc1 hf1; obtain ⟨hc2, hf2⟩ := bcell hb2)
          | (go_at_call 7; clear t3; refine (newer_good _ _ _ _ _ b2 b3).mono ?_; rintro e w3 ⟨rfl, hb3⟩; replace hb3 := hb2.on hb3; clear hb2 hc2 hf2; obtain ⟨hc3, hf3⟩ := bcell hb3)
          | (go_at_call 7; clear t4; refine (newer_good _ _ _ _ _ b1 b3).mono ?_; rintro e w4 ⟨rfl, hb4⟩; replace hb4 := hb3.on hb4; clear hb3 hc3 hf3; obtain ⟨hc4, hf4⟩ := bcell hb4)
          | (go_at_call 9; refine (num_any _ _).mono ?_; rintro e w' ⟨rfl, hw'⟩; subst w'))
        go_ret
        exact ⟨rfl, (((bb9.onA _).onA _).onA _).on hb4⟩
    · have g1 : gtB (1 + c) u (1 + d) v = false := by simp [gtB]; omega
      have g2 : gtB (1 + d) v (1 + c) u = true := by simp [gtB]; omega
      clear hl
      go_enter Try.func5, Try.ntmps5
      go_wp2_with (first
        | (go_at_call 12; refine (awake3_any _).mono ?_; rintro e w9 ⟨rfl, bb9⟩)
        | (go_at_call 7; clear t1; refine (newer_good _ _ _ _ _ b1 b2).mono ?_; rintro e w1 ⟨rfl, hb1⟩; obtain ⟨hc1, hf1⟩ := bcell hb1)
        | (go_at_call 7; clear t2; refine (newer_good _ _ _ _ _ b2 b1).mono ?_; rintro e w2 ⟨rfl, hb2⟩; replace hb2 := hb1.on hb2; clear hb1 hc1 hf1; obtain ⟨hc2, hf2⟩ := bcell hb2)
        | (go_at_call 7; clear t3; refine (newer_good _ _ _ _ _ b2 b3).mono ?_; rintro e w3 ⟨rfl, hb3⟩; replace hb3 := hb2.on hb3; clear hb2 hc2 hf2; obtain ⟨hc3, hf3⟩ := bcell hb3)
        | (go_at_call 7; clear t4; refine (newer_good _ _ _ _ _ b1 b3).mono ?_; rintro e w4 ⟨rfl, hb4⟩; replace hb4 := hb3.on hb4; clear hb3 hc3 hf3; obtain ⟨hc4, hf4⟩ := bcell hb4)
        | (go_at_call 9; refine (num_any _ _).mono ?_; rintro e w' ⟨rfl, hw'⟩; subst w'))
      go_ret
      exact ⟨rfl, (((bb9.onA _).onA _).onA _).on hb4⟩

/-! ### The row's step -/
set_option maxRecDepth 100000 in
theorem lifted (os : Os) (started : os.Started) (H : Type) (enc : TypeId × Value → H) :
    ReturnsInHanded {} Try.checked os 5 .any (Rows.versionRowSpec.pre6 enc Try.prog Try.f5 Rows.versionRowRow.domain false) (Rows.versionRowSpec.post enc Try.prog Try.f5 false true false false) := by
  refine returnsInHanded_of_change_sized (C := Try.checked) ownK started (by kernel_rfl) Try.func5
    (ChangeSpec.witness6 (enc := enc) (C := Try.checked) false ⟨#[], #[.int .i64 0, .int .i64 0, .int .i64 0], []⟩ 8 (by kernel_rfl) (by kernel_rfl) (by kernel_rfl) (by kernel_rfl)) ?_
  intro W base args ds gs before hval0 hW hcnd hsz0 _
  have hsz : (DataW.weightsEach Try.prog (Try.f5.params.toList ++ Rows.versionRowSpec.plain.varTypes Try.prog) (ds ++ gs)).all (· ≤ reachBytes) = true := hsz0
  have hval : ∀ (j : Nat) t v, Try.f5.params[j]? = some t → args[j]? = some v → Value.okWide Try.prog W .any base t v := hval0
  have hW' := hW
  obtain ⟨p, q, hA0, hV, rfl, hfz, hnd⟩ := hW
  have hA : DataW.TrodAll enc Try.prog W 0 (fun _ => true) true Try.f5.params.toList args.toList ds p := hA0
  rw [Try.params5] at hA hval hsz
  obtain ⟨v0, vs0, d0, ds0, p0, q0, hargs, rfl, rfl, h0, r0⟩ := trodAll_cons hA
  obtain ⟨v1, vs1, d1, ds1, p1, q1, rfl, rfl, rfl, h1, r1⟩ := trodAll_cons r0
  obtain ⟨v2, vs2, d2, ds2, p2, q2, rfl, rfl, rfl, h2, r2⟩ := trodAll_cons r1
  obtain ⟨rfl, rfl, rfl⟩ := trodAll_nil r2
  obtain rfl : args = #[v0, v1, v2] := by cases args; simp_all
  obtain ⟨rfl, rfl⟩ := trodVars_none hV
  clear r0 r1 r2
  have k0 := h0
  have lt0 : ∀ x ∈ p0, x.block < W.heap.size := by obtain ⟨m, hm⟩ := k0; exact DataW.trod_lt m _ _ _ hm
  have k1 := h1
  have lt1 : ∀ x ∈ p1, x.block < W.heap.size := by obtain ⟨m, hm⟩ := k1; exact DataW.trod_lt m _ _ _ hm
  have k2 := h2
  have lt2 : ∀ x ∈ p2, x.block < W.heap.size := by obtain ⟨m, hm⟩ := k2; exact DataW.trod_lt m _ _ _ hm
  obtain ⟨a0, rfl, rfl, rfl, w0⟩ := open_int Try.underlying3 (hval 0 3 v0 rfl rfl) h0
  obtain ⟨a1, rfl, rfl, rfl, w1⟩ := open_int Try.underlying3 (hval 1 3 v1 rfl rfl) h1
  obtain ⟨a2, rfl, rfl, rfl, w2⟩ := open_int Try.underlying3 (hval 2 3 v2 rfl rfl) h2
  clear hA0 hval0
  refine (walk a0 a1 a2 W w0 w1 w2).mono fun e W' ⟨he, bel⟩ => ?_
  subst he
  exact ⟨_, rfl, _, _, _, [], _, [], hW', trodAll_mk1 (shut_bool Try.underlying4 _), (trodAll_cons_mk (Below.trod laidOut (by kernel_rfl) (of_decide_eq_true (by kernel_rfl)) k0 bel lt0) (trodAll_cons_mk (Below.trod laidOut (by kernel_rfl) (of_decide_eq_true (by kernel_rfl)) k1 bel lt1) (trodAll_cons_mk (Below.trod laidOut (by kernel_rfl) (of_decide_eq_true (by kernel_rfl)) k2 bel lt2) trodAll_mk0))), rfl, bel.frame _, fun h => by cases h⟩

theorem over : Rows.versionRowRow.holds Try.pinned (OpenSpec.ofChange Rows.versionRowSpec) :=
  OpenClaim.holds_of_wide 5 Try.f5 rfl rfl rfl rfl rfl rfl rfl ⟨rfl, rfl, rfl, rfl, rfl⟩ rfl rfl rfl rfl rfl (by kernel_rfl) Try.func5 (by kernel_rfl)
    (of_decide_eq_true (by kernel_rfl)) (by unfold Func.isWrapper; first | (rw [if_pos (by decide +kernel)]; kernel_rfl) | (rw [if_neg (by decide +kernel)]; exact ⟨rfl, rfl⟩))
    (fun os started H enc _ => lifted os started H enc)

end Go.Proofs.Ytpdcofkohhfncaa.versionRow

namespace Go.Proofs.Ytpdcofkohhfncaa
/-- The statement, by its short name. -/
theorem versionRow_holds : Rows.VersionRowSaid := versionRow.over
#print axioms versionRow_holds
end Go.Proofs.Ytpdcofkohhfncaa
