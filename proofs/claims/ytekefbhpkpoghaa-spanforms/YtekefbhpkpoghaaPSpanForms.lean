
/-
  The statement SpanForms: numbers that are no places, a list that does not rise and an item that may not be are answered with the error of this layer.
-/
import Derived.Test.YtekefbhpkpoghaaRows
import Derived.Test.YtekefbhpkpoghaaOpen
import Derived.Test.YtekefbhpkpoghaaSpanLaw
import Derived.Test.YtekefbhpkpoghaaOpenT
namespace Go.Proofs.Ytekefbhpkpoghaa.spanForms
open Go.ChangeShapes Go.WideShapes Go.ChangeAt Go.RowKit
set_option linter.unusedVariables false

/-! ### The walk -/
set_option maxHeartbeats 4000000 in
theorem walk (a0 : Int) (a1 : Int) (w : World) (w0 : (Lit.int .i64 a0).wf = true) (w1 : (Lit.int .i64 a1).wf = true) :
    Calls Try.prog 5 #[.int .i64 a0, .int .i64 a1] w fun e w' => e = .returned (.bool true) ∧ Below w.heap.size w w' := by
  have ed : bits .and .i64 a1 1023 = a1 % 1024 := and1023 a1
  have ew : bits .and .i64 a0 1 = a0 % 2 := and1 a0
  obtain ⟨d, hd⟩ : ∃ x, x = a1 % 1024 := ⟨_, rfl⟩
  have d0 : 0 ≤ d := by omega
  have d1 : d < 1024 := by omega
  rw [← hd] at ed
  clear hd w0 w1
  rcases (by omega : a0 % 2 = 0 ∨ a0 % 2 = 1) with h | h
  · rw [h] at ew
    clear h
    have hbad : Hid (plB (-(1 + d)) = false) := by simp [Hid, plB]; omega
    have t1 := trivial
    have t2 := trivial
    have t3 := trivial
    have u1 := trivial
    have u2 := trivial
    have u3 := trivial
    go_enter Try.func5, Try.ntmps5
    go_wp2_with (first
      | (go_at_call 14; refine (awake6_any _).mono ?_; rintro e w9 ⟨rfl, h9⟩)
      | (go_at_call 15; clear t1; refine (it6_any _ _).mono ?_; rintro e wa ⟨rfl, ha⟩)
      | (go_at_call 15; clear t2; refine (it6_any _ _).mono ?_; rintro e wb ⟨rfl, hb⟩)
      | (go_at_call 8; clear u1
         have B0 := Box.new wb #[.int .i64 3, .int .i64 1, .int .i64 0, .int .i64 0, .bool false, .int .i64 9, .int .i64 1, .int .i64 0, .int .i64 0, .bool false] 37
         have R0 := Box.rowT (n := 2) [⟨3, 1, 0, 0, false⟩, ⟨9, 1, 0, 0, false⟩] B0 rfl rfl (by decide)
         have z0 : wb.heap.size + 1 ≤ _ := B0.1
         have hno := sp_no (xs := [⟨3, 1, 0, 0, false⟩, ⟨9, 1, 0, 0, false⟩]) (b := 5) (.inr (.inl hbad.out))
         refine (sOf_at R0 z0 _ _ hno.1 hno.2).mono ?_; rintro e w1 ⟨o1, rfl, r1, h1⟩
         have R1 := R0.below h1 z0
         have z1 := Nat.le_trans z0 h1.size
         clear hno r1)
      | (go_at_call 8; clear u2
         have hno := sp_no (xs := [⟨3, 1, 0, 0, false⟩, ⟨9, 1, 0, 0, false⟩]) (a := 5) (.inr (.inr hbad.out))
         refine (sOf_at R1 z1 _ _ hno.1 hno.2).mono ?_; rintro e w2 ⟨o2, rfl, r2, h2⟩
         clear hno r2)
      | (go_at_call 15; clear t3; refine (it6_any _ _).mono ?_; rintro e wc ⟨rfl, hc⟩)
      | (go_at_call 15; refine (it6_any _ _).mono ?_; rintro e wd ⟨rfl, hd⟩)
      | (go_at_call 8; clear u3
         have B3 := Box.new wd #[.int .i64 9, .int .i64 1, .int .i64 0, .int .i64 0, .bool false, .int .i64 3, .int .i64 1, .int .i64 0, .int .i64 0, .bool false] 37
         have R3 := Box.rowT (n := 2) [⟨9, 1, 0, 0, false⟩, ⟨3, 1, 0, 0, false⟩] B3 rfl rfl (by decide)
         have z3 : wd.heap.size + 1 ≤ _ := B3.1
         refine (sOf_at (ys := []) (err := 600) R3 z3 _ _ (by decide +kernel) (by decide +kernel)).mono ?_; rintro e w3 ⟨o3, rfl, r3, h3⟩)
      | (go_at_call 8
         have B4 := Box.new w3 #[.int .i64 3, .int .i64 0, .int .i64 0, .int .i64 0, .bool false] 37
         have R4 := Box.rowT (n := 1) [⟨3, 0, 0, 0, false⟩] B4 rfl rfl (by decide)
         have z4 : w3.heap.size + 1 ≤ _ := B4.1
         refine (sOf_at (ys := []) (err := 600) R4 z4 _ _ (by decide +kernel) (by decide +kernel)).mono ?_; rintro e w4 ⟨o4, rfl, r4, h4⟩)
      | (go_at_call 11; refine (num_any _ _).mono ?_; rintro e w' ⟨rfl, hw'⟩; subst w'))
    go_ret
    exact ⟨rfl, ((((((((((h9.onA _).on ha).on hb).onA _).on h1).on h2).on hc).on hd).onA _).on h3).onA _ |>.on h4⟩
  · rw [h] at ew
    clear h
    have hbad : Hid (plB (255 + (1 + d)) = false) := by simp [Hid, plB]; omega
    have t1 := trivial
    have t2 := trivial
    have t3 := trivial
    have u1 := trivial
    have u2 := trivial
    have u3 := trivial
    go_enter Try.func5, Try.ntmps5
    go_wp2_with (first
      | (go_at_call 14; refine (awake6_any _).mono ?_; rintro e w9 ⟨rfl, h9⟩)
      | (go_at_call 15; clear t1; refine (it6_any _ _).mono ?_; rintro e wa ⟨rfl, ha⟩)
      | (go_at_call 15; clear t2; refine (it6_any _ _).mono ?_; rintro e wb ⟨rfl, hb⟩)
      | (go_at_call 8; clear u1
         have B0 := Box.new wb #[.int .i64 3, .int .i64 1, .int .i64 0, .int .i64 0, .bool false, .int .i64 9, .int .i64 1, .int .i64 0, .int .i64 0, .bool false] 37
         have R0 := Box.rowT (n := 2) [⟨3, 1, 0, 0, false⟩, ⟨9, 1, 0, 0, false⟩] B0 rfl rfl (by decide)
         have z0 : wb.heap.size + 1 ≤ _ := B0.1
         have hno := sp_no (xs := [⟨3, 1, 0, 0, false⟩, ⟨9, 1, 0, 0, false⟩]) (b := 5) (.inr (.inl hbad.out))
         refine (sOf_at R0 z0 _ _ hno.1 hno.2).mono ?_; rintro e w1 ⟨o1, rfl, r1, h1⟩
         have R1 := R0.below h1 z0
         have z1 := Nat.le_trans z0 h1.size
         clear hno r1)
      | (go_at_call 8; clear u2
         have hno := sp_no (xs := [⟨3, 1, 0, 0, false⟩, ⟨9, 1, 0, 0, false⟩]) (a := 5) (.inr (.inr hbad.out))
         refine (sOf_at R1 z1 _ _ hno.1 hno.2).mono ?_; rintro e w2 ⟨o2, rfl, r2, h2⟩
         clear hno r2)
      | (go_at_call 15; clear t3; refine (it6_any _ _).mono ?_; rintro e wc ⟨rfl, hc⟩)
      | (go_at_call 15; refine (it6_any _ _).mono ?_; rintro e wd ⟨rfl, hd⟩)
      | (go_at_call 8; clear u3
         have B3 := Box.new wd #[.int .i64 9, .int .i64 1, .int .i64 0, .int .i64 0, .bool false, .int .i64 3, .int .i64 1, .int .i64 0, .int .i64 0, .bool false] 37
         have R3 := Box.rowT (n := 2) [⟨9, 1, 0, 0, false⟩, ⟨3, 1, 0, 0, false⟩] B3 rfl rfl (by decide)
         have z3 : wd.heap.size + 1 ≤ _ := B3.1
         refine (sOf_at (ys := []) (err := 600) R3 z3 _ _ (by decide +kernel) (by decide +kernel)).mono ?_; rintro e w3 ⟨o3, rfl, r3, h3⟩)
      | (go_at_call 8
         have B4 := Box.new w3 #[.int .i64 3, .int .i64 0, .int .i64 0, .int .i64 0, .bool false] 37
         have R4 := Box.rowT (n := 1) [⟨3, 0, 0, 0, false⟩] B4 rfl rfl (by decide)
         have z4 : w3.heap.size + 1 ≤ _ := B4.1
         refine (sOf_at (ys := []) (err := 600) R4 z4 _ _ (by decide +kernel) (by decide +kernel)).mono ?_; rintro e w4 ⟨o4, rfl, r4, h4⟩)
      | (go_at_call 11; refine (num_any _ _).mono ?_; rintro e w' ⟨rfl, hw'⟩; subst w'))
    go_ret
    exact ⟨rfl, ((((((((((h9.onA _).on ha).on hb).onA _).on h1).on h2).on hc).on hd).onA _).on h3).onA _ |>.on h4⟩

/-! ### The row's step -/
set_option maxRecDepth 100000 in
theorem lifted (os : Os) (started : os.Started) (H : Type) (enc : TypeId × Value → H) :
    ReturnsInHanded {} Try.checked os 5 .any (Rows.spanFormsSpec.pre6 enc Try.prog Try.f5 Rows.spanFormsRow.domain false) (Rows.spanFormsSpec.post enc Try.prog Try.f5 false true false false) := by
  refine returnsInHanded_of_change_sized (C := Try.checked) ownK started (by kernel_rfl) Try.func5
    (ChangeSpec.witness6 (enc := enc) (C := Try.checked) false ⟨#[], #[.int .i64 0, .int .i64 0], []⟩ 8 (by kernel_rfl) (by kernel_rfl) (by kernel_rfl) (by kernel_rfl)) ?_
  intro W base args ds gs before hval0 hW hcnd hsz0 _
  have hsz : (DataW.weightsEach Try.prog (Try.f5.params.toList ++ Rows.spanFormsSpec.plain.varTypes Try.prog) (ds ++ gs)).all (· ≤ reachBytes) = true := hsz0
  have hval : ∀ (j : Nat) t v, Try.f5.params[j]? = some t → args[j]? = some v → Value.okWide Try.prog W .any base t v := hval0
  have hW' := hW
  obtain ⟨p, q, hA0, hV, rfl, hfz, hnd⟩ := hW
  have hA : DataW.TrodAll enc Try.prog W 0 (fun _ => true) true Try.f5.params.toList args.toList ds p := hA0
  rw [Try.params5] at hA hval hsz
  obtain ⟨v0, vs0, d0, ds0, p0, q0, hargs, rfl, rfl, h0, r0⟩ := trodAll_cons hA
  obtain ⟨v1, vs1, d1, ds1, p1, q1, rfl, rfl, rfl, h1, r1⟩ := trodAll_cons r0
  obtain ⟨rfl, rfl, rfl⟩ := trodAll_nil r1
  obtain rfl : args = #[v0, v1] := by cases args; simp_all
  obtain ⟨rfl, rfl⟩ := trodVars_none hV
  clear r0 r1
  have k0 := h0
  have lt0 : ∀ x ∈ p0, x.block < W.heap.size := by obtain ⟨m, hm⟩ := k0; exact DataW.trod_lt m _ _ _ hm
  have k1 := h1
  have lt1 : ∀ x ∈ p1, x.block < W.heap.size := by obtain ⟨m, hm⟩ := k1; exact DataW.trod_lt m _ _ _ hm
  obtain ⟨a0, rfl, rfl, rfl, w0⟩ := open_int Try.underlying3 (hval 0 3 v0 rfl rfl) h0
  obtain ⟨a1, rfl, rfl, rfl, w1⟩ := open_int Try.underlying3 (hval 1 3 v1 rfl rfl) h1
  clear hA0 hval0
  refine (walk a0 a1 W w0 w1).mono fun e W' ⟨he, bel⟩ => ?_
  subst he
  exact ⟨_, rfl, _, _, _, [], _, [], hW', trodAll_mk1 (shut_bool Try.underlying4 _), (trodAll_cons_mk (Below.trod laidOut (by kernel_rfl) (of_decide_eq_true (by kernel_rfl)) k0 bel lt0) (trodAll_cons_mk (Below.trod laidOut (by kernel_rfl) (of_decide_eq_true (by kernel_rfl)) k1 bel lt1) trodAll_mk0)), rfl, bel.frame _, fun h => by cases h⟩

theorem over : Rows.spanFormsRow.holds Try.pinned (OpenSpec.ofChange Rows.spanFormsSpec) :=
  OpenClaim.holds_of_wide 5 Try.f5 rfl rfl rfl rfl rfl rfl rfl ⟨rfl, rfl, rfl, rfl, rfl⟩ rfl rfl rfl rfl rfl (by kernel_rfl) Try.func5 (by kernel_rfl)
    (of_decide_eq_true (by kernel_rfl)) (by unfold Func.isWrapper; first | (rw [if_pos (by decide +kernel)]; kernel_rfl) | (rw [if_neg (by decide +kernel)]; exact ⟨rfl, rfl⟩))
    (fun os started H enc _ => lifted os started H enc)

end Go.Proofs.Ytekefbhpkpoghaa.spanForms

namespace Go.Proofs.Ytekefbhpkpoghaa
/-- The statement, by its short name. -/
theorem spanForms_holds : Rows.SpanFormsSaid := spanForms.over
#print axioms spanForms_holds
end Go.Proofs.Ytekefbhpkpoghaa
