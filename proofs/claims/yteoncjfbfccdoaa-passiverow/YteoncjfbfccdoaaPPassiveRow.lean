
/-
  The statement PassiveRow: places that are put or taken in any row: what stands is who was put last, each once and rising.
-/
import Derived.Test.YteoncjfbfccdoaaRows
import Derived.Test.YteoncjfbfccdoaaOpen
import Derived.Test.YteoncjfbfccdoaaPassLaw
import Derived.Test.YteoncjfbfccdoaaPassRow
namespace Go.Proofs.Yteoncjfbfccdoaa.passiveRow
open Go.ChangeShapes Go.WideShapes Go.ChangeAt Go.RowKit
set_option linter.unusedVariables false

/-! ### The walk -/
set_option maxRecDepth 20000 in
set_option maxHeartbeats 8000000 in
theorem walk (v0 : Value) (x0 : List Int) (w : World) (r0 : RowI 0 w.heap.size w v0 x0) (s0 : x0.length * 8 ≤ 140737488351232) (w0 : ∀ x ∈ x0, (Lit.int .i64 x).wf = true) :
    Calls Try.prog 5 #[v0] w fun e w' => e = .returned (.bool true) ∧ Below w.heap.size w w' := by
  obtain ⟨p1, c1, e0, n0, hpx⟩ := r0.ints (Nat.le_refl _)
  subst e0
  obtain ⟨N, hN⟩ : ∃ N, N = min x0.length 40 := ⟨_, rfl⟩
  clear w0 s0 r0
  go_enter Try.func5, Try.ntmps5
  go_wp2_with (first
    | (go_at_call 18; refine (awake8_any _).mono ?_; rintro e w1 ⟨rfl, h1⟩))
  obtain ⟨B, hB⟩ : ∃ B, Hid (B = w1.heap.size) := ⟨_, toHid rfl⟩
  have hBw : Hid (w.heap.size ≤ B) := toHid (by rw [hB.out]; exact h1.size)
  rw [← hB.out]
  go_loopw [3, 5] (fun o i wr => ∃ (k : Nat) (f : Nat → Bool), k ≤ N ∧ i = .int .i64 k ∧ RowI (B + 1) wr.heap.size wr o (rowW f 16) ∧ Box wr B (marks f) ∧ Below w.heap.size w wr) (fun _ i _ => N - (intOf i).toNat)
  case atStart =>
    refine ⟨0, fun _ => false, Nat.zero_le _, rfl, by rw [rowW_none]; exact RowI.nil0, ?_, h1.onA _⟩
    rw [hB.out]
    exact Box.newAt _ _ rfl
  case round =>
    obtain ⟨k, f, hk, rfl, P, bM, hbr⟩ := hrel
    by_cases hlt : k < N
    · have hk1 : k < x0.length := by omega
      have hk2 : (k : Int) < (x0.length : Int) := by omega
      have hk3 : (k : Int) < 40 := by omega
      have hk4 : decide ((k : Int) < 40) = true := decide_eq_true hk3
      obtain ⟨bb, off, rfl, _, hbb, hc⟩ := hpx (by omega)
      have d1 := (hbr.cell (p := ⟨bb, off + k, none⟩) hbb).trans (hc k hk1)
      generalize x0.getD k 0 = y at d1
      clear hc hpx
      have e15 := and15 y
      have e3 := and3 (y / 16)
      obtain ⟨c, hcy⟩ : ∃ c : Nat, (c : Int) = y % 16 := ⟨(y % 16).toNat, by omega⟩
      have hc16 : c < 16 := by omega
      have hc17 : (c : Int) < 16 := by omega
      obtain ⟨m, hm⟩ : ∃ m : Int, m = y / 16 % 4 := ⟨_, rfl⟩
      rw [← hcy] at e15
      rw [← hm] at e3
      have hm0 : 0 ≤ m := by omega
      have hm4 : m < 4 := by omega
      clear hcy hm
      have f1 : wr.frozen? ⟨B, c, none⟩ = false := bM.2.2 c
      by_cases hmp : 0 < m
      · have s12 := toHid (rowW_put (f := f) hc16)
        replace P := toHid P
        replace bM := toHid bM
        go_wp2_with (first
          | (go_at_call 8; refine (qWith_at P.out (Nat.le_refl _) _ s12.out.1 s12.out.2).mono ?_; rintro e w3 ⟨o3, rfl, P3, h3⟩
             have b3 := bM.out.below h3
             have g1 := (b3.2.1 c).trans (marks_at f c hc16)
             have g2 := b3.2.2 c
             have z3 : B + 1 ≤ wr.heap.size := bM.out.1
             replace b3 := toHid b3
             replace P3 := toHid P3)
          | (go_at_call 13; refine (num_any _ _).mono ?_; rintro e w' ⟨rfl, hw'⟩; subst w'))
        go_roundw
        case rel =>
          refine ⟨k + 1, setF f c true, by omega, by go_num, ?_, b3.out.setS c _ (by rw [marks_size]; exact hc16) (marks_set f c true), (hbr.on h3).setCell hBw.out _⟩
          rw [World.size_setCell]
          exact (P3.out.only ((Only.refl B (B + 1) w3).setCell (Nat.le_refl _) (Nat.lt_succ_self _) _) (.inr z3)).wide z3 (Nat.le_refl _)
        case measure => simp [intOf]; omega
      · have s12 := toHid (rowW_take (f := f) hc16)
        replace P := toHid P
        replace bM := toHid bM
        go_wp2_with (first
          | (go_at_call 10; refine (qWithout_at P.out _ s12.out.1 s12.out.2).mono ?_; rintro e w3 ⟨o3, rfl, P3, h3⟩
             have b3 := bM.out.below h3
             have g1 := (b3.2.1 c).trans (marks_at f c hc16)
             have g2 := b3.2.2 c
             have z3 : B + 1 ≤ wr.heap.size := bM.out.1
             replace b3 := toHid b3
             replace P3 := toHid P3)
          | (go_at_call 13; refine (num_any _ _).mono ?_; rintro e w' ⟨rfl, hw'⟩; subst w'))
        go_roundw
        case rel =>
          refine ⟨k + 1, setF f c false, by omega, by go_num, ?_, b3.out.setS c _ (by rw [marks_size]; exact hc16) (marks_set f c false), (hbr.on h3).setCell hBw.out _⟩
          rw [World.size_setCell]
          exact (P3.out.only ((Only.refl B (B + 1) w3).setCell (Nat.le_refl _) (Nat.lt_succ_self _) _) (.inr z3)).wide z3 (Nat.le_refl _)
        case measure => simp [intOf]; omega
    · obtain rfl : k = N := by omega
      have hexit : (¬ (k : Int) < (x0.length : Int)) ∨ ((k : Int) < (x0.length : Int) ∧ ¬ (k : Int) < 40) := by omega
      obtain ⟨wL, rfl⟩ : ∃ x, x = wr := ⟨wr, rfl⟩
      clear hN hk hlt h1 hpx
      replace P := toHid P
      replace bM := toHid bM
      rcases hexit with hx1 | ⟨hx1, hx2⟩
      all_goals
        first | (have hx3 : decide ((k : Int) < 40) = false := decide_eq_false hx2) | skip
        go_wp2
        clear hx1
        first | clear hx2 hx3 | skip
        go_loopw [11, 12] (fun o i wr => ∃ j : Nat, j ≤ 16 ∧ i = .int .i64 j ∧ wr.ownsRow wL.heap.size 3 1 o (rowW f j).length ((rowW f j).map (Value.int .i64)) ∧ Below wL.heap.size wL wr) (fun _ i _ => 16 - (intOf i).toNat)
        case atStart => exact ⟨0, Nat.zero_le _, rfl, ⟨rfl, .inl ⟨rfl, rfl⟩⟩, Below.refl _ _⟩
        case round =>
          obtain ⟨j, hj, rfl, own, hbs⟩ := hrel
          by_cases hlj : j < 16
          · have hlj' : (j : Int) < 16 := by omega
            have hnx := rowW_next f j
            have hol := rowW_le f j
            have g1 := ((bM.out.below hbs).2.1 j).trans (marks_at f j hlj)
            have OA := toHid own
            clear own
            rcases Bool.eq_false_or_eq_true (f j) with hf | hf
            · rw [hf] at g1
              rw [if_pos hf] at hnx
              replace hnx := toHid hnx
              clear hf
              generalize rowW f j = out at *
              go_wp2_with (at_builtin; refine app_ints rfl (.tmp 70) (.tmp 73) rfl wL.heap.size _ out.length out rfl (OA.out.alloc _) ⟨wr.heap.size, 0, none⟩ 1 1 [10 * (j : Int)] rfl rfl (fun j hj => ?_) (by omega) (by have := hbs.size; simp; omega) ?_; · (match j, hj with | 0, _ => simp [Addr.add]))
              intro v' w4 hown4 hgr4 hbel4
              have R1 : Hid (w4.ownsRow wL.heap.size 3 1 v' (out ++ [10 * (j : Int)]).length ((out ++ [10 * (j : Int)]).map (Value.int .i64))) := toHid (by simpa using hown4)
              clear hown4 hgr4
              go_wp2
              go_roundw
              case rel => exact ⟨j + 1, by omega, by go_num, by rw [hnx.out]; exact R1.out, (hbs.onA _).trans hbel4⟩
              case measure => simp [intOf]; omega
            · rw [hf] at g1
              rw [hf, if_neg (by decide), List.append_nil] at hnx
              replace hnx := toHid hnx
              clear hf
              go_wp2
              go_roundw
              case rel => exact ⟨j + 1, by omega, by go_num, by rw [hnx.out]; exact OA.out, hbs⟩
              case measure => simp [intOf]; omega
          · obtain rfl : j = 16 := by omega
            have RR := toHid (RowI.of_owns own)
            have PL := toHid (P.out.below hbs (Nat.le_refl _))
            have hpa := toHid (rowW_pa f)
            have y1 := hbs.size
            clear own
            go_wp2_with (first
              | (go_at_call 12; refine (sameI_at PL.out RR.out (b := true) (by simp)).mono ?_; rintro e w6 ⟨rfl, h6⟩)
              | (go_at_call 14; refine (qMay_is (PL.out.below h6 y1) hpa.out).mono ?_; rintro e w7 ⟨rfl, h7⟩))
            go_ret
            exact ⟨rfl, ((hbr.on hbs).on h6).on h7⟩

/-! ### The row's step -/
set_option maxRecDepth 100000 in
theorem lifted (os : Os) (started : os.Started) (H : Type) (enc : TypeId × Value → H) :
    ReturnsInHanded {} Try.checked os 5 .any (Rows.passiveRowSpec.pre6 enc Try.prog Try.f5 Rows.passiveRowRow.domain false) (Rows.passiveRowSpec.post enc Try.prog Try.f5 false true false false) := by
  refine returnsInHanded_of_change_sized (C := Try.checked) ownK started (by kernel_rfl) Try.func5
    (ChangeSpec.witness6 (enc := enc) (C := Try.checked) false ⟨#[], #[.slice none 0 0], []⟩ 8 (by kernel_rfl) (by kernel_rfl) (by kernel_rfl) (by kernel_rfl)) ?_
  intro W base args ds gs before hval0 hW hcnd hsz0 _
  have hsz : (DataW.weightsEach Try.prog (Try.f5.params.toList ++ Rows.passiveRowSpec.plain.varTypes Try.prog) (ds ++ gs)).all (· ≤ reachBytes) = true := hsz0
  have hval : ∀ (j : Nat) t v, Try.f5.params[j]? = some t → args[j]? = some v → Value.okWide Try.prog W .any base t v := hval0
  have hW' := hW
  obtain ⟨p, q, hA0, hV, rfl, hfz, hnd⟩ := hW
  have hA : DataW.TrodAll enc Try.prog W 0 (fun _ => true) true Try.f5.params.toList args.toList ds p := hA0
  rw [Try.params5] at hA hval hsz
  obtain ⟨v0, vs0, d0, ds0, p0, q0, hargs, rfl, rfl, h0, r0⟩ := trodAll_cons hA
  obtain ⟨rfl, rfl, rfl⟩ := trodAll_nil r0
  obtain rfl : args = #[v0] := by cases args; simp_all
  obtain ⟨rfl, rfl⟩ := trodVars_none hV
  clear r0
  have k0 := h0
  have lt0 : ∀ x ∈ p0, x.block < W.heap.size := by obtain ⟨m, hm⟩ := k0; exact DataW.trod_lt m _ _ _ hm
  have z0 : ∀ n ∈ d0.weights Try.prog 22, n ≤ reachBytes := fun n hn => by simpa using List.all_eq_true.1 hsz _ (DataW.weights_mem_each (j := 0) rfl rfl n hn)
  have f0 : W.noneFrozen p0 := fun b off hm => hfz b off (by simp [hm])
  obtain ⟨x0, r0, s0, w0⟩ := open_rowI (hval 0 22 v0 rfl rfl) h0 f0 z0
  clear hA0 hval0
  refine (walk v0 x0 W r0 s0 w0).mono fun e W' ⟨he, bel⟩ => ?_
  subst he
  exact ⟨_, rfl, _, _, _, [], _, [], hW', trodAll_mk1 (shut_bool Try.underlying4 _), (trodAll_cons_mk (Below.trod laidOut (by kernel_rfl) (of_decide_eq_true (by kernel_rfl)) k0 bel lt0) trodAll_mk0), rfl, bel.frame _, fun h => by cases h⟩

theorem over : Rows.passiveRowRow.holds Try.pinned (OpenSpec.ofChange Rows.passiveRowSpec) :=
  OpenClaim.holds_of_wide 5 Try.f5 rfl rfl rfl rfl rfl rfl rfl ⟨rfl, rfl, rfl, rfl, rfl⟩ rfl rfl rfl rfl rfl (by kernel_rfl) Try.func5 (by kernel_rfl)
    (of_decide_eq_true (by kernel_rfl)) (by unfold Func.isWrapper; first | (rw [if_pos (by decide +kernel)]; kernel_rfl) | (rw [if_neg (by decide +kernel)]; exact ⟨rfl, rfl⟩))
    (fun os started H enc _ => lifted os started H enc)

end Go.Proofs.Yteoncjfbfccdoaa.passiveRow

namespace Go.Proofs.Yteoncjfbfccdoaa
/-- The statement, by its short name. -/
theorem passiveRow_holds : Rows.PassiveRowSaid := passiveRow.over
#print axioms passiveRow_holds
end Go.Proofs.Yteoncjfbfccdoaa
