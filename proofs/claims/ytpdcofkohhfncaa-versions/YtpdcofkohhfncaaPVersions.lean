/-
  Versions: at every two versions, Newer and May answer as the document's own functions do; no condition.
-/
import Derived.Test.YtpdcofkohhfncaaRows
import Derived.Test.YtpdcofkohhfncaaOpen
import Derived.Test.YtpdcofkohhfncaaVer
import Derived.Deep.RegionHeld3
namespace Go.Proofs.Ytpdcofkohhfncaa.versions
open Go.ChangeShapes Go.WideShapes Go.ChangeAt Go.RowKit
set_option linter.unusedVariables false

/-! ### The walk -/
set_option maxHeartbeats 4000000 in
theorem walk (v0 : Value) (x0 : Int × Int) (v1 : Value) (x1 : Int × Int) (w : World) (r0 : v0 = .agg #[.int .i64 x0.1, .int .i64 x0.2]) (w0 : (Lit.int .i64 x0.1).wf = true) (y0 : (Lit.int .i64 x0.2).wf = true) (r1 : v1 = .agg #[.int .i64 x1.1, .int .i64 x1.2]) (w1 : (Lit.int .i64 x1.1).wf = true) (y1 : (Lit.int .i64 x1.2).wf = true) :
    Calls Try.prog 3 #[v0, v1] w fun e w' => e = .returned (.bool true) ∧ Below w.heap.size w w' := by
  obtain ⟨c, u⟩ := x0
  obtain ⟨d, v⟩ := x1
  subst r0 r1
  clear w0 w1 y0 y1
  go_enter Try.func3, Try.ntmps3
  go_wp2_with (first
    | (go_at_call 7; refine (newer_any _ _ _ _ _).mono ?_; rintro e w1 ⟨rfl, hb1⟩; obtain ⟨hc1, hf1⟩ := bcell hb1)
    | (go_at_call 8; refine (rNewer_any _ _ _ _ _).mono ?_; rintro e w2 ⟨rfl, hb2⟩; replace hb2 := hb1.on hb2; clear hb1 hc1 hf1; obtain ⟨hc2, hf2⟩ := bcell hb2))
  have hb0 : Below w.heap.size w w2 := (((Below.refl _ w).onA _).onA _).on hb2
  have hz : w.heap.size < w2.heap.size := by have := hb2.size; simp at this; omega
  have k0 : w2.cell? ⟨w.heap.size, 0, none⟩ = some (.int .i64 c) := by rw [hc2 _ _ (by simp; omega)]; simp
  have k1 : w2.cell? ⟨w.heap.size, 1, none⟩ = some (.int .i64 u) := by rw [hc2 _ _ (by simp; omega)]; simp
  clear hc2 hf2 hb2
  go_region_held3 (fun w' => w'.cell? ⟨w.heap.size, 0, none⟩ = some (.int .i64 c) ∧ w'.cell? ⟨w.heap.size, 1, none⟩ = some (.int .i64 u)) (go_keep) (first
    | (go_at_call 9; refine (num_any _ _).mono ?_; rintro e w' ⟨rfl, rfl⟩)
    | (go_at_call 10; refine (may_any _ _ _).mono ?_; rintro e w3 ⟨rfl, hb3⟩; have hz3 : w.heap.size < w3.heap.size := Nat.lt_of_lt_of_le (by simpa using hz) hb3.size; have q0 := ((bcell hb3).1 w.heap.size 0 (by simpa using hz)).trans (by simpa using k0); have q1 := ((bcell hb3).1 w.heap.size 1 (by simpa using hz)).trans (by simpa using k1))
    | (go_at_call 11; refine (rMay_any _ _ _).mono ?_; rintro e w4 ⟨rfl, hb4⟩; have r0 := ((bcell hb4).1 w.heap.size 0 (by simpa using hz3)).trans (by simpa using q0); have r1 := ((bcell hb4).1 w.heap.size 1 (by simpa using hz3)).trans (by simpa using q1); have hz4 : w.heap.size < w4.heap.size := Nat.lt_of_lt_of_le (by simpa using hz3) hb4.size)
    | (go_at_call 12; refine (awake3_any _).mono ?_; rintro e w5 ⟨rfl, hb5⟩; have o0 := ((bcell hb5).1 w.heap.size 0 (by simpa using hz4)).trans (by simpa using r0); have o1 := ((bcell hb5).1 w.heap.size 1 (by simpa using hz4)).trans (by simpa using r1)))
  all_goals go_wp2
  go_ret
  exact ⟨rfl, ((hb0.onD 1).on hb3).on (hb4.on hb5)⟩

/-! ### The row's step -/
set_option maxRecDepth 100000 in
theorem lifted (os : Os) (started : os.Started) (H : Type) (enc : TypeId × Value → H) :
    ReturnsInHanded {} Try.checked os 3 .any (Rows.versionsSpec.pre6 enc Try.prog Try.f3 Rows.versionsRow.domain false) (Rows.versionsSpec.post enc Try.prog Try.f3 false true false false) := by
  refine returnsInHanded_of_change_sized (C := Try.checked) ownK started (by kernel_rfl) Try.func3
    (ChangeSpec.witness6 (enc := enc) (C := Try.checked) false ⟨#[], #[.agg #[.int .i64 0, .int .i64 0], .agg #[.int .i64 0, .int .i64 0]], []⟩ 8 (by kernel_rfl) (by kernel_rfl) (by kernel_rfl) (by kernel_rfl)) ?_
  intro W base args ds gs before hval0 hW hcnd hsz0 _
  have hsz : (DataW.weightsEach Try.prog (Try.f3.params.toList ++ Rows.versionsSpec.plain.varTypes Try.prog) (ds ++ gs)).all (· ≤ reachBytes) = true := hsz0
  have hval : ∀ (j : Nat) t v, Try.f3.params[j]? = some t → args[j]? = some v → Value.okWide Try.prog W .any base t v := hval0
  have hW' := hW
  obtain ⟨p, q, hA0, hV, rfl, hfz, hnd⟩ := hW
  have hA : DataW.TrodAll enc Try.prog W 0 (fun _ => true) true Try.f3.params.toList args.toList ds p := hA0
  rw [Try.params3] at hA hval hsz
  obtain ⟨v0, vs0, d0, ds0, p0, q0, hargs, rfl, rfl, h0, r0⟩ := trodAll_cons hA
  obtain ⟨v1, vs1, d1, ds1, p1, q1, rfl, rfl, rfl, h1, r1⟩ := trodAll_cons r0
  obtain ⟨rfl, rfl, rfl⟩ := trodAll_nil r1
  obtain rfl : args = #[v0, v1] := by cases args; simp_all
  obtain ⟨rfl, rfl⟩ := trodVars_none hV
  clear r0 r1
  have k0 := h0
  have lt0 : ∀ x ∈ p0, x.block < W.heap.size := by obtain ⟨m, hm⟩ := k0; exact DataW.trod_lt m _ _ _ hm
  have z0 : ∀ n ∈ d0.weights Try.prog 23, n ≤ reachBytes := fun n hn => by simpa using List.all_eq_true.1 hsz _ (DataW.weights_mem_each (j := 0) rfl rfl n hn)
  have f0 : W.noneFrozen p0 := fun b off hm => hfz b off (by simp [hm])
  have k1 := h1
  have lt1 : ∀ x ∈ p1, x.block < W.heap.size := by obtain ⟨m, hm⟩ := k1; exact DataW.trod_lt m _ _ _ hm
  have z1 : ∀ n ∈ d1.weights Try.prog 23, n ≤ reachBytes := fun n hn => by simpa using List.all_eq_true.1 hsz _ (DataW.weights_mem_each (j := 1) rfl rfl n hn)
  have f1 : W.noneFrozen p1 := fun b off hm => hfz b off (by simp [hm])
  obtain ⟨x0, r0, w0, y0⟩ := open_ver (hval 0 23 v0 rfl rfl) h0 f0 z0
  obtain ⟨x1, r1, w1, y1⟩ := open_ver (hval 1 23 v1 rfl rfl) h1 f1 z1
  clear hA0 hval0
  refine (walk v0 x0 v1 x1 W r0 w0 y0 r1 w1 y1).mono fun e W' ⟨he, bel⟩ => ?_
  subst he
  exact ⟨_, rfl, _, _, _, [], _, [], hW', trodAll_mk1 (shut_bool Try.underlying4 _), (trodAll_cons_mk (Below.trod laidOut (by kernel_rfl) (of_decide_eq_true (by kernel_rfl)) k0 bel lt0) (trodAll_cons_mk (Below.trod laidOut (by kernel_rfl) (of_decide_eq_true (by kernel_rfl)) k1 bel lt1) trodAll_mk0)), rfl, bel.frame _, fun h => by cases h⟩

theorem over : Rows.versionsRow.holds Try.pinned (OpenSpec.ofChange Rows.versionsSpec) :=
  OpenClaim.holds_of_wide 3 Try.f3 rfl rfl rfl rfl rfl rfl rfl ⟨rfl, rfl, rfl, rfl, rfl⟩ rfl rfl rfl rfl rfl (by kernel_rfl) Try.func3 (by kernel_rfl)
    (of_decide_eq_true (by kernel_rfl)) (by unfold Func.isWrapper; first | (rw [if_pos (by decide +kernel)]; kernel_rfl) | (rw [if_neg (by decide +kernel)]; exact ⟨rfl, rfl⟩))
    (fun os started H enc _ => lifted os started H enc)

end Go.Proofs.Ytpdcofkohhfncaa.versions

namespace Go.Proofs.Ytpdcofkohhfncaa
/-- The statement, by its short name. -/
theorem versions_holds : Rows.VersionsSaid := versions.over
#print axioms versions_holds
end Go.Proofs.Ytpdcofkohhfncaa
