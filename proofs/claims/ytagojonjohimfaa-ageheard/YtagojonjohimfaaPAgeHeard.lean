
/-
  The statement AgeHeard: of a view of two, whose first peer is heard between the ticks, that peer is never lost, both are greeted at each tick, and both stay known.
-/
import Derived.Test.YtagojonjohimfaaRows
import Derived.Test.YtagojonjohimfaaOpen
import Derived.Test.YtagojonjohimfaaAgeLaw
import Derived.Test.YtagojonjohimfaaAgeHear
import Derived.Test.YtagojonjohimfaaNum
namespace Go.Proofs.Ytagojonjohimfaa.ageHeard
open Go.ChangeShapes Go.WideShapes Go.ChangeAt Go.RowKit
set_option linter.unusedVariables false

/-! ### The walk -/
theorem w64i {n : Int} (h0 : -2000 ≤ n) (h1 : n ≤ 2000) : IntKind.i64.wrap n = n := by
  rw [IntKind.wrap_i64]
  omega
set_option maxHeartbeats 4000000 in
theorem walk (a0 : Int) (a1 : Int) (w : World) (w0 : (Lit.int .i64 a0).wf = true) (w1 : (Lit.int .i64 a1).wf = true) :
    Calls Try.prog 6 #[.int .i64 a0, .int .i64 a1] w fun e w' => e = .returned (.bool true) ∧ Below w.heap.size w w' := by
  obtain ⟨r3, h3⟩ : ∃ r : Nat, r = (a0 % 18446744073709551616).toNat % 3 := ⟨_, rfl⟩
  have e3 : (IntKind.u64.wrap a0).tmod 3 = (r3 : Int) := rem_u64 a0 3 r3 h3
  have hr3 : r3 < 3 := by omega
  have y7 := w64i (n := (r3 : Int)) (by omega) (by omega)
  have e15 := and15 a1
  obtain ⟨T, hT⟩ : ∃ T : Nat, (T : Int) = a1 % 16 := ⟨(a1 % 16).toNat, by omega⟩
  rw [← hT] at e15
  have hT16 : T < 16 := by omega
  clear h3 hT w0 w1
  go_enter Try.func6, Try.ntmps6
  go_wp2_with (first
    | (go_at_call 15; refine (awake11_any _).mono ?_; rintro e w1 ⟨rfl, h1⟩))
  have X0 : Hid (VwBut w.heap.size (w1.heap.size + 1) ((w1.alloc (.cells #[.int .i64 50, .int .i64 0, .int .i64 3, .int .i64 r3] 42)).alloc (.cells #[.int .i64 9, .slice (some ⟨w1.heap.size, 0, none⟩) 2 2, .slice none 0 0] 25)) (.slice (some ⟨w1.heap.size, 0, none⟩) 2 2) (.slice none 0 0) (hdX 0 r3).1 (hdX 0 r3).2) := toHid (by
    have G := (Box.new w1 #[.int .i64 50, .int .i64 0, .int .i64 3, .int .i64 r3] 42).alloc (.cells #[.int .i64 9, .slice (some ⟨w1.heap.size, 0, none⟩) 2 2, .slice none 0 0] 25)
    unfold hdX
    rw [if_pos hr3]
    exact ⟨w1.heap.size, w1.heap.size + 1, w.heap.size, 0, Box.rowP [⟨50, 0⟩, ⟨3, (r3 : Int)⟩] G rfl rfl (by decide), RowI.nil0, h1.size, by simp, Nat.le_refl _, Nat.zero_le _, .inr (Nat.zero_le _), .inl (Nat.le_refl _), .inl (Nat.zero_le _)⟩)
  have BX0 := toHid (Box.new1 w1 (.cells #[.int .i64 50, .int .i64 0, .int .i64 3, .int .i64 r3] 42) #[.int .i64 9, .slice (some ⟨w1.heap.size, 0, none⟩) 2 2, .slice none 0 0] 25)
  have hb0 := toHid ((h1.onA (.cells #[.int .i64 50, .int .i64 0, .int .i64 3, .int .i64 r3] 42)).onA (.cells #[.int .i64 9, .slice (some ⟨w1.heap.size, 0, none⟩) 2 2, .slice none 0 0] 25))
  have z1 : w.heap.size ≤ w1.heap.size + 1 := Nat.le_succ_of_le h1.size
  clear h1 e3 y7
  have hr4 : r3 < 4 := by omega
  go_loopw [6] (fun j wr => ∃ (k m : Nat) (x : Int) (p q : Value), k ≤ T + 1 ∧ j = .int .i64 k ∧ m < 4 ∧ Hid (VwBut w.heap.size (w1.heap.size + 1) wr p q (hdX x m).1 (hdX x m).2) ∧ Hid (Box wr (w1.heap.size + 1) #[.int .i64 9, p, q]) ∧ Hid (Below w.heap.size w wr)) (fun j _ => T + 1 - (intOf j).toNat)
  case atStart => exact ⟨0, r3, 0, _, _, by omega, rfl, hr4, X0, BX0, hb0⟩
  case round =>
    clear X0 BX0 hb0 hr3 hr4
    generalize w1.heap.size + 1 = bo at *
    obtain ⟨k, m, x, p, q, hk, rfl, hm, X, BX, hbel⟩ := hrel
    by_cases hlt : k < T + 1
    · obtain ⟨ys, is, zs, js, f0, f1, f2, f3, f4⟩ := hdX_step hm x
      have hm' := (hdX_tick m hm).2.2.2
      rw [f0] at X
      dsimp only at X
      obtain ⟨pb, off, c, rfl, k1, k2, k3, c0, c1, fr, kS⟩ := X.out.hear
      have XS := toHid (kS 0)
      dsimp only at XS c0 c1
      have KT := toHid (aTick_at (j := 9) (n1 := zs.length + 1) (n2 := js.length) (n3 := 2) XS.out.at (Nat.le_refl _) (tk_yes (i := 9) (s := (⟨50, 0⟩ :: ys, is)) f1).1 ((tk_yes (i := 9) (s := (⟨50, 0⟩ :: ys, is)) f1).2.1.trans f3) ((tk_yes (i := 9) (s := (⟨50, 0⟩ :: ys, is)) f1).2.2.1.trans f2) (tk_yes (i := 9) (s := (⟨50, 0⟩ :: ys, is)) f1).2.2.2 rfl rfl rfl)
      obtain ⟨-, -, -, aq, nq, cq, -, eq⟩ := XS.out.at.slices
      subst eq
      obtain ⟨b1, b2, b3⟩ := id BX.out
      have hlt' : (k : Int) < 1 + (T : Int) := by omega
      have BX1 := toHid (BX.out.setO pb (off + 1) (.int .i64 0) k3)
      have hb1 := toHid (hbel.out.setCell (p := ⟨pb, off + 1, none⟩) k1 (.int .i64 0))
      have hbw : bo < (wr.setCell ⟨pb, off + 1, none⟩ (.int .i64 0)).heap.size := BX1.out.1
      replace f4 := toHid f4
      replace hbw := toHid hbw
      clear f0 f1 f2 f3 kS X BX hbel XS
      go_wp2_with (first
        | (go_at_call 8; refine KT.out.mono ?_; rintro e w6 ⟨a6, c6, a6', c6', b6, d6, rfl, X6, h6⟩
           clear b1 b2 b3 c0 c1 fr KT
           have hS6 := ((((Only.refl bo (bo + 1) w6).setCell (o := 0) (Nat.le_refl _) (Nat.lt_succ_self _) (.int .i64 9)).setCell (b := bo) (o := 1) (Nat.le_refl _) (Nat.lt_succ_self _) (.slice a6 (zs.length + 1) c6)).setCell (b := bo) (o := 2) (Nat.le_refl _) (Nat.lt_succ_self _) (.slice a6' js.length c6'))
           have X7 := toHid (((X6.vw.butUp hbw.out hb1.out.size).set hS6).below ((Below.refl _ _).onA (.cells #[.int .i64 9, .slice a6 (zs.length + 1) c6, .slice a6' js.length c6'] 25)))
           have BX7 := toHid (((((BX1.out.below h6).setS (ys := #[.int .i64 9, .slice (some ⟨pb, off, none⟩) (ys.length + 1) c, .slice aq nq cq]) 0 (.int .i64 9) (by simp) (by simp)).setS (ys := #[.int .i64 9, .slice a6 (zs.length + 1) c6, .slice aq nq cq]) 1 (.slice a6 (zs.length + 1) c6) (by simp) (by simp)).setS (ys := #[.int .i64 9, .slice a6 (zs.length + 1) c6, .slice a6' js.length c6']) 2 (.slice a6' js.length c6') (by simp) (by simp)).alloc (.cells #[.int .i64 9, .slice a6 (zs.length + 1) c6, .slice a6' js.length c6'] 25))
           have hb7 := toHid (((hb1.out.on h6).trans (hS6.below.mono z1)).onA (.cells #[.int .i64 9, .slice a6 (zs.length + 1) c6, .slice a6' js.length c6'] 25))
           obtain ⟨px, cx, ex, -, hcs⟩ := X6.row.ints (Nat.le_refl _)
           cases ex
           obtain ⟨gb, go, rfl, -, hgb, h1⟩ := hcs (by simp)
           have g0 := h1 0 (by simp)
           have g1 := h1 1 (by simp)
           simp at g0 g1
           obtain ⟨lo1, hi1, lo2, hi2, P6, -, -, hh6, -⟩ := X6.vw.out
           obtain ⟨ab, ao, ac, ea, -, hab, r0, r1, -, -⟩ := P6.head
           cases ea
           dsimp only at r0 r1
           have hab' : ab < w6.heap.size := by omega
           obtain ⟨b1, b2, b3⟩ := BX1.out.below h6
           clear hcs h1 X6 P6 h6 hS6 hab hh6)
        | (go_at_call 12; refine (num_any _ _).mono ?_; rintro e w' ⟨rfl, hw'⟩; subst w'))
      go_roundw
      case rel => exact ⟨k + 1, hdM m, 1, _, _, by omega, by go_num, hm', by rw [f4.out]; exact X7, BX7, hb7⟩
      case measure => simp [intOf]; omega
    · obtain rfl : k = T + 1 := by omega
      have h2 := hdX_two x m
      obtain ⟨⟨s1, s2⟩, hs⟩ : ∃ s, hdX x m = s := ⟨_, rfl⟩
      rw [hs] at X h2
      dsimp only at X h2
      clear hs
      obtain ⟨a5, c5, a5', c5', ep5, eq5, -, -⟩ := X.out.shape
      subst ep5 eq5
      have h2' : (s1.length : Int) + (s2.length : Int) = 2 := by omega
      have hfd : ∀ (ga gb : Option Addr) (W : World), (Instr.field 25 (.agg #[.int .i64 100, .slice ga 3 3, .slice gb 2 2]) 1).run Try.prog W = .ok (.slice ga 3 3) W := fun _ _ _ => by kernel_rfl
      obtain ⟨b1, b2, b3⟩ := id BX.out
      clear X
      go_wp2_with (first
        | (go_at_call 18; refine (given11_any _).mono ?_; rintro e w7 ⟨ga, gb, rfl, -, h7⟩))
      go_ret
      exact ⟨rfl, hbel.out.on h7⟩

/-! ### The row's step -/
set_option maxRecDepth 100000 in
theorem lifted (os : Os) (started : os.Started) (H : Type) (enc : TypeId × Value → H) :
    ReturnsInHanded {} Try.checked os 6 .any (Rows.ageHeardSpec.pre6 enc Try.prog Try.f6 Rows.ageHeardRow.domain false) (Rows.ageHeardSpec.post enc Try.prog Try.f6 false true false false) := by
  refine returnsInHanded_of_change_sized (C := Try.checked) ownK started (by kernel_rfl) Try.func6
    (ChangeSpec.witness6 (enc := enc) (C := Try.checked) false ⟨#[], #[.int .i64 0, .int .i64 0], []⟩ 8 (by kernel_rfl) (by kernel_rfl) (by kernel_rfl) (by kernel_rfl)) ?_
  intro W base args ds gs before hval0 hW hcnd hsz0 _
  have hsz : (DataW.weightsEach Try.prog (Try.f6.params.toList ++ Rows.ageHeardSpec.plain.varTypes Try.prog) (ds ++ gs)).all (· ≤ reachBytes) = true := hsz0
  have hval : ∀ (j : Nat) t v, Try.f6.params[j]? = some t → args[j]? = some v → Value.okWide Try.prog W .any base t v := hval0
  have hW' := hW
  obtain ⟨p, q, hA0, hV, rfl, hfz, hnd⟩ := hW
  have hA : DataW.TrodAll enc Try.prog W 0 (fun _ => true) true Try.f6.params.toList args.toList ds p := hA0
  rw [Try.params6] at hA hval hsz
  obtain ⟨v0, vs0, d0, ds0, p0, q0, hargs, rfl, rfl, h0, r0⟩ := trodAll_cons hA
  obtain ⟨v1, vs1, d1, ds1, p1, q1, rfl, rfl, rfl, h1, r1⟩ := trodAll_cons r0
  obtain ⟨rfl, rfl, rfl⟩ := trodAll_nil r1
  obtain rfl : args = #[v0, v1] := by cases args; simp_all
  obtain ⟨rfl, rfl⟩ := trodVars_none hV
  clear r0 r1
  have k0 := h0
  have lt0 : ∀ x ∈ p0, x.block < W.heap.size := by obtain ⟨m, hm⟩ := k0; exact DataW.trod_lt m _ _ _ hm
  have k1 := h1
  have lt1 : ∀ x ∈ p1, x.block < W.heap.size := by obtain ⟨m, hm⟩ := k1; exact DataW.trod_lt m _ _ _ hm
  obtain ⟨a0, rfl, rfl, rfl, w0⟩ := open_int Try.underlying3 (hval 0 3 v0 rfl rfl) h0
  obtain ⟨a1, rfl, rfl, rfl, w1⟩ := open_int Try.underlying3 (hval 1 3 v1 rfl rfl) h1
  clear hA0 hval0
  refine (walk a0 a1 W w0 w1).mono fun e W' ⟨he, bel⟩ => ?_
  subst he
  exact ⟨_, rfl, _, _, _, [], _, [], hW', trodAll_mk1 (shut_bool Try.underlying4 _), (trodAll_cons_mk (Below.trod laidOut (by kernel_rfl) (of_decide_eq_true (by kernel_rfl)) k0 bel lt0) (trodAll_cons_mk (Below.trod laidOut (by kernel_rfl) (of_decide_eq_true (by kernel_rfl)) k1 bel lt1) trodAll_mk0)), rfl, bel.frame _, fun h => by cases h⟩

theorem over : Rows.ageHeardRow.holds Try.pinned (OpenSpec.ofChange Rows.ageHeardSpec) :=
  OpenClaim.holds_of_wide 6 Try.f6 rfl rfl rfl rfl rfl rfl rfl ⟨rfl, rfl, rfl, rfl, rfl⟩ rfl rfl rfl rfl rfl (by kernel_rfl) Try.func6 (by kernel_rfl)
    (of_decide_eq_true (by kernel_rfl)) (by unfold Func.isWrapper; first | (rw [if_pos (by decide +kernel)]; kernel_rfl) | (rw [if_neg (by decide +kernel)]; exact ⟨rfl, rfl⟩))
    (fun os started H enc _ => lifted os started H enc)

end Go.Proofs.Ytagojonjohimfaa.ageHeard

namespace Go.Proofs.Ytagojonjohimfaa
/-- The statement, by its short name. -/
theorem ageHeard_holds : Rows.AgeHeardSaid := ageHeard.over
#print axioms ageHeard_holds
end Go.Proofs.Ytagojonjohimfaa
