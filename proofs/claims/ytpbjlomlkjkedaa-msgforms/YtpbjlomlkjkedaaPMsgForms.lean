
/-
  The statement MsgForms: none of eighteen messages, each with one thing that it should not have, may be.
-/
import Derived.Test.YtpbjlomlkjkedaaRows
import Derived.Test.YtpbjlomlkjkedaaOpen
import Derived.Test.YtpbjlomlkjkedaaMsgLaw
import Derived.Test.YtpbjlomlkjkedaaMsgBad
import Derived.Test.YtpbjlomlkjkedaaNum
import Derived.Test.YtpbjlomlkjkedaaAnyInv
import Derived.Great.Walk
import Derived.Deep.DeepCutAuto
import Derived.Deep.CutRange
import Derived.Deep.CutBlock
namespace Go.Proofs.Ytpbjlomlkjkedaa.msgForms
open Go.ChangeShapes Go.WideShapes Go.ChangeAt Go.RowKit
set_option linter.unusedVariables false

/-! ### The walk -/
theorem run_neg {ρ : Operand → Value} {w : World} {s : Tmp} {x : Int} {dst : Option Tmp} {t : TypeId} {p : String} {af : Array Edge} (h : ρ (.tmp s) = .int .i64 x) :
    (execOp ρ ⟨dst, .unOp .neg 3 (.tmp s), t, p, af, none⟩).run Try.prog w = .ok (.value (.int .i64 (IntKind.i64.wrap (-x)))) w := by
  go_simp
theorem run_addc {ρ : Operand → Value} {w : World} {s : Tmp} {x c : Int} {dst : Option Tmp} {t : TypeId} {p : String} {af : Array Edge} (h : ρ (.tmp s) = .int .i64 x) (hc : ρ (.const (.int .i64 c)) = .int .i64 c) :
    (execOp ρ ⟨dst, .binOp .add 3 (.const (.int .i64 c)) (.tmp s) 3, t, p, af, none⟩).run Try.prog w = .ok (.value (.int .i64 (IntKind.i64.wrap (c + x)))) w := by
  go_simp
theorem run_makeI {ρ : Operand → Value} {w w2 : World} {s : Tmp} {n : Int} {v : Value} {dst : Option Tmp} {t : TypeId} {p : String} {af : Array Edge} (h : ρ (.tmp s) = .int .i64 n) (e : (Instr.makeSlice 22 (.int .i64 n) (.int .i64 n)).run Try.prog w = .ok v w2) :
    (execOp ρ ⟨dst, .makeSlice 22 (.tmp s) (.tmp s), t, p, af, none⟩).run Try.prog w = .ok (.value v) w2 := by
  go_simp
theorem run_loadI {ρ : Operand → Value} {w : World} {bi : Nat} {dst : Option Tmp} {t : TypeId} {p : String} {af : Array Edge} (hp : ρ (.tmp 6) = .pointer (some ⟨bi, 0, none⟩)) (h : Box w bi #[.int .i64 5, .int .i64 1, .int .i64 2, .int .i64 3, .bool false]) :
    (execOp ρ ⟨dst, .load 26 (.tmp 6), t, p, af, none⟩).run Try.prog w = .ok (.value (.agg #[.int .i64 5, .int .i64 1, .int .i64 2, .int .i64 3, .bool false])) w := by
  obtain ⟨-, h2, -⟩ := h
  have c0 := h2 0
  have c1 := h2 1
  have c2 := h2 2
  have c3 := h2 3
  have c4 := h2 4
  simp at c0 c1 c2 c3 c4
  clear h2
  go_simp

set_option maxRecDepth 20000 in
set_option maxHeartbeats 16000000 in
theorem walk (a0 : Int) (a1 : Int) (w : World) (w0 : (Lit.int .i64 a0).wf = true) (w1 : (Lit.int .i64 a1).wf = true) :
    Calls Try.prog 4 #[.int .i64 a0, .int .i64 a1] w fun e w' => e = .returned (.bool true) ∧ Below w.heap.size w w' := by
  have ed : bits .and .i64 a1 1023 = a1 % 1024 := and1023 a1
  obtain ⟨d, hd⟩ : ∃ x, x = a1 % 1024 := ⟨_, rfl⟩
  have d0 : 0 ≤ d := by omega
  have d1 : d < 1024 := by omega
  rw [← hd] at ed
  obtain ⟨r, hr⟩ : ∃ r : Nat, r = (a0 % 18446744073709551616).toNat % 18 := ⟨_, rfl⟩
  have er : (IntKind.u64.wrap a0).tmod 18 = (r : Int) := rem_u64 a0 18 r hr
  have hr1 : r < 18 := by omega
  clear hd hr w0 w1
  have kr : (r : Int) < 18 := by omega
  obtain ⟨N, hN⟩ : ∃ N : Nat, 16 + (1 + d) = (N : Int) := ⟨(16 + (1 + d)).toNat, by omega⟩
  have hN2 : N ≤ 4096 := by omega
  have y4 := w64i (n := 16 + (1 + d)) (by omega) (by omega)
  have y5 := w64i (n := (r : Int)) (by omega) (by omega)
  have mk := fun W : World => made_any (n := IntKind.i64.wrap (16 + (1 + d))) (y4.trans hN) hN2 W
  clear hN2 y4
  have y6 := w64i (n := 1 + d) (by omega) (by omega)
  go_enter Try.func4, Try.ntmps4
  go_upto_region 5 with (first
    | (go_at_call 11; refine (awake12_any _).mono ?_; rintro e w1 ⟨rfl, h1⟩))
  have BI := toHid (Box.new w1 #[.int .i64 5, .int .i64 1, .int .i64 2, .int .i64 3, .bool false] 26)
  have hB := toHid (h1.onA (.cells #[.int .i64 5, .int .i64 1, .int .i64 2, .int .i64 3, .bool false] 26))
  clear h1
  generalize w1.alloc (.cells #[.int .i64 5, .int .i64 1, .int .i64 2, .int .i64 3, .bool false] 26) = wA at BI hB ⊢
  generalize w1.heap.size = bi at BI ⊢
  go_cut [7] from 15 to 58 (fun v7 wx => ∃ px : Nat, v7 = .slice (some ⟨px, 0, none⟩) 18 18 ∧ Below wA.heap.size wA wx ∧ BadAt wx px r)
  case first =>
    rename_i J K1 hJ hMet
    refine wp_region_inv (by kernel_rfl) (by kernel_rfl) (fun (f : Nat → Bool) (ac : Act) (w' : World) => ∃ pa pb pc px : Nat, ac = { tmps := #[.int .i64 a0, .int .i64 a1, undef, undef, .bool false, .int .i64 (1 + d), .pointer (some ⟨bi, 0, none⟩), slotv f (badV (1 + d) N pa pb pc px) 44, .bool true, .bool false, .int .i64 a1, .int .i64 d, .int .i64 (1 + d), .agg #[.int .i64 1, .int .i64 2], .agg #[.int .i64 5, .int .i64 1, .int .i64 2, .int .i64 3, .bool false], slotv f (badV (1 + d) N pa pb pc px) 0, slotv f (badV (1 + d) N pa pb pc px) 1, slotv f (badV (1 + d) N pa pb pc px) 2, slotv f (badV (1 + d) N pa pb pc px) 3, slotv f (badV (1 + d) N pa pb pc px) 4, slotv f (badV (1 + d) N pa pb pc px) 5, slotv f (badV (1 + d) N pa pb pc px) 6, slotv f (badV (1 + d) N pa pb pc px) 7, slotv f (badV (1 + d) N pa pb pc px) 8, slotv f (badV (1 + d) N pa pb pc px) 9, slotv f (badV (1 + d) N pa pb pc px) 10, slotv f (badV (1 + d) N pa pb pc px) 11, slotv f (badV (1 + d) N pa pb pc px) 12, slotv f (badV (1 + d) N pa pb pc px) 13, slotv f (badV (1 + d) N pa pb pc px) 14, slotv f (badV (1 + d) N pa pb pc px) 15, slotv f (badV (1 + d) N pa pb pc px) 16, slotv f (badV (1 + d) N pa pb pc px) 17, slotv f (badV (1 + d) N pa pb pc px) 18, slotv f (badV (1 + d) N pa pb pc px) 19, slotv f (badV (1 + d) N pa pb pc px) 20, slotv f (badV (1 + d) N pa pb pc px) 21, slotv f (badV (1 + d) N pa pb pc px) 22, slotv f (badV (1 + d) N pa pb pc px) 23, slotv f (badV (1 + d) N pa pb pc px) 24, slotv f (badV (1 + d) N pa pb pc px) 25, slotv f (badV (1 + d) N pa pb pc px) 26, slotv f (badV (1 + d) N pa pb pc px) 27, slotv f (badV (1 + d) N pa pb pc px) 28, slotv f (badV (1 + d) N pa pb pc px) 29, slotv f (badV (1 + d) N pa pb pc px) 30, slotv f (badV (1 + d) N pa pb pc px) 31, slotv f (badV (1 + d) N pa pb pc px) 32, slotv f (badV (1 + d) N pa pb pc px) 33, slotv f (badV (1 + d) N pa pb pc px) 34, slotv f (badV (1 + d) N pa pb pc px) 35, slotv f (badV (1 + d) N pa pb pc px) 36, slotv f (badV (1 + d) N pa pb pc px) 37, slotv f (badV (1 + d) N pa pb pc px) 38, slotv f (badV (1 + d) N pa pb pc px) 39, slotv f (badV (1 + d) N pa pb pc px) 40, slotv f (badV (1 + d) N pa pb pc px) 41, slotv f (badV (1 + d) N pa pb pc px) 42, slotv f (badV (1 + d) N pa pb pc px) 43, undef, undef, undef, undef, undef, undef, undef, undef, undef, undef, undef, undef, undef], defers := [] } ∧ Below wA.heap.size wA w' ∧
      (f 15 = true → Box w' pa (madeC N)) ∧ (f 19 = true → Box w' pb #[.int .i64 (IntKind.i64.wrap (-(1 + d)))]) ∧ (f 30 = true → Box w' pc #[.int .i64 3]) ∧ (f 43 = true → Box w' px (badC (1 + d) N pa pb pc)) ∧
      (f 16 = true → f 15 = true) ∧ (f 20 = true → f 19 = true) ∧ (f 31 = true → f 30 = true) ∧ (f 44 = true → f 43 = true) ∧ (f 43 = true → f 15 = true ∧ f 19 = true ∧ f 30 = true)) ?_ ?_ ?_
    · exact ⟨0, 0, 0, 0, (by kernel_rfl), (Below.refl _ wA).onD 1, nofun, nofun, nofun, nofun, nofun, nofun, nofun, nofun, nofun⟩
    · intro f i o ho hf hd
      match i, ho, hf with
      | 0, ho, hf =>
        simp only [List.getElem?_toArray, List.getElem?_cons_zero, Option.some.injEq] at ho
        subst ho
        rintro ac w' ⟨pa, pb, pc, px, rfl, hb, g15, g19, g30, g43, k16, k20, k31, k44, k43⟩ K hK
        refine Great.wpList_runTo rfl _ rfl (badV (1 + d) N pa pb pc px 0) w' (by kernel_rfl) ?_
        exact hK _ _ ⟨pa, pb, pc, px, (by kernel_rfl), hb, g15, g19, g30, g43, k16, k20, k31, k44, k43⟩
      | 1, ho, hf =>
        simp only [List.getElem?_toArray, List.getElem?_cons_zero, List.getElem?_cons_succ, Option.some.injEq] at ho
        subst ho
        have q0 := hd ⟨0, .data⟩ (by simp) (by rfl)
        rintro ac w' ⟨pa, pb, pc, px, rfl, hb, g15, g19, g30, g43, k16, k20, k31, k44, k43⟩ K hK
        obtain ⟨f, rfl⟩ := upd (f := f) (show f 0 = true from q0)
        refine Great.wpList_runTo rfl _ rfl (badV (1 + d) N pa pb pc px 1) w' (run_neg (x := 1 + d) (by kernel_rfl)) ?_
        exact hK _ _ ⟨pa, pb, pc, px, (by kernel_rfl), hb, g15, g19, g30, g43, k16, k20, k31, k44, k43⟩
      | 2, ho, hf =>
        simp only [List.getElem?_toArray, List.getElem?_cons_zero, List.getElem?_cons_succ, Option.some.injEq] at ho
        subst ho
        have q1 := hd ⟨1, .data⟩ (by simp) (by rfl)
        rintro ac w' ⟨pa, pb, pc, px, rfl, hb, g15, g19, g30, g43, k16, k20, k31, k44, k43⟩ K hK
        obtain ⟨f, rfl⟩ := upd (f := f) (show f 1 = true from q1)
        refine Great.wpList_runTo rfl _ rfl (badV (1 + d) N pa pb pc px 2) w' (by kernel_rfl) ?_
        exact hK _ _ ⟨pa, pb, pc, px, (by kernel_rfl), hb, g15, g19, g30, g43, k16, k20, k31, k44, k43⟩
      | 3, ho, hf =>
        simp only [List.getElem?_toArray, List.getElem?_cons_zero, List.getElem?_cons_succ, Option.some.injEq] at ho
        subst ho
        rintro ac w' ⟨pa, pb, pc, px, rfl, hb, g15, g19, g30, g43, k16, k20, k31, k44, k43⟩ K hK
        refine Great.wpList_runTo rfl _ rfl (badV (1 + d) N pa pb pc px 3) w' (by kernel_rfl) ?_
        exact hK _ _ ⟨pa, pb, pc, px, (by kernel_rfl), hb, g15, g19, g30, g43, k16, k20, k31, k44, k43⟩
      | 4, ho, hf =>
        simp only [List.getElem?_toArray, List.getElem?_cons_zero, List.getElem?_cons_succ, Option.some.injEq] at ho
        subst ho
        have q3 := hd ⟨3, .data⟩ (by simp) (by rfl)
        rintro ac w' ⟨pa, pb, pc, px, rfl, hb, g15, g19, g30, g43, k16, k20, k31, k44, k43⟩ K hK
        obtain ⟨f, rfl⟩ := upd (f := f) (show f 3 = true from q3)
        refine Great.wpList_runTo rfl _ rfl (badV (1 + d) N pa pb pc px 4) w' (run_addc (x := 1 + d) (by kernel_rfl) (by kernel_rfl)) ?_
        exact hK _ _ ⟨pa, pb, pc, px, (by kernel_rfl), hb, g15, g19, g30, g43, k16, k20, k31, k44, k43⟩
      | 5, ho, hf =>
        simp only [List.getElem?_toArray, List.getElem?_cons_zero, List.getElem?_cons_succ, Option.some.injEq] at ho
        subst ho
        have q4 := hd ⟨4, .data⟩ (by simp) (by rfl)
        rintro ac w' ⟨pa, pb, pc, px, rfl, hb, g15, g19, g30, g43, k16, k20, k31, k44, k43⟩ K hK
        obtain ⟨f, rfl⟩ := upd (f := f) (show f 4 = true from q4)
        refine Great.wpList_runTo rfl _ rfl (badV (1 + d) N pa pb pc px 5) w' (by kernel_rfl) ?_
        exact hK _ _ ⟨pa, pb, pc, px, (by kernel_rfl), hb, g15, g19, g30, g43, k16, k20, k31, k44, k43⟩
      | 6, ho, hf =>
        simp only [List.getElem?_toArray, List.getElem?_cons_zero, List.getElem?_cons_succ, Option.some.injEq] at ho
        subst ho
        rintro ac w' ⟨pa, pb, pc, px, rfl, hb, g15, g19, g30, g43, k16, k20, k31, k44, k43⟩ K hK
        refine Great.wpList_runTo rfl _ rfl (badV (1 + d) N pa pb pc px 6) w' (by kernel_rfl) ?_
        exact hK _ _ ⟨pa, pb, pc, px, (by kernel_rfl), hb, g15, g19, g30, g43, k16, k20, k31, k44, k43⟩
      | 7, ho, hf =>
        simp only [List.getElem?_toArray, List.getElem?_cons_zero, List.getElem?_cons_succ, Option.some.injEq] at ho
        subst ho
        have q6 := hd ⟨6, .data⟩ (by simp) (by rfl)
        rintro ac w' ⟨pa, pb, pc, px, rfl, hb, g15, g19, g30, g43, k16, k20, k31, k44, k43⟩ K hK
        obtain ⟨f, rfl⟩ := upd (f := f) (show f 6 = true from q6)
        refine Great.wpList_runTo rfl _ rfl (badV (1 + d) N pa pb pc px 7) w' (run_neg (x := 1 + d) (by kernel_rfl)) ?_
        exact hK _ _ ⟨pa, pb, pc, px, (by kernel_rfl), hb, g15, g19, g30, g43, k16, k20, k31, k44, k43⟩
      | 8, ho, hf =>
        simp only [List.getElem?_toArray, List.getElem?_cons_zero, List.getElem?_cons_succ, Option.some.injEq] at ho
        subst ho
        have q7 := hd ⟨7, .data⟩ (by simp) (by rfl)
        rintro ac w' ⟨pa, pb, pc, px, rfl, hb, g15, g19, g30, g43, k16, k20, k31, k44, k43⟩ K hK
        obtain ⟨f, rfl⟩ := upd (f := f) (show f 7 = true from q7)
        refine Great.wpList_runTo rfl _ rfl (badV (1 + d) N pa pb pc px 8) w' (by kernel_rfl) ?_
        exact hK _ _ ⟨pa, pb, pc, px, (by kernel_rfl), hb, g15, g19, g30, g43, k16, k20, k31, k44, k43⟩
      | 9, ho, hf =>
        simp only [List.getElem?_toArray, List.getElem?_cons_zero, List.getElem?_cons_succ, Option.some.injEq] at ho
        subst ho
        rintro ac w' ⟨pa, pb, pc, px, rfl, hb, g15, g19, g30, g43, k16, k20, k31, k44, k43⟩ K hK
        refine Great.wpList_runTo rfl _ rfl (badV (1 + d) N pa pb pc px 9) w' (by kernel_rfl) ?_
        exact hK _ _ ⟨pa, pb, pc, px, (by kernel_rfl), hb, g15, g19, g30, g43, k16, k20, k31, k44, k43⟩
      | 10, ho, hf =>
        simp only [List.getElem?_toArray, List.getElem?_cons_zero, List.getElem?_cons_succ, Option.some.injEq] at ho
        subst ho
        have q9 := hd ⟨9, .data⟩ (by simp) (by rfl)
        rintro ac w' ⟨pa, pb, pc, px, rfl, hb, g15, g19, g30, g43, k16, k20, k31, k44, k43⟩ K hK
        obtain ⟨f, rfl⟩ := upd (f := f) (show f 9 = true from q9)
        refine Great.wpList_runTo rfl _ rfl (badV (1 + d) N pa pb pc px 10) w' (run_addc (x := 1 + d) (by kernel_rfl) (by kernel_rfl)) ?_
        exact hK _ _ ⟨pa, pb, pc, px, (by kernel_rfl), hb, g15, g19, g30, g43, k16, k20, k31, k44, k43⟩
      | 11, ho, hf =>
        simp only [List.getElem?_toArray, List.getElem?_cons_zero, List.getElem?_cons_succ, Option.some.injEq] at ho
        subst ho
        have q10 := hd ⟨10, .data⟩ (by simp) (by rfl)
        rintro ac w' ⟨pa, pb, pc, px, rfl, hb, g15, g19, g30, g43, k16, k20, k31, k44, k43⟩ K hK
        obtain ⟨f, rfl⟩ := upd (f := f) (show f 10 = true from q10)
        refine Great.wpList_runTo rfl _ rfl (badV (1 + d) N pa pb pc px 11) w' (by kernel_rfl) ?_
        exact hK _ _ ⟨pa, pb, pc, px, (by kernel_rfl), hb, g15, g19, g30, g43, k16, k20, k31, k44, k43⟩
      | 12, ho, hf =>
        simp only [List.getElem?_toArray, List.getElem?_cons_zero, List.getElem?_cons_succ, Option.some.injEq] at ho
        subst ho
        rintro ac w' ⟨pa, pb, pc, px, rfl, hb, g15, g19, g30, g43, k16, k20, k31, k44, k43⟩ K hK
        refine Great.wpList_runTo rfl _ rfl (badV (1 + d) N pa pb pc px 12) w' (by kernel_rfl) ?_
        exact hK _ _ ⟨pa, pb, pc, px, (by kernel_rfl), hb, g15, g19, g30, g43, k16, k20, k31, k44, k43⟩
      | 13, ho, hf =>
        simp only [List.getElem?_toArray, List.getElem?_cons_zero, List.getElem?_cons_succ, Option.some.injEq] at ho
        subst ho
        rintro ac w' ⟨pa, pb, pc, px, rfl, hb, g15, g19, g30, g43, k16, k20, k31, k44, k43⟩ K hK
        refine Great.wpList_runTo rfl _ rfl (badV (1 + d) N pa pb pc px 13) w' (by kernel_rfl) ?_
        exact hK _ _ ⟨pa, pb, pc, px, (by kernel_rfl), hb, g15, g19, g30, g43, k16, k20, k31, k44, k43⟩
      | 14, ho, hf =>
        simp only [List.getElem?_toArray, List.getElem?_cons_zero, List.getElem?_cons_succ, Option.some.injEq] at ho
        subst ho
        have q13 := hd ⟨13, .data⟩ (by simp) (by rfl)
        rintro ac w' ⟨pa, pb, pc, px, rfl, hb, g15, g19, g30, g43, k16, k20, k31, k44, k43⟩ K hK
        obtain ⟨f, rfl⟩ := upd (f := f) (show f 13 = true from q13)
        refine Great.wpList_runTo rfl _ rfl (badV (1 + d) N pa pb pc px 14) w' (run_addc (x := 1 + d) (by kernel_rfl) (by kernel_rfl)) ?_
        exact hK _ _ ⟨pa, pb, pc, px, (by kernel_rfl), hb, g15, g19, g30, g43, k16, k20, k31, k44, k43⟩
      | 15, ho, hf =>
        simp only [List.getElem?_toArray, List.getElem?_cons_zero, List.getElem?_cons_succ, Option.some.injEq] at ho
        subst ho
        have q14 := hd ⟨14, .data⟩ (by simp) (by rfl)
        rintro ac w' ⟨pa, pb, pc, px, rfl, hb, g15, g19, g30, g43, k16, k20, k31, k44, k43⟩ K hK
        have z1 : f 16 = false := by
          cases hx : f 16 with
          | false => rfl
          | true => exact absurd (k16 hx) (by simp [hf])
        have z2 : f 43 = false := by
          cases hx : f 43 with
          | false => rfl
          | true => exact absurd (k43 hx |>.1) (by simp [hf])
        obtain ⟨f, rfl⟩ := upd (f := f) (show f 14 = true from q14)
        obtain ⟨f, rfl⟩ := upd (f := f) (show f 16 = false from z1)
        obtain ⟨f, rfl⟩ := upd (f := f) (show f 43 = false from z2)
        refine Great.wpList_runTo rfl _ rfl (.slice (some ⟨w'.heap.size, 0, none⟩) N N) (w'.alloc (.cells (madeC N) 3)) (run_makeI (by kernel_rfl) (mk w')) ?_
        exact hK _ _ ⟨w'.heap.size, pb, pc, px, (by kernel_rfl), hb.onA _, fun _ => Box.new w' _ _, fun q => (g19 q).alloc _, fun q => (g30 q).alloc _, nofun, nofun, k20, k31, (fun q => absurd (k44 q) (by simp)), nofun⟩
      | 16, ho, hf =>
        simp only [List.getElem?_toArray, List.getElem?_cons_zero, List.getElem?_cons_succ, Option.some.injEq] at ho
        subst ho
        have q15 := hd ⟨15, .data⟩ (by simp) (by rfl)
        rintro ac w' ⟨pa, pb, pc, px, rfl, hb, g15, g19, g30, g43, k16, k20, k31, k44, k43⟩ K hK
        obtain ⟨f, rfl⟩ := upd (f := f) (show f 15 = true from q15)
        refine Great.wpList_runTo rfl _ rfl (badV (1 + d) N pa pb pc px 16) w' (by kernel_rfl) ?_
        exact hK _ _ ⟨pa, pb, pc, px, (by kernel_rfl), hb, g15, g19, g30, g43, (fun _ => rfl), k20, k31, k44, k43⟩
      | 17, ho, hf =>
        simp only [List.getElem?_toArray, List.getElem?_cons_zero, List.getElem?_cons_succ, Option.some.injEq] at ho
        subst ho
        rintro ac w' ⟨pa, pb, pc, px, rfl, hb, g15, g19, g30, g43, k16, k20, k31, k44, k43⟩ K hK
        refine Great.wpList_runTo rfl _ rfl (badV (1 + d) N pa pb pc px 17) w' (by kernel_rfl) ?_
        exact hK _ _ ⟨pa, pb, pc, px, (by kernel_rfl), hb, g15, g19, g30, g43, k16, k20, k31, k44, k43⟩
      | 18, ho, hf =>
        simp only [List.getElem?_toArray, List.getElem?_cons_zero, List.getElem?_cons_succ, Option.some.injEq] at ho
        subst ho
        have q17 := hd ⟨17, .data⟩ (by simp) (by rfl)
        rintro ac w' ⟨pa, pb, pc, px, rfl, hb, g15, g19, g30, g43, k16, k20, k31, k44, k43⟩ K hK
        obtain ⟨f, rfl⟩ := upd (f := f) (show f 17 = true from q17)
        refine Great.wpList_runTo rfl _ rfl (badV (1 + d) N pa pb pc px 18) w' (run_neg (x := 1 + d) (by kernel_rfl)) ?_
        exact hK _ _ ⟨pa, pb, pc, px, (by kernel_rfl), hb, g15, g19, g30, g43, k16, k20, k31, k44, k43⟩
      | 19, ho, hf =>
        simp only [List.getElem?_toArray, List.getElem?_cons_zero, List.getElem?_cons_succ, Option.some.injEq] at ho
        subst ho
        have q18 := hd ⟨18, .data⟩ (by simp) (by rfl)
        rintro ac w' ⟨pa, pb, pc, px, rfl, hb, g15, g19, g30, g43, k16, k20, k31, k44, k43⟩ K hK
        have z1 : f 20 = false := by
          cases hx : f 20 with
          | false => rfl
          | true => exact absurd (k20 hx) (by simp [hf])
        have z2 : f 43 = false := by
          cases hx : f 43 with
          | false => rfl
          | true => exact absurd ((k43 hx).2.1) (by simp [hf])
        obtain ⟨f, rfl⟩ := upd (f := f) (show f 18 = true from q18)
        obtain ⟨f, rfl⟩ := upd (f := f) (show f 20 = false from z1)
        obtain ⟨f, rfl⟩ := upd (f := f) (show f 43 = false from z2)
        refine Great.wpList_runTo rfl _ rfl (.slice (some ⟨w'.heap.size, 0, none⟩) 1 1) (w'.alloc (.cells #[.int .i64 (IntKind.i64.wrap (-(1 + d)))] 3)) (by kernel_rfl) ?_
        exact hK _ _ ⟨pa, w'.heap.size, pc, px, (by kernel_rfl), hb.onA _, fun q => (g15 q).alloc _, fun _ => Box.new w' _ _, fun q => (g30 q).alloc _, nofun, k16, nofun, k31, (fun q => absurd (k44 q) (by simp)), nofun⟩
      | 20, ho, hf =>
        simp only [List.getElem?_toArray, List.getElem?_cons_zero, List.getElem?_cons_succ, Option.some.injEq] at ho
        subst ho
        have q19 := hd ⟨19, .data⟩ (by simp) (by rfl)
        rintro ac w' ⟨pa, pb, pc, px, rfl, hb, g15, g19, g30, g43, k16, k20, k31, k44, k43⟩ K hK
        obtain ⟨f, rfl⟩ := upd (f := f) (show f 19 = true from q19)
        refine Great.wpList_runTo rfl _ rfl (badV (1 + d) N pa pb pc px 20) w' (by kernel_rfl) ?_
        exact hK _ _ ⟨pa, pb, pc, px, (by kernel_rfl), hb, g15, g19, g30, g43, k16, (fun _ => rfl), k31, k44, k43⟩
      | 21, ho, hf =>
        simp only [List.getElem?_toArray, List.getElem?_cons_zero, List.getElem?_cons_succ, Option.some.injEq] at ho
        subst ho
        rintro ac w' ⟨pa, pb, pc, px, rfl, hb, g15, g19, g30, g43, k16, k20, k31, k44, k43⟩ K hK
        refine Great.wpList_runTo rfl _ rfl (badV (1 + d) N pa pb pc px 21) w' (by kernel_rfl) ?_
        exact hK _ _ ⟨pa, pb, pc, px, (by kernel_rfl), hb, g15, g19, g30, g43, k16, k20, k31, k44, k43⟩
      | 22, ho, hf =>
        simp only [List.getElem?_toArray, List.getElem?_cons_zero, List.getElem?_cons_succ, Option.some.injEq] at ho
        subst ho
        have q21 := hd ⟨21, .data⟩ (by simp) (by rfl)
        rintro ac w' ⟨pa, pb, pc, px, rfl, hb, g15, g19, g30, g43, k16, k20, k31, k44, k43⟩ K hK
        obtain ⟨f, rfl⟩ := upd (f := f) (show f 21 = true from q21)
        refine Great.wpList_runTo rfl _ rfl (badV (1 + d) N pa pb pc px 22) w' (by kernel_rfl) ?_
        exact hK _ _ ⟨pa, pb, pc, px, (by kernel_rfl), hb, g15, g19, g30, g43, k16, k20, k31, k44, k43⟩
      | 23, ho, hf =>
        simp only [List.getElem?_toArray, List.getElem?_cons_zero, List.getElem?_cons_succ, Option.some.injEq] at ho
        subst ho
        rintro ac w' ⟨pa, pb, pc, px, rfl, hb, g15, g19, g30, g43, k16, k20, k31, k44, k43⟩ K hK
        refine Great.wpList_runTo rfl _ rfl (badV (1 + d) N pa pb pc px 23) w' (by kernel_rfl) ?_
        exact hK _ _ ⟨pa, pb, pc, px, (by kernel_rfl), hb, g15, g19, g30, g43, k16, k20, k31, k44, k43⟩
      | 24, ho, hf =>
        simp only [List.getElem?_toArray, List.getElem?_cons_zero, List.getElem?_cons_succ, Option.some.injEq] at ho
        subst ho
        rintro ac w' ⟨pa, pb, pc, px, rfl, hb, g15, g19, g30, g43, k16, k20, k31, k44, k43⟩ K hK
        refine Great.wpList_runTo rfl _ rfl (.agg #[.int .i64 5, .int .i64 1, .int .i64 2, .int .i64 3, .bool false]) w' (run_loadI rfl (BI.out.below hb)) ?_
        exact hK _ _ ⟨pa, pb, pc, px, (by kernel_rfl), hb, g15, g19, g30, g43, k16, k20, k31, k44, k43⟩
      | 25, ho, hf =>
        simp only [List.getElem?_toArray, List.getElem?_cons_zero, List.getElem?_cons_succ, Option.some.injEq] at ho
        subst ho
        have q24 := hd ⟨24, .data⟩ (by simp) (by rfl)
        rintro ac w' ⟨pa, pb, pc, px, rfl, hb, g15, g19, g30, g43, k16, k20, k31, k44, k43⟩ K hK
        obtain ⟨f, rfl⟩ := upd (f := f) (show f 24 = true from q24)
        refine Great.wpList_runTo rfl _ rfl (badV (1 + d) N pa pb pc px 25) w' (by kernel_rfl) ?_
        exact hK _ _ ⟨pa, pb, pc, px, (by kernel_rfl), hb, g15, g19, g30, g43, k16, k20, k31, k44, k43⟩
      | 26, ho, hf =>
        simp only [List.getElem?_toArray, List.getElem?_cons_zero, List.getElem?_cons_succ, Option.some.injEq] at ho
        subst ho
        rintro ac w' ⟨pa, pb, pc, px, rfl, hb, g15, g19, g30, g43, k16, k20, k31, k44, k43⟩ K hK
        refine Great.wpList_runTo rfl _ rfl (badV (1 + d) N pa pb pc px 26) w' (by kernel_rfl) ?_
        exact hK _ _ ⟨pa, pb, pc, px, (by kernel_rfl), hb, g15, g19, g30, g43, k16, k20, k31, k44, k43⟩
      | 27, ho, hf =>
        simp only [List.getElem?_toArray, List.getElem?_cons_zero, List.getElem?_cons_succ, Option.some.injEq] at ho
        subst ho
        rintro ac w' ⟨pa, pb, pc, px, rfl, hb, g15, g19, g30, g43, k16, k20, k31, k44, k43⟩ K hK
        refine Great.wpList_runTo rfl _ rfl (.agg #[.int .i64 5, .int .i64 1, .int .i64 2, .int .i64 3, .bool false]) w' (run_loadI rfl (BI.out.below hb)) ?_
        exact hK _ _ ⟨pa, pb, pc, px, (by kernel_rfl), hb, g15, g19, g30, g43, k16, k20, k31, k44, k43⟩
      | 28, ho, hf =>
        simp only [List.getElem?_toArray, List.getElem?_cons_zero, List.getElem?_cons_succ, Option.some.injEq] at ho
        subst ho
        have q27 := hd ⟨27, .data⟩ (by simp) (by rfl)
        rintro ac w' ⟨pa, pb, pc, px, rfl, hb, g15, g19, g30, g43, k16, k20, k31, k44, k43⟩ K hK
        obtain ⟨f, rfl⟩ := upd (f := f) (show f 27 = true from q27)
        refine Great.wpList_runTo rfl _ rfl (badV (1 + d) N pa pb pc px 28) w' (by kernel_rfl) ?_
        exact hK _ _ ⟨pa, pb, pc, px, (by kernel_rfl), hb, g15, g19, g30, g43, k16, k20, k31, k44, k43⟩
      | 29, ho, hf =>
        simp only [List.getElem?_toArray, List.getElem?_cons_zero, List.getElem?_cons_succ, Option.some.injEq] at ho
        subst ho
        rintro ac w' ⟨pa, pb, pc, px, rfl, hb, g15, g19, g30, g43, k16, k20, k31, k44, k43⟩ K hK
        refine Great.wpList_runTo rfl _ rfl (.agg #[.int .i64 5, .int .i64 1, .int .i64 2, .int .i64 3, .bool false]) w' (run_loadI rfl (BI.out.below hb)) ?_
        exact hK _ _ ⟨pa, pb, pc, px, (by kernel_rfl), hb, g15, g19, g30, g43, k16, k20, k31, k44, k43⟩
      | 30, ho, hf =>
        simp only [List.getElem?_toArray, List.getElem?_cons_zero, List.getElem?_cons_succ, Option.some.injEq] at ho
        subst ho
        rintro ac w' ⟨pa, pb, pc, px, rfl, hb, g15, g19, g30, g43, k16, k20, k31, k44, k43⟩ K hK
        have z1 : f 31 = false := by
          cases hx : f 31 with
          | false => rfl
          | true => exact absurd (k31 hx) (by simp [hf])
        have z2 : f 43 = false := by
          cases hx : f 43 with
          | false => rfl
          | true => exact absurd ((k43 hx).2.2) (by simp [hf])
        obtain ⟨f, rfl⟩ := upd (f := f) (show f 31 = false from z1)
        obtain ⟨f, rfl⟩ := upd (f := f) (show f 43 = false from z2)
        refine Great.wpList_runTo rfl _ rfl (.slice (some ⟨w'.heap.size, 0, none⟩) 1 1) (w'.alloc (.cells #[.int .i64 3] 3)) (by kernel_rfl) ?_
        exact hK _ _ ⟨pa, pb, w'.heap.size, px, (by kernel_rfl), hb.onA _, fun q => (g15 q).alloc _, fun q => (g19 q).alloc _, fun _ => Box.new w' _ _, nofun, k16, k20, nofun, (fun q => absurd (k44 q) (by simp)), nofun⟩
      | 31, ho, hf =>
        simp only [List.getElem?_toArray, List.getElem?_cons_zero, List.getElem?_cons_succ, Option.some.injEq] at ho
        subst ho
        have q29 := hd ⟨29, .data⟩ (by simp) (by rfl)
        have q30 := hd ⟨30, .data⟩ (by simp) (by rfl)
        rintro ac w' ⟨pa, pb, pc, px, rfl, hb, g15, g19, g30, g43, k16, k20, k31, k44, k43⟩ K hK
        obtain ⟨f, rfl⟩ := upd (f := f) (show f 29 = true from q29)
        obtain ⟨f, rfl⟩ := upd (f := f) (show f 30 = true from q30)
        refine Great.wpList_runTo rfl _ rfl (badV (1 + d) N pa pb pc px 31) w' (by kernel_rfl) ?_
        exact hK _ _ ⟨pa, pb, pc, px, (by kernel_rfl), hb, g15, g19, g30, g43, k16, k20, (fun _ => rfl), k44, k43⟩
      | 32, ho, hf =>
        simp only [List.getElem?_toArray, List.getElem?_cons_zero, List.getElem?_cons_succ, Option.some.injEq] at ho
        subst ho
        rintro ac w' ⟨pa, pb, pc, px, rfl, hb, g15, g19, g30, g43, k16, k20, k31, k44, k43⟩ K hK
        refine Great.wpList_runTo rfl _ rfl (badV (1 + d) N pa pb pc px 32) w' (by kernel_rfl) ?_
        exact hK _ _ ⟨pa, pb, pc, px, (by kernel_rfl), hb, g15, g19, g30, g43, k16, k20, k31, k44, k43⟩
      | 33, ho, hf =>
        simp only [List.getElem?_toArray, List.getElem?_cons_zero, List.getElem?_cons_succ, Option.some.injEq] at ho
        subst ho
        have q32 := hd ⟨32, .data⟩ (by simp) (by rfl)
        rintro ac w' ⟨pa, pb, pc, px, rfl, hb, g15, g19, g30, g43, k16, k20, k31, k44, k43⟩ K hK
        obtain ⟨f, rfl⟩ := upd (f := f) (show f 32 = true from q32)
        refine Great.wpList_runTo rfl _ rfl (badV (1 + d) N pa pb pc px 33) w' (run_addc (x := 1 + d) (by kernel_rfl) (by kernel_rfl)) ?_
        exact hK _ _ ⟨pa, pb, pc, px, (by kernel_rfl), hb, g15, g19, g30, g43, k16, k20, k31, k44, k43⟩
      | 34, ho, hf =>
        simp only [List.getElem?_toArray, List.getElem?_cons_zero, List.getElem?_cons_succ, Option.some.injEq] at ho
        subst ho
        have q33 := hd ⟨33, .data⟩ (by simp) (by rfl)
        rintro ac w' ⟨pa, pb, pc, px, rfl, hb, g15, g19, g30, g43, k16, k20, k31, k44, k43⟩ K hK
        obtain ⟨f, rfl⟩ := upd (f := f) (show f 33 = true from q33)
        refine Great.wpList_runTo rfl _ rfl (badV (1 + d) N pa pb pc px 34) w' (by kernel_rfl) ?_
        exact hK _ _ ⟨pa, pb, pc, px, (by kernel_rfl), hb, g15, g19, g30, g43, k16, k20, k31, k44, k43⟩
      | 35, ho, hf =>
        simp only [List.getElem?_toArray, List.getElem?_cons_zero, List.getElem?_cons_succ, Option.some.injEq] at ho
        subst ho
        rintro ac w' ⟨pa, pb, pc, px, rfl, hb, g15, g19, g30, g43, k16, k20, k31, k44, k43⟩ K hK
        refine Great.wpList_runTo rfl _ rfl (.agg #[.int .i64 5, .int .i64 1, .int .i64 2, .int .i64 3, .bool false]) w' (run_loadI rfl (BI.out.below hb)) ?_
        exact hK _ _ ⟨pa, pb, pc, px, (by kernel_rfl), hb, g15, g19, g30, g43, k16, k20, k31, k44, k43⟩
      | 36, ho, hf =>
        simp only [List.getElem?_toArray, List.getElem?_cons_zero, List.getElem?_cons_succ, Option.some.injEq] at ho
        subst ho
        have q35 := hd ⟨35, .data⟩ (by simp) (by rfl)
        rintro ac w' ⟨pa, pb, pc, px, rfl, hb, g15, g19, g30, g43, k16, k20, k31, k44, k43⟩ K hK
        obtain ⟨f, rfl⟩ := upd (f := f) (show f 35 = true from q35)
        refine Great.wpList_runTo rfl _ rfl (badV (1 + d) N pa pb pc px 36) w' (by kernel_rfl) ?_
        exact hK _ _ ⟨pa, pb, pc, px, (by kernel_rfl), hb, g15, g19, g30, g43, k16, k20, k31, k44, k43⟩
      | 37, ho, hf =>
        simp only [List.getElem?_toArray, List.getElem?_cons_zero, List.getElem?_cons_succ, Option.some.injEq] at ho
        subst ho
        rintro ac w' ⟨pa, pb, pc, px, rfl, hb, g15, g19, g30, g43, k16, k20, k31, k44, k43⟩ K hK
        refine Great.wpList_runTo rfl _ rfl (.agg #[.int .i64 5, .int .i64 1, .int .i64 2, .int .i64 3, .bool false]) w' (run_loadI rfl (BI.out.below hb)) ?_
        exact hK _ _ ⟨pa, pb, pc, px, (by kernel_rfl), hb, g15, g19, g30, g43, k16, k20, k31, k44, k43⟩
      | 38, ho, hf =>
        simp only [List.getElem?_toArray, List.getElem?_cons_zero, List.getElem?_cons_succ, Option.some.injEq] at ho
        subst ho
        have q37 := hd ⟨37, .data⟩ (by simp) (by rfl)
        rintro ac w' ⟨pa, pb, pc, px, rfl, hb, g15, g19, g30, g43, k16, k20, k31, k44, k43⟩ K hK
        obtain ⟨f, rfl⟩ := upd (f := f) (show f 37 = true from q37)
        refine Great.wpList_runTo rfl _ rfl (badV (1 + d) N pa pb pc px 38) w' (by kernel_rfl) ?_
        exact hK _ _ ⟨pa, pb, pc, px, (by kernel_rfl), hb, g15, g19, g30, g43, k16, k20, k31, k44, k43⟩
      | 39, ho, hf =>
        simp only [List.getElem?_toArray, List.getElem?_cons_zero, List.getElem?_cons_succ, Option.some.injEq] at ho
        subst ho
        rintro ac w' ⟨pa, pb, pc, px, rfl, hb, g15, g19, g30, g43, k16, k20, k31, k44, k43⟩ K hK
        refine Great.wpList_runTo rfl _ rfl (badV (1 + d) N pa pb pc px 39) w' (by kernel_rfl) ?_
        exact hK _ _ ⟨pa, pb, pc, px, (by kernel_rfl), hb, g15, g19, g30, g43, k16, k20, k31, k44, k43⟩
      | 40, ho, hf =>
        simp only [List.getElem?_toArray, List.getElem?_cons_zero, List.getElem?_cons_succ, Option.some.injEq] at ho
        subst ho
        rintro ac w' ⟨pa, pb, pc, px, rfl, hb, g15, g19, g30, g43, k16, k20, k31, k44, k43⟩ K hK
        refine Great.wpList_runTo rfl _ rfl (badV (1 + d) N pa pb pc px 40) w' (by kernel_rfl) ?_
        exact hK _ _ ⟨pa, pb, pc, px, (by kernel_rfl), hb, g15, g19, g30, g43, k16, k20, k31, k44, k43⟩
      | 41, ho, hf =>
        simp only [List.getElem?_toArray, List.getElem?_cons_zero, List.getElem?_cons_succ, Option.some.injEq] at ho
        subst ho
        have q40 := hd ⟨40, .data⟩ (by simp) (by rfl)
        rintro ac w' ⟨pa, pb, pc, px, rfl, hb, g15, g19, g30, g43, k16, k20, k31, k44, k43⟩ K hK
        obtain ⟨f, rfl⟩ := upd (f := f) (show f 40 = true from q40)
        refine Great.wpList_runTo rfl _ rfl (badV (1 + d) N pa pb pc px 41) w' (run_neg (x := 1 + d) (by kernel_rfl)) ?_
        exact hK _ _ ⟨pa, pb, pc, px, (by kernel_rfl), hb, g15, g19, g30, g43, k16, k20, k31, k44, k43⟩
      | 42, ho, hf =>
        simp only [List.getElem?_toArray, List.getElem?_cons_zero, List.getElem?_cons_succ, Option.some.injEq] at ho
        subst ho
        have q41 := hd ⟨41, .data⟩ (by simp) (by rfl)
        rintro ac w' ⟨pa, pb, pc, px, rfl, hb, g15, g19, g30, g43, k16, k20, k31, k44, k43⟩ K hK
        obtain ⟨f, rfl⟩ := upd (f := f) (show f 41 = true from q41)
        refine Great.wpList_runTo rfl _ rfl (badV (1 + d) N pa pb pc px 42) w' (by kernel_rfl) ?_
        exact hK _ _ ⟨pa, pb, pc, px, (by kernel_rfl), hb, g15, g19, g30, g43, k16, k20, k31, k44, k43⟩
      | 43, ho, hf =>
        simp only [List.getElem?_toArray, List.getElem?_cons_zero, List.getElem?_cons_succ, Option.some.injEq] at ho
        subst ho
        have q2 := hd ⟨2, .data⟩ (by simp) (by rfl)
        have q5 := hd ⟨5, .data⟩ (by simp) (by rfl)
        have q8 := hd ⟨8, .data⟩ (by simp) (by rfl)
        have q11 := hd ⟨11, .data⟩ (by simp) (by rfl)
        have q12 := hd ⟨12, .data⟩ (by simp) (by rfl)
        have q16 := hd ⟨16, .data⟩ (by simp) (by rfl)
        have q20 := hd ⟨20, .data⟩ (by simp) (by rfl)
        have q22 := hd ⟨22, .data⟩ (by simp) (by rfl)
        have q23 := hd ⟨23, .data⟩ (by simp) (by rfl)
        have q25 := hd ⟨25, .data⟩ (by simp) (by rfl)
        have q26 := hd ⟨26, .data⟩ (by simp) (by rfl)
        have q28 := hd ⟨28, .data⟩ (by simp) (by rfl)
        have q31 := hd ⟨31, .data⟩ (by simp) (by rfl)
        have q34 := hd ⟨34, .data⟩ (by simp) (by rfl)
        have q36 := hd ⟨36, .data⟩ (by simp) (by rfl)
        have q38 := hd ⟨38, .data⟩ (by simp) (by rfl)
        have q39 := hd ⟨39, .data⟩ (by simp) (by rfl)
        have q42 := hd ⟨42, .data⟩ (by simp) (by rfl)
        rintro ac w' ⟨pa, pb, pc, px, rfl, hb, g15, g19, g30, g43, k16, k20, k31, k44, k43⟩ K hK
        have z1 : f 44 = false := by
          cases hx : f 44 with
          | false => rfl
          | true => exact absurd (k44 hx) (by simp [hf])
        have r15 := k16 q16
        have r19 := k20 q20
        have r30 := k31 q31
        obtain ⟨f, rfl⟩ := upd (f := f) (show f 2 = true from q2)
        obtain ⟨f, rfl⟩ := upd (f := f) (show f 5 = true from q5)
        obtain ⟨f, rfl⟩ := upd (f := f) (show f 8 = true from q8)
        obtain ⟨f, rfl⟩ := upd (f := f) (show f 11 = true from q11)
        obtain ⟨f, rfl⟩ := upd (f := f) (show f 12 = true from q12)
        obtain ⟨f, rfl⟩ := upd (f := f) (show f 16 = true from q16)
        obtain ⟨f, rfl⟩ := upd (f := f) (show f 20 = true from q20)
        obtain ⟨f, rfl⟩ := upd (f := f) (show f 22 = true from q22)
        obtain ⟨f, rfl⟩ := upd (f := f) (show f 23 = true from q23)
        obtain ⟨f, rfl⟩ := upd (f := f) (show f 25 = true from q25)
        obtain ⟨f, rfl⟩ := upd (f := f) (show f 26 = true from q26)
        obtain ⟨f, rfl⟩ := upd (f := f) (show f 28 = true from q28)
        obtain ⟨f, rfl⟩ := upd (f := f) (show f 31 = true from q31)
        obtain ⟨f, rfl⟩ := upd (f := f) (show f 34 = true from q34)
        obtain ⟨f, rfl⟩ := upd (f := f) (show f 36 = true from q36)
        obtain ⟨f, rfl⟩ := upd (f := f) (show f 38 = true from q38)
        obtain ⟨f, rfl⟩ := upd (f := f) (show f 39 = true from q39)
        obtain ⟨f, rfl⟩ := upd (f := f) (show f 42 = true from q42)
        obtain ⟨f, rfl⟩ := upd (f := f) (show f 44 = false from z1)
        refine Great.wpList_runTo rfl _ rfl (.slice (some ⟨w'.heap.size, 0, none⟩) 18 18) (w'.alloc (.cells (badC (1 + d) N pa pb pc) 28)) (by kernel_rfl) ?_
        exact hK _ _ ⟨pa, pb, pc, w'.heap.size, (by kernel_rfl), hb.onA _, (fun q => (g15 q).alloc _), (fun q => (g19 q).alloc _), (fun q => (g30 q).alloc _), (fun _ => Box.new w' _ _), k16, k20, k31, nofun, fun _ => ⟨r15, r19, r30⟩⟩
      | 44, ho, hf =>
        simp only [List.getElem?_toArray, List.getElem?_cons_zero, List.getElem?_cons_succ, Option.some.injEq] at ho
        subst ho
        have q43 := hd ⟨43, .data⟩ (by simp) (by rfl)
        rintro ac w' ⟨pa, pb, pc, px, rfl, hb, g15, g19, g30, g43, k16, k20, k31, k44, k43⟩ K hK
        obtain ⟨f, rfl⟩ := upd (f := f) (show f 43 = true from q43)
        refine Great.wpList_runTo rfl _ rfl (badV (1 + d) N pa pb pc px 44) w' (by kernel_rfl) ?_
        exact hK _ _ ⟨pa, pb, pc, px, (by kernel_rfl), hb, g15, g19, g30, g43, k16, k20, k31, (fun _ => rfl), k43⟩
      | j + 45, ho, hf => simp at ho
    · rintro f ac w' hf ⟨pa, pb, pc, px, rfl, hb, g15, g19, g30, g43, k16, k20, k31, k44, k43⟩
      have hx : ∀ i, i < 45 → f i = true := fun i hi => hf i (by simpa using hi)
      have q44 := hx 44 (by omega)
      obtain ⟨r15, r19, r30⟩ := k43 (hx 43 (by omega))
      have X := bad_at (e := 1 + d) (by omega) (by omega) hN (g43 (hx 43 (by omega))) (g15 r15) (g19 r19) (g30 r30) r hr1
      clear hx hf g15 g19 g30 g43 k16 k20 k31 k44 k43 r15 r19 r30
      obtain ⟨f, rfl⟩ := upd (f := f) q44
      refine hMet _ _ ?_
      go_meet
      exact ⟨px, rfl, hb, X⟩
  case rest =>
    obtain ⟨px, rfl, hb, X⟩ := hcut
    obtain ⟨n, a, b, p, m, c, k, tk, tc, tu, tx, tg, h, is, c0, c1, c2, c3, c4, c5, c6, c7, c8, c9, c10, R, hm⟩ := X.out
    replace R := toHid R
    replace hm := toHid hm
    clear X mk hN
    go_wp2_with (first
      | (go_at_call 7; refine (mMay_is R.out hm.out).mono ?_; rintro e w4 ⟨rfl, h4⟩)
      | (go_at_call 10; refine (num_any _ _).mono ?_; rintro e w' ⟨rfl, hw'⟩; subst w'))
    go_ret
    exact ⟨rfl, (hB.out.on hb).on h4⟩

/-! ### The row's step -/
set_option maxRecDepth 100000 in
theorem lifted (os : Os) (started : os.Started) (H : Type) (enc : TypeId × Value → H) :
    ReturnsInHanded {} Try.checked os 4 .any (Rows.msgFormsSpec.pre6 enc Try.prog Try.f4 Rows.msgFormsRow.domain false) (Rows.msgFormsSpec.post enc Try.prog Try.f4 false true false false) := by
  refine returnsInHanded_of_change_sized (C := Try.checked) ownK started (by kernel_rfl) Try.func4
    (ChangeSpec.witness6 (enc := enc) (C := Try.checked) false ⟨#[], #[.int .i64 0, .int .i64 0], []⟩ 8 (by kernel_rfl) (by kernel_rfl) (by kernel_rfl) (by kernel_rfl)) ?_
  intro W base args ds gs before hval0 hW hcnd hsz0 _
  have hsz : (DataW.weightsEach Try.prog (Try.f4.params.toList ++ Rows.msgFormsSpec.plain.varTypes Try.prog) (ds ++ gs)).all (· ≤ reachBytes) = true := hsz0
  have hval : ∀ (j : Nat) t v, Try.f4.params[j]? = some t → args[j]? = some v → Value.okWide Try.prog W .any base t v := hval0
  have hW' := hW
  obtain ⟨p, q, hA0, hV, rfl, hfz, hnd⟩ := hW
  have hA : DataW.TrodAll enc Try.prog W 0 (fun _ => true) true Try.f4.params.toList args.toList ds p := hA0
  rw [Try.params4] at hA hval hsz
  obtain ⟨v0, vs0, d0, ds0, p0, q0, hargs, rfl, rfl, h0, r0⟩ := trodAll_cons hA
  obtain ⟨v1, vs1, d1, ds1, p1, q1, rfl, rfl, rfl, h1, r1⟩ := trodAll_cons r0
  obtain ⟨rfl, rfl, rfl⟩ := trodAll_nil r1
  obtain rfl : args = #[v0, v1] := by cases args; simp_all
  obtain ⟨rfl, rfl⟩ := trodVars_none hV
  clear r0 r1
  have k0 := h0
  have lt0 : ∀ x ∈ p0, x.block < W.heap.size := by obtain ⟨m, hm⟩ := k0; exact DataW.trod_lt m _ _ _ hm
  have k1 := h1
  have lt1 : ∀ x ∈ p1, x.block < W.heap.size := by obtain ⟨m, hm⟩ := k1; exact DataW.trod_lt m _ _ _ hm
  obtain ⟨a0, rfl, rfl, rfl, w0⟩ := open_int Try.underlying3 (hval 0 3 v0 rfl rfl) h0
  obtain ⟨a1, rfl, rfl, rfl, w1⟩ := open_int Try.underlying3 (hval 1 3 v1 rfl rfl) h1
  clear hA0 hval0
  refine (walk a0 a1 W w0 w1).mono fun e W' ⟨he, bel⟩ => ?_
  subst he
  exact ⟨_, rfl, _, _, _, [], _, [], hW', trodAll_mk1 (shut_bool Try.underlying4 _), (trodAll_cons_mk (Below.trod laidOut (by kernel_rfl) (of_decide_eq_true (by kernel_rfl)) k0 bel lt0) (trodAll_cons_mk (Below.trod laidOut (by kernel_rfl) (of_decide_eq_true (by kernel_rfl)) k1 bel lt1) trodAll_mk0)), rfl, bel.frame _, fun h => by cases h⟩

theorem over : Rows.msgFormsRow.holds Try.pinned (OpenSpec.ofChange Rows.msgFormsSpec) :=
  OpenClaim.holds_of_wide 4 Try.f4 rfl rfl rfl rfl rfl rfl rfl ⟨rfl, rfl, rfl, rfl, rfl⟩ rfl rfl rfl rfl rfl (by kernel_rfl) Try.func4 (by kernel_rfl)
    (of_decide_eq_true (by kernel_rfl)) (by unfold Func.isWrapper; first | (rw [if_pos (by decide +kernel)]; kernel_rfl) | (rw [if_neg (by decide +kernel)]; exact ⟨rfl, rfl⟩))
    (fun os started H enc _ => lifted os started H enc)

end Go.Proofs.Ytpbjlomlkjkedaa.msgForms

namespace Go.Proofs.Ytpbjlomlkjkedaa
/-- The statement, by its short name. -/
theorem msgForms_holds : Rows.MsgFormsSaid := msgForms.over
#print axioms msgForms_holds
end Go.Proofs.Ytpbjlomlkjkedaa
