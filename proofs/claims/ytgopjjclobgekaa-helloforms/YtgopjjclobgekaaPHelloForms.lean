
/-
  The statement HelloForms: a view that may not be, a number that is no place or the node itself, a list with such a number or one too long: each greeting is answered by the error of the form.
-/
import Derived.Test.YtgopjjclobgekaaRows
import Derived.Test.YtgopjjclobgekaaOpen
import Derived.Test.YtgopjjclobgekaaHelloLaw
import Derived.Deep.DeepCutAuto
import Derived.Deep.CutRange
import Derived.Deep.CutBlock
import Derived.Test.YtgopjjclobgekaaOld
namespace Go.Proofs.Ytgopjjclobgekaa.helloForms
open Go.ChangeShapes Go.WideShapes Go.ChangeAt Go.RowKit
set_option linter.unusedVariables false

/-! ### The walk -/
theorem w64i {n : Int} (h0 : -2000 ≤ n) (h1 : n ≤ 2000) : IntKind.i64.wrap n = n := by
  rw [IntKind.wrap_i64]
  omega
theorem vw_allocS {lo : Nat} {w : World} {p q : Value} {ps : List Pe} {is : List Int} (h : VwAt lo w.heap.size w p q ps is) (o : Obj) : VwAt lo (w.alloc o).heap.size (w.alloc o) p q ps is := (h.alloc o).wide (Nat.le_refl _) (by simp)
theorem bad_from {i y : Int} {s : VSt} {ids : List Int} (h : plB y = false ∨ y = i) : heB i s y ids = false := by
  rw [Bool.eq_false_iff]
  intro e
  obtain ⟨-, h2, h3, -, -⟩ := heB_iff.1 e
  rcases h with h | h
  · rw [h] at h2
    cases h2
  · exact h3 h
theorem bad_named {i d y : Int} {s : VSt} {ids : List Int} (hy : y ∈ ids) (h : plB y = false) : heB i s d ids = false := by
  rw [Bool.eq_false_iff]
  intro e
  have := plsB_mem (heB_iff.1 e).2.2.2.1 y hy
  rw [h] at this
  cases this
theorem bad_many {i d : Int} {s : VSt} {ids : List Int} (h : 16 < ids.length) : heB i s d ids = false := by
  rw [Bool.eq_false_iff]
  intro e
  have := (heB_iff.1 e).2.2.2.2
  omega

def madeC (N : Nat) : Array Value := madeCells (Value.int .i64 0).cells (N * 1)
theorem madeC_at {N j : Nat} (hj : j < N) : (madeC N)[j]? = some (.int .i64 0) := by
  have e : (madeC N).toList = List.replicate N (Value.int .i64 0) := by
    unfold madeC
    rw [Nat.mul_one]
    exact toList_madeCells_one _ N
  rw [← Array.getElem?_toList, e]
  simp [hj]
theorem made_any {n : Int} {N : Nat} (hN : n = (N : Int)) (hb : N ≤ 4096) (W : World) :
    (Instr.makeSlice 23 (.int .i64 n) (.int .i64 n)).run Try.prog W = .ok (.slice (some ⟨W.heap.size, 0, none⟩) N N) (W.alloc (.cells (madeC N) 3)) := by
  obtain ⟨i0, hi, hz0, hz1, hz2⟩ := info_parts Try.info3
  subst hN
  have hr := run_make (P := Try.prog) W 23 3 i0 (.int .i64 0) Try.underlying23 hi hz0 .i64 .i64 N N (by omega) (Int.le_refl _) (by rw [hz2]; omega) (by omega)
  rw [hz1, Int.toNat_natCast] at hr
  exact hr
theorem rowI_made {W : World} {b N : Nat} (hN : N ≤ 4096) (h : Box W b (madeC N)) : RowI 0 W.heap.size W (.slice (some ⟨b, 0, none⟩) N N) (List.replicate N 0) := by
  refine ⟨_, N, by rw [List.length_replicate], ⟨by rw [List.length_replicate]; exact Nat.le_refl _, fun h => by cases h⟩, by unfold maxLen; omega, fun _ => ⟨b, 0, rfl, Nat.zero_le _, h.1, fun j hj => ⟨?_, ?_⟩⟩⟩
  · rw [List.length_replicate] at hj
    rw [Nat.zero_add, h.2.1 j, madeC_at hj]
    simp [List.getD, hj]
  · rw [Nat.zero_add]
    exact h.2.2 j

theorem rowI_pair {W : World} {b : Nat} {x y : Int} (h : Box W b #[.int .i64 x, .int .i64 y]) : RowI 0 W.heap.size W (.slice (some ⟨b, 0, none⟩) 2 2) [x, y] :=
  (Box.rowI [x, y] h rfl rfl (by simp [maxLen])).wide (Nat.zero_le _) h.1

set_option maxRecDepth 20000 in
set_option maxHeartbeats 8000000 in
theorem walk (a0 : Int) (a1 : Int) (w : World) (w0 : (Lit.int .i64 a0).wf = true) (w1 : (Lit.int .i64 a1).wf = true) :
    Calls Try.prog 5 #[.int .i64 a0, .int .i64 a1] w fun e w' => e = .returned (.bool true) ∧ Below w.heap.size w w' := by
  have ed : bits .and .i64 a1 1023 = a1 % 1024 := and1023 a1
  have e1 : bits .and .i64 a0 1 = a0 % 2 := and1 a0
  obtain ⟨d, hd⟩ : ∃ x, x = a1 % 1024 := ⟨_, rfl⟩
  have d0 : 0 ≤ d := by omega
  have d1 : d < 1024 := by omega
  rw [← hd] at ed
  obtain ⟨r2, hr1⟩ : ∃ r : Nat, (r : Int) = a0 % 2 := ⟨(a0 % 2).toNat, by omega⟩
  have hr2 : r2 < 2 := by omega
  rw [← hr1] at e1
  obtain ⟨r3, h3⟩ : ∃ r : Nat, r = (a0 % 18446744073709551616).toNat % 3 := ⟨_, rfl⟩
  have e3 : (IntKind.u64.wrap a0).tmod 3 = (r3 : Int) := rem_u64 a0 3 r3 h3
  have hr3 : r3 < 3 := by omega
  clear hd hr1 h3 w0 w1
  have k2 : (r2 : Int) < 2 := by omega
  have k3 : (r3 : Int) < 3 := by omega
  obtain ⟨y, hy, hyb⟩ : ∃ y : Int, ([.int .i64 (-(1 + d)), .int .i64 (255 + (1 + d)), .int .i64 100] : List Value)[r3]'(by simpa using hr3) = .int .i64 y ∧ Hid (plB y = false ∨ y = 100) := by
    match r3, hr3 with
    | 0, _ => exact ⟨_, rfl, toHid (.inl (by simp [plB]; omega))⟩
    | 1, _ => exact ⟨_, rfl, toHid (.inl (by simp [plB]; omega))⟩
    | 2, _ => exact ⟨_, rfl, toHid (.inr rfl)⟩
  obtain ⟨z, hz, hzb⟩ : ∃ y : Int, ([.int .i64 (-(1 + d)), .int .i64 (255 + (1 + d))] : List Value)[r2]'(by simpa using hr2) = .int .i64 y ∧ Hid (plB y = false) := by
    match r2, hr2 with
    | 0, _ => exact ⟨_, rfl, toHid (by simp [plB]; omega)⟩
    | 1, _ => exact ⟨_, rfl, toHid (by simp [plB]; omega)⟩
  -- the four greetings, none of which may be
  have K : Hid (∀ (W : World) (p q x : Value) (i d : Int) (ps : List Pe) (is ids : List Int), VwAt 0 W.heap.size W p q ps is → RowI 0 W.heap.size W x ids → heB i (ps, is) d ids = false →
      Calls Try.prog 12 #[.agg #[.int .i64 i, p, q], .int .i64 d, x] W fun e w' => ∃ a c a' c', e = .returned (.tuple #[.agg #[.int .i64 0, .slice a 0 c, .slice a' 0 c'], .int .i64 1000]) ∧ Below W.heap.size W w') := toHid fun W p q x i d ps is ids h R hB => by
    obtain ⟨f1, f2, f3⟩ := he_no hB
    exact (hTake_at (n1 := 0) (n2 := 0) h (Nat.le_refl _) R (Nat.le_refl _) f1 f2 f3 rfl rfl).mono fun e w' ⟨a, c, a', c', he, _, hb⟩ => ⟨a, c, a', c', he, hb⟩
  have K1 : Hid (heB 100 (g10P, [200]) 150 [] = false) := toHid (by decide +kernel)
  have K2 : Hid (heB 100 (g10P, g10Q) y [] = false) := toHid (bad_from hyb.out)
  have K3 : Hid (heB 100 (g10P, g10Q) 150 [5, z] = false) := toHid (bad_named (y := z) (by simp) hzb.out)
  clear hyb hzb
  go_enter Try.func5, Try.ntmps5
  go_upto_region 7 with (first
    | (go_at_call 18; refine (awake10_any _).mono ?_; rintro e w1 ⟨rfl, h1⟩)
    | (go_at_call 21; refine (given10_any _).mono ?_; rintro e w2 ⟨ga, gb, rfl, V2, h2⟩)
    | (go_at_call 12
       refine (K.out _ _ _ _ _ _ _ _ _ (⟨((V2.ps.alloc _ PeV_len).alloc _ PeV_len).wide (Nat.zero_le _) (by simp; omega), (Box.rowI (n := 1) [200] (Box.newAt (n := w2.heap.size + 1) #[.int .i64 200] 3 (by simp)) rfl rfl (by decide)).wide (Nat.zero_le _) (by simp)⟩ : VwAt 0 _ _ _ _ g10P [200]) RowI.nil0 K1.out).mono ?_; rintro e w3 ⟨a3, c3, a3', c3', rfl, h4⟩))
  have hB := toHid (((((h1.on h2).onA _).onA _).on h4).onA (.cells #[.int .i64 0, .slice a3 0 c3, .slice a3' 0 c3'] 25))
  clear h1 h2 h4 V2 K1
  generalize w3.alloc (.cells #[.int .i64 0, .slice a3 0 c3, .slice a3' 0 c3'] 25) = wA at hB ⊢
  have y5 := w64i (n := -(1 + d)) (by omega) (by omega)
  have y6 := w64i (n := 255 + (1 + d)) (by omega) (by omega)
  have y7 := w64i (n := (r3 : Int)) (by omega) (by omega)
  go_cut [9, 10] from 28 to 43 (fun v9 v10 wx => v10 = .int .i64 1000 ∧ Below w.heap.size w wx)
  case first =>
    clear K3 hz e1 k2
    go_region_with (first
      | (go_at_call 21; refine (given10_any _).mono ?_; rintro e w6 ⟨pa, pb, rfl, V6, h6⟩
         replace V6 := toHid (V6.wide (Nat.zero_le _) (Nat.le_refl _))
         have hc6 := (bcell h6).1
         have hf6 := (bcell h6).2
         first | (have hz6 : wA.heap.size < w6.heap.size := by have := h6.size; simp at this; omega) | skip
         first | (have hz6' : wA.heap.size + 1 < w6.heap.size := by have := h6.size; simp at this; omega) | skip
         first | (have hz6'' : wA.heap.size + 1 + 1 < w6.heap.size := by have := h6.size; simp at this; omega) | skip
         replace h6 := toHid h6)
      | (go_at_call 12; refine (K.out _ _ _ _ _ _ _ _ _ ?_ RowI.nil0 K2.out).mono ?_
         · first
             | exact V6.out
             | simpa using V6.out
             | exact vw_allocS V6.out _
             | exact vw_allocS (vw_allocS V6.out _) _
             | exact vw_allocS (vw_allocS (vw_allocS V6.out _) _) _
         rintro e w7 ⟨a7, c7, a7', c7', rfl, h7⟩
         have hc7 := (bcell h7).1
         have hf7 := (bcell h7).2
         replace h7 := toHid h7))
    all_goals (go_wp2_with fail; go_meet)
    all_goals
      refine ⟨rfl, ?_⟩
      have q1 := hB.out.size
      have q2 := h6.out.size
      try simp at q2
      repeat (first
        | exact hB.out
        | exact hB.out.onD 1
        | exact (hB.out.onA _).onD 1
        | exact ((hB.out.onA _).onA _).onD 1
        | exact (((hB.out.onA _).onA _).onA _).onD 1
        | refine Below.onA ?_ _
        | refine Below.setCell ?_ (by dsimp only; omega) _
        | refine Below.on ?_ h7.out
        | refine Below.on ?_ h6.out)
  case rest =>
    obtain ⟨rfl, hB'⟩ := hcut
    clear hB
    have hB := toHid hB'
    clear hB' K2 hy k3 e3 y7
    have y8 := w64i (n := (r2 : Int)) (by omega) (by omega)
    go_upto_region 8 with (fail)
    go_cut [11, 12] from 44 to 58 (fun v11 v12 wx => v12 = .int .i64 1000 ∧ Below w.heap.size w wx)
    case first =>
      go_region_with (first
        | (go_at_call 21; refine (given10_any _).mono ?_; rintro e w6 ⟨pa, pb, rfl, V6, h6⟩
           replace V6 := toHid (V6.wide (Nat.zero_le _) (Nat.le_refl _))
           have hc6 := (bcell h6).1
           have hf6 := (bcell h6).2
           first | (have hz6 : wc.heap.size < w6.heap.size := by have := h6.size; simp at this; omega) | skip
           first | (have hz6' : wc.heap.size + 1 < w6.heap.size := by have := h6.size; simp at this; omega) | skip
           first | (have hz6'' : wc.heap.size + 1 + 1 < w6.heap.size := by have := h6.size; simp at this; omega) | skip
           first | (have hz6a : wc.heap.size < w6.heap.size + 1 := by have := h6.size; simp at this; omega) | skip
           first | (have hz6b : wc.heap.size < w6.heap.size + 1 + 1 := by have := h6.size; simp at this; omega) | skip
           replace h6 := toHid h6)
        | (go_at_call 12; refine (K.out _ _ _ _ _ _ _ _ _ ?_ ?_ K3.out).mono ?_
           · first
               | exact V6.out
               | simpa using V6.out
               | exact vw_allocS V6.out _
               | exact vw_allocS (vw_allocS V6.out _) _
               | exact vw_allocS (vw_allocS (vw_allocS V6.out _) _) _
           · first
               | exact rowI_pair (Box.newAt _ _ (by simp))
               | exact rowI_pair ((Box.newAt _ _ (by simp)).alloc _)
               | exact rowI_pair ((Box.newAt _ _ (by simp)).below h6.out)
               | exact rowI_pair (((Box.newAt _ _ (by simp)).alloc _).below h6.out)
               | exact rowI_pair (((Box.newAt _ _ (by simp)).below h6.out).alloc _)
               | exact rowI_pair (((Box.newAt _ _ (by simp)).drewN 1).below h6.out)
               | exact rowI_pair ((((Box.newAt _ _ (by simp)).alloc _).drewN 1).below h6.out)
               | exact rowI_pair ((((Box.newAt _ _ (by simp)).drewN 1).below h6.out).alloc _)
           rintro e w7 ⟨a7, c7, a7', c7', rfl, h7⟩
           have hc7 := (bcell h7).1
           have hf7 := (bcell h7).2
           replace h7 := toHid h7))
      all_goals (go_wp2_with fail; go_meet)
      all_goals
        refine ⟨rfl, ?_⟩
        have q1 := hB.out.size
        have q2 := h6.out.size
        try simp at q2
        repeat (first
          | exact hB.out
          | exact hB.out.onD 1
          | exact (hB.out.onA _).onD 1
          | exact ((hB.out.onA _).onA _).onD 1
          | exact (((hB.out.onA _).onA _).onA _).onD 1
          | refine Below.onA ?_ _
          | refine Below.setCell ?_ (by dsimp only; omega) _
          | refine Below.on ?_ h7.out
          | refine Below.on ?_ h6.out)
    case rest =>
      obtain ⟨rfl, hB'⟩ := hcut
      clear hB
      have hB := toHid hB'
      clear hB' K3 hz e1 k2 y8 y5 y6
      obtain ⟨N, hN⟩ : ∃ N : Nat, 16 + (1 + d) = (N : Int) := ⟨(16 + (1 + d)).toNat, by omega⟩
      have hN2 : N ≤ 4096 := by omega
      have hmk := made_any hN hN2
      have K4 : Hid (heB 100 (g10P, g10Q) 150 (List.replicate N 0) = false) := toHid (bad_many (by rw [List.length_replicate]; omega))
      replace hN2 := toHid hN2
      replace hN := toHid hN
      have y9 := w64i (n := 16 + (1 + d)) (by omega) (by omega)
      go_upto_region 9 with (fail)
      go_cut [13, 14] from 59 to 66 (fun v13 v14 wx => v14 = .int .i64 1000 ∧ Below w.heap.size w wx)
      case first =>
        go_region_with (first
          | (go_at_call 21; refine (given10_any _).mono ?_; rintro e w6 ⟨pa, pb, rfl, V6, h6⟩
             replace V6 := toHid (V6.wide (Nat.zero_le _) (Nat.le_refl _))
             have hc6 := (bcell h6).1
             have hf6 := (bcell h6).2
             first | (have hz6 : wc.heap.size < w6.heap.size := by have := h6.size; simp at this; omega) | skip
             first | (have hz6' : wc.heap.size + 1 < w6.heap.size := by have := h6.size; simp at this; omega) | skip
             first | (have hz6'' : wc.heap.size + 1 + 1 < w6.heap.size := by have := h6.size; simp at this; omega) | skip
             replace h6 := toHid h6)
          | (go_at_call 12; refine (K.out _ _ _ _ _ _ _ _ _ ?_ ?_ K4.out).mono ?_
             · first
                 | exact V6.out
                 | simpa using V6.out
                 | exact vw_allocS V6.out _
                 | exact vw_allocS (vw_allocS V6.out _) _
                 | exact vw_allocS (vw_allocS (vw_allocS V6.out _) _) _
             · first
                 | exact rowI_made hN2.out (Box.newAt _ _ (by simp))
                 | exact rowI_made hN2.out ((Box.newAt _ _ (by simp)).alloc _)
                 | exact rowI_made hN2.out ((Box.newAt _ _ (by simp)).below h6.out)
                 | exact rowI_made hN2.out (((Box.newAt _ _ (by simp)).alloc _).below h6.out)
                 | exact rowI_made hN2.out (((Box.newAt _ _ (by simp)).below h6.out).alloc _)
                 | exact rowI_made hN2.out (((Box.newAt _ _ (by simp)).drewN 1).below h6.out)
                 | exact rowI_made hN2.out ((((Box.newAt _ _ (by simp)).alloc _).drewN 1).below h6.out)
                 | exact rowI_made hN2.out ((((Box.newAt _ _ (by simp)).drewN 1).below h6.out).alloc _)
             rintro e w7 ⟨a7, c7, a7', c7', rfl, h7⟩
             have hc7 := (bcell h7).1
             have hf7 := (bcell h7).2
             replace h7 := toHid h7))
        all_goals (go_wp2_with fail; go_meet)
        all_goals
          refine ⟨rfl, ?_⟩
          have q1 := hB.out.size
          have q2 := h6.out.size
          try simp at q2
          repeat (first
            | exact hB.out
            | exact hB.out.onD 1
            | exact (hB.out.onA _).onD 1
            | exact ((hB.out.onA _).onA _).onD 1
            | exact (((hB.out.onA _).onA _).onA _).onD 1
            | refine Below.onA ?_ _
            | refine Below.setCell ?_ (by dsimp only; omega) _
            | refine Below.on ?_ h7.out
            | refine Below.on ?_ h6.out)
      case rest =>
        obtain ⟨rfl, hB'⟩ := hcut
        go_wp2_with (first
          | (go_at_call 15; refine (num_any _ _).mono ?_; rintro e w' ⟨rfl, hw'⟩; subst w'))
        go_ret
        exact ⟨rfl, hB'⟩

/-! ### The row's step -/
set_option maxRecDepth 100000 in
theorem lifted (os : Os) (started : os.Started) (H : Type) (enc : TypeId × Value → H) :
    ReturnsInHanded {} Try.checked os 5 .any (Rows.helloFormsSpec.pre6 enc Try.prog Try.f5 Rows.helloFormsRow.domain false) (Rows.helloFormsSpec.post enc Try.prog Try.f5 false true false false) := by
  refine returnsInHanded_of_change_sized (C := Try.checked) ownK started (by kernel_rfl) Try.func5
    (ChangeSpec.witness6 (enc := enc) (C := Try.checked) false ⟨#[], #[.int .i64 0, .int .i64 0], []⟩ 8 (by kernel_rfl) (by kernel_rfl) (by kernel_rfl) (by kernel_rfl)) ?_
  intro W base args ds gs before hval0 hW hcnd hsz0 _
  have hsz : (DataW.weightsEach Try.prog (Try.f5.params.toList ++ Rows.helloFormsSpec.plain.varTypes Try.prog) (ds ++ gs)).all (· ≤ reachBytes) = true := hsz0
  have hval : ∀ (j : Nat) t v, Try.f5.params[j]? = some t → args[j]? = some v → Value.okWide Try.prog W .any base t v := hval0
  have hW' := hW
  obtain ⟨p, q, hA0, hV, rfl, hfz, hnd⟩ := hW
  have hA : DataW.TrodAll enc Try.prog W 0 (fun _ => true) true Try.f5.params.toList args.toList ds p := hA0
  rw [Try.params5] at hA hval hsz
  obtain ⟨v0, vs0, d0, ds0, p0, q0, hargs, rfl, rfl, h0, r0⟩ := trodAll_cons hA
  obtain ⟨v1, vs1, d1, ds1, p1, q1, rfl, rfl, rfl, h1, r1⟩ := trodAll_cons r0
  obtain ⟨rfl, rfl, rfl⟩ := trodAll_nil r1
  obtain rfl : args = #[v0, v1] := by cases args; simp_all
  obtain ⟨rfl, rfl⟩ := trodVars_none hV
  clear r0 r1
  have k0 := h0
  have lt0 : ∀ x ∈ p0, x.block < W.heap.size := by obtain ⟨m, hm⟩ := k0; exact DataW.trod_lt m _ _ _ hm
  have k1 := h1
  have lt1 : ∀ x ∈ p1, x.block < W.heap.size := by obtain ⟨m, hm⟩ := k1; exact DataW.trod_lt m _ _ _ hm
  obtain ⟨a0, rfl, rfl, rfl, w0⟩ := open_int Try.underlying3 (hval 0 3 v0 rfl rfl) h0
  obtain ⟨a1, rfl, rfl, rfl, w1⟩ := open_int Try.underlying3 (hval 1 3 v1 rfl rfl) h1
  clear hA0 hval0
  refine (walk a0 a1 W w0 w1).mono fun e W' ⟨he, bel⟩ => ?_
  subst he
  exact ⟨_, rfl, _, _, _, [], _, [], hW', trodAll_mk1 (shut_bool Try.underlying4 _), (trodAll_cons_mk (Below.trod laidOut (by kernel_rfl) (of_decide_eq_true (by kernel_rfl)) k0 bel lt0) (trodAll_cons_mk (Below.trod laidOut (by kernel_rfl) (of_decide_eq_true (by kernel_rfl)) k1 bel lt1) trodAll_mk0)), rfl, bel.frame _, fun h => by cases h⟩

theorem over : Rows.helloFormsRow.holds Try.pinned (OpenSpec.ofChange Rows.helloFormsSpec) :=
  OpenClaim.holds_of_wide 5 Try.f5 rfl rfl rfl rfl rfl rfl rfl ⟨rfl, rfl, rfl, rfl, rfl⟩ rfl rfl rfl rfl rfl (by kernel_rfl) Try.func5 (by kernel_rfl)
    (of_decide_eq_true (by kernel_rfl)) (by unfold Func.isWrapper; first | (rw [if_pos (by decide +kernel)]; kernel_rfl) | (rw [if_neg (by decide +kernel)]; exact ⟨rfl, rfl⟩))
    (fun os started H enc _ => lifted os started H enc)

end Go.Proofs.Ytgopjjclobgekaa.helloForms

namespace Go.Proofs.Ytgopjjclobgekaa
/-- The statement, by its short name. -/
theorem helloForms_holds : Rows.HelloFormsSaid := helloForms.over
#print axioms helloForms_holds
end Go.Proofs.Ytgopjjclobgekaa
