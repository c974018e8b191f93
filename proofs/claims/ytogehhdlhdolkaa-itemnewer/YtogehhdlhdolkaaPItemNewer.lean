/-
  The statement ItemNewer: of two items of one key the one of the newer version is the best, whatever stands in it; of one version, it is gone if one of them is.
-/
import Derived.Test.YtogehhdlhdolkaaRows
import Derived.Test.YtogehhdlhdolkaaOpen
import Derived.Test.YtogehhdlhdolkaaItemLaw
import Derived.Test.YtogehhdlhdolkaaItemRef
import Derived.Test.YtogehhdlhdolkaaBox
namespace Go.Proofs.Ytogehhdlhdolkaa.itemNewer
open Go.ChangeShapes Go.WideShapes Go.ChangeAt Go.RowKit
set_option linter.unusedVariables false

/-! ### The walk -/
set_option maxHeartbeats 4000000 in
theorem walk (v0 : Value) (x0 : It) (v1 : Value) (x1 : It) (w : World) (r0 : v0 = .agg #[.int .i64 x0.k, .int .i64 x0.c, .int .i64 x0.u, .int .i64 x0.x, .bool x0.g]) (w0 : ItW x0) (r1 : v1 = .agg #[.int .i64 x1.k, .int .i64 x1.c, .int .i64 x1.u, .int .i64 x1.x, .bool x1.g]) (w1 : ItW x1) :
    Calls Try.prog 7 #[v0, v1] w fun e w' => e = .returned (.bool true) ∧ Below w.heap.size w w' := by
  obtain ⟨k, c, u, x, g⟩ := x0
  obtain ⟨l, d, v, y, h⟩ := x1
  subst r0 r1
  clear w0 w1
  dsimp only
  have HB0 := fun w => iBest_any k c u x g k d v y h w
  rcases Bool.eq_false_or_eq_true (okB ⟨k, c, u, x, g⟩ ⟨k, d, v, y, h⟩) with ho | ho
  · obtain ⟨e1, e2⟩ := bst_yes ho
    simp only [okB, Bool.and_eq_true, decide_eq_true_eq] at ho
    have va := itB_ver ho.1
    have vb := itB_ver ho.2.1
    rw [e1, e2] at HB0
    clear ho e1 e2
    have HN := fun w => rNewer_any c u d v w
    have HM := fun w => rNewer_any d v c u w
    obtain ⟨n1, n2⟩ := newB_yes va vb
    obtain ⟨n3, n4⟩ := newB_yes vb va
    rw [n1, n2] at HN
    rw [n3, n4] at HM
    rcases Bool.eq_false_or_eq_true (gtB c u d v) with hp | hp
    · have hq : gtB d v c u = false := by simp [gtB] at hp ⊢; omega
      have hv : ¬ (d = c ∧ v = u) := by simp [gtB] at hp; omega
      have hw : ¬ betB ⟨k, d, v, y, h⟩ ⟨k, c, u, x, g⟩ = true := by
        simp only [betB]
        rw [if_neg hv, n3, hq]
        simp
      rw [if_neg hw] at HB0
      rw [hp] at HN
      rw [hq] at HM
      dsimp only at HB0
      clear hp hq hv hw n1 n2 n3 n4 va vb
      have HB : Hid _ := HB0
      replace HN : Hid _ := HN
      replace HM : Hid _ := HM
      clear HB0
      have t1 := trivial
      go_enter Try.func7, Try.ntmps7
      go_wp2_with (first
        | (go_at_call 14; refine (awake4_any _).mono ?_; rintro e w9 ⟨rfl, bb9⟩
           have bA9 := ((Box.new w _ _).alloc _).below bb9
           have bB9 := (Box.new1 w _ _ _).below bb9
           obtain ⟨a1, a2, a3⟩ := id bA9
           obtain ⟨b1, b2, b3⟩ := id bB9)
        | (go_at_call 9; refine (HB.out _).mono ?_; rintro e w1 ⟨rfl, hb1⟩
           have bA1 := (bA9.setO _ _ _ (by simp)).below hb1
           have bB1 := (bB9.setS _ _ (by simp) rfl).below hb1
           simp only [List.setIfInBounds_toArray, List.set_cons_zero] at bB1
           clear a1 a2 a3 b1 b2 b3
           obtain ⟨a1, a2, a3⟩ := id bA1
           obtain ⟨b1, b2, b3⟩ := id bB1)
        | (go_at_call 15; clear t1; refine (HN.out _).mono ?_; rintro e w2 ⟨rfl, hb2⟩
           have bA2 := (bA1.alloc _).below hb2
           have bB2 := (bB1.alloc _).below hb2
           have bZ2 := (Box.new w1 _ _).below hb2
           clear a1 a2 a3 b1 b2 b3
           obtain ⟨a1, a2, a3⟩ := id bA2
           obtain ⟨b1, b2, b3⟩ := id bB2
           obtain ⟨z1, z2, z3⟩ := id bZ2)
        | (go_at_call 15; refine (HM.out _).mono ?_; rintro e w3 ⟨rfl, hb3⟩
           have bA3 := bA2.below hb3
           have bB3 := bB2.below hb3
           have bZ3 := bZ2.below hb3
           clear a1 a2 a3 b1 b2 b3 z1 z2 z3
           obtain ⟨a1, a2, a3⟩ := id bA3
           obtain ⟨b1, b2, b3⟩ := id bB3
           obtain ⟨z1, z2, z3⟩ := id bZ3)
        | (go_at_call 11; refine (num_any _ _).mono ?_; rintro e w' ⟨rfl, hw'⟩; subst w'))
      go_ret
      exact ⟨rfl, ((((((((Below.refl _ w).onA _).onA _).on bb9).setCell (Nat.le_succ _) _).on hb1).onA _).on hb2).on hb3⟩
    · rcases Bool.eq_false_or_eq_true (gtB d v c u) with hq | hq
      · have hv : ¬ (d = c ∧ v = u) := by simp [gtB] at hq; omega
        have hw : betB ⟨k, d, v, y, h⟩ ⟨k, c, u, x, g⟩ = true := by
          simp only [betB]
          rw [if_neg hv, n3, hq]
        rw [if_pos hw] at HB0
        rw [hp] at HN
        rw [hq] at HM
        dsimp only at HB0
        clear hp hq hv hw n1 n2 n3 n4 va vb
        have HB : Hid _ := HB0
        replace HN : Hid _ := HN
        replace HM : Hid _ := HM
        clear HB0
        have t1 := trivial
        go_enter Try.func7, Try.ntmps7
        go_wp2_with (first
          | (go_at_call 14; refine (awake4_any _).mono ?_; rintro e w9 ⟨rfl, bb9⟩
             have bA9 := ((Box.new w _ _).alloc _).below bb9
             have bB9 := (Box.new1 w _ _ _).below bb9
             obtain ⟨a1, a2, a3⟩ := id bA9
             obtain ⟨b1, b2, b3⟩ := id bB9)
          | (go_at_call 9; refine (HB.out _).mono ?_; rintro e w1 ⟨rfl, hb1⟩
             have bA1 := (bA9.setO _ _ _ (by simp)).below hb1
             have bB1 := (bB9.setS _ _ (by simp) rfl).below hb1
             simp only [List.setIfInBounds_toArray, List.set_cons_zero] at bB1
             clear a1 a2 a3 b1 b2 b3
             obtain ⟨a1, a2, a3⟩ := id bA1
             obtain ⟨b1, b2, b3⟩ := id bB1)
          | (go_at_call 15; clear t1; refine (HN.out _).mono ?_; rintro e w2 ⟨rfl, hb2⟩
             have bA2 := (bA1.alloc _).below hb2
             have bB2 := (bB1.alloc _).below hb2
             have bZ2 := (Box.new w1 _ _).below hb2
             clear a1 a2 a3 b1 b2 b3
             obtain ⟨a1, a2, a3⟩ := id bA2
             obtain ⟨b1, b2, b3⟩ := id bB2
             obtain ⟨z1, z2, z3⟩ := id bZ2)
          | (go_at_call 15; refine (HM.out _).mono ?_; rintro e w3 ⟨rfl, hb3⟩
             have bA3 := bA2.below hb3
             have bB3 := bB2.below hb3
             have bZ3 := bZ2.below hb3
             clear a1 a2 a3 b1 b2 b3 z1 z2 z3
             obtain ⟨a1, a2, a3⟩ := id bA3
             obtain ⟨b1, b2, b3⟩ := id bB3
             obtain ⟨z1, z2, z3⟩ := id bZ3)
          | (go_at_call 11; refine (num_any _ _).mono ?_; rintro e w' ⟨rfl, hw'⟩; subst w'))
        go_ret
        exact ⟨rfl, ((((((((Below.refl _ w).onA _).onA _).on bb9).setCell (Nat.le_succ _) _).on hb1).onA _).on hb2).on hb3⟩
      · have hv : d = c ∧ v = u := by simp [gtB] at hp hq; omega
        obtain ⟨rfl, rfl⟩ := hv
        rw [hp] at HN HM
        clear hp hq n1 n2 n3 n4 va vb
        cases g
        · have hz : ∃ zx, (if betB ⟨k, d, v, y, h⟩ ⟨k, d, v, x, false⟩ = true then (⟨k, d, v, y, h⟩ : It) else ⟨k, d, v, x, false⟩) = ⟨k, d, v, zx, h⟩ := by
            cases h
            · by_cases hxy : x < y <;> simp [betB, oneB, hxy]
            · simp [betB, oneB]
          obtain ⟨zx, hz⟩ := hz
          rw [hz] at HB0
          dsimp only at HB0
          clear hz
          have HB : Hid _ := HB0
          replace HN : Hid _ := HN
          replace HM : Hid _ := HM
          clear HB0
          have t1 := trivial
          go_enter Try.func7, Try.ntmps7
          go_wp2_with (first
            | (go_at_call 14; refine (awake4_any _).mono ?_; rintro e w9 ⟨rfl, bb9⟩
               have bA9 := ((Box.new w _ _).alloc _).below bb9
               have bB9 := (Box.new1 w _ _ _).below bb9
               obtain ⟨a1, a2, a3⟩ := id bA9
               obtain ⟨b1, b2, b3⟩ := id bB9)
            | (go_at_call 9; refine (HB.out _).mono ?_; rintro e w1 ⟨rfl, hb1⟩
               have bA1 := (bA9.setO _ _ _ (by simp)).below hb1
               have bB1 := (bB9.setS _ _ (by simp) rfl).below hb1
               simp only [List.setIfInBounds_toArray, List.set_cons_zero] at bB1
               clear a1 a2 a3 b1 b2 b3
               obtain ⟨a1, a2, a3⟩ := id bA1
               obtain ⟨b1, b2, b3⟩ := id bB1)
            | (go_at_call 15; clear t1; refine (HN.out _).mono ?_; rintro e w2 ⟨rfl, hb2⟩
               have bA2 := (bA1.alloc _).below hb2
               have bB2 := (bB1.alloc _).below hb2
               have bZ2 := (Box.new w1 _ _).below hb2
               clear a1 a2 a3 b1 b2 b3
               obtain ⟨a1, a2, a3⟩ := id bA2
               obtain ⟨b1, b2, b3⟩ := id bB2
               obtain ⟨z1, z2, z3⟩ := id bZ2)
            | (go_at_call 15; refine (HM.out _).mono ?_; rintro e w3 ⟨rfl, hb3⟩
               have bA3 := bA2.below hb3
               have bB3 := bB2.below hb3
               have bZ3 := bZ2.below hb3
               clear a1 a2 a3 b1 b2 b3 z1 z2 z3
               obtain ⟨a1, a2, a3⟩ := id bA3
               obtain ⟨b1, b2, b3⟩ := id bB3
               obtain ⟨z1, z2, z3⟩ := id bZ3)
            | (go_at_call 11; refine (num_any _ _).mono ?_; rintro e w' ⟨rfl, hw'⟩; subst w'))
          go_ret
          exact ⟨rfl, ((((((((Below.refl _ w).onA _).onA _).on bb9).setCell (Nat.le_succ _) _).on hb1).onA _).on hb2).on hb3⟩
        · have hz : ∃ zx, (if betB ⟨k, d, v, y, h⟩ ⟨k, d, v, x, true⟩ = true then (⟨k, d, v, y, h⟩ : It) else ⟨k, d, v, x, true⟩) = ⟨k, d, v, zx, true⟩ := by
            cases h
            · simp [betB, oneB]
            · by_cases hxy : x < y <;> simp [betB, oneB, hxy]
          obtain ⟨zx, hz⟩ := hz
          rw [hz] at HB0
          dsimp only at HB0
          clear hz
          have HB : Hid _ := HB0
          replace HN : Hid _ := HN
          replace HM : Hid _ := HM
          clear HB0
          have t1 := trivial
          go_enter Try.func7, Try.ntmps7
          go_wp2_with (first
            | (go_at_call 14; refine (awake4_any _).mono ?_; rintro e w9 ⟨rfl, bb9⟩
               have bA9 := ((Box.new w _ _).alloc _).below bb9
               have bB9 := (Box.new1 w _ _ _).below bb9
               obtain ⟨a1, a2, a3⟩ := id bA9
               obtain ⟨b1, b2, b3⟩ := id bB9)
            | (go_at_call 9; refine (HB.out _).mono ?_; rintro e w1 ⟨rfl, hb1⟩
               have bA1 := (bA9.setO _ _ _ (by simp)).below hb1
               have bB1 := (bB9.setS _ _ (by simp) rfl).below hb1
               simp only [List.setIfInBounds_toArray, List.set_cons_zero] at bB1
               clear a1 a2 a3 b1 b2 b3
               obtain ⟨a1, a2, a3⟩ := id bA1
               obtain ⟨b1, b2, b3⟩ := id bB1)
            | (go_at_call 15; clear t1; refine (HN.out _).mono ?_; rintro e w2 ⟨rfl, hb2⟩
               have bA2 := (bA1.alloc _).below hb2
               have bB2 := (bB1.alloc _).below hb2
               have bZ2 := (Box.new w1 _ _).below hb2
               clear a1 a2 a3 b1 b2 b3
               obtain ⟨a1, a2, a3⟩ := id bA2
               obtain ⟨b1, b2, b3⟩ := id bB2
               obtain ⟨z1, z2, z3⟩ := id bZ2)
            | (go_at_call 15; refine (HM.out _).mono ?_; rintro e w3 ⟨rfl, hb3⟩
               have bA3 := bA2.below hb3
               have bB3 := bB2.below hb3
               have bZ3 := bZ2.below hb3
               clear a1 a2 a3 b1 b2 b3 z1 z2 z3
               obtain ⟨a1, a2, a3⟩ := id bA3
               obtain ⟨b1, b2, b3⟩ := id bB3
               obtain ⟨z1, z2, z3⟩ := id bZ3)
            | (go_at_call 11; refine (num_any _ _).mono ?_; rintro e w' ⟨rfl, hw'⟩; subst w'))
          go_ret
          exact ⟨rfl, ((((((((Below.refl _ w).onA _).onA _).on bb9).setCell (Nat.le_succ _) _).on hb1).onA _).on hb2).on hb3⟩
  · obtain ⟨e1, e2⟩ := bst_no ho
    rw [e1, e2] at HB0
    clear ho e1 e2
    have HB : Hid _ := HB0
    clear HB0
    go_enter Try.func7, Try.ntmps7
    go_wp2_with (first
      | (go_at_call 14; refine (awake4_any _).mono ?_; rintro e w9 ⟨rfl, bb9⟩
         have bA9 := ((Box.new w _ _).alloc _).below bb9
         have bB9 := (Box.new1 w _ _ _).below bb9
         obtain ⟨a1, a2, a3⟩ := id bA9
         obtain ⟨b1, b2, b3⟩ := id bB9)
      | (go_at_call 9; refine (HB.out _).mono ?_; rintro e w1 ⟨rfl, hb1⟩
         have bA1 := (bA9.setO _ _ _ (by simp)).below hb1
         have bB1 := (bB9.setS _ _ (by simp) rfl).below hb1
         simp only [List.setIfInBounds_toArray, List.set_cons_zero] at bB1
         clear a1 a2 a3 b1 b2 b3
         obtain ⟨a1, a2, a3⟩ := id bA1
         obtain ⟨b1, b2, b3⟩ := id bB1)
      | (go_at_call 11; refine (num_any _ _).mono ?_; rintro e w' ⟨rfl, hw'⟩; subst w'))
    go_ret
    exact ⟨rfl, ((((((Below.refl _ w).onA _).onA _).on bb9).setCell (Nat.le_succ _) _).on hb1).onA _⟩

/-! ### The row's step -/
set_option maxRecDepth 100000 in
theorem lifted (os : Os) (started : os.Started) (H : Type) (enc : TypeId × Value → H) :
    ReturnsInHanded {} Try.checked os 7 .any (Rows.itemNewerSpec.pre6 enc Try.prog Try.f7 Rows.itemNewerRow.domain false) (Rows.itemNewerSpec.post enc Try.prog Try.f7 false true false false) := by
  refine returnsInHanded_of_change_sized (C := Try.checked) ownK started (by kernel_rfl) Try.func7
    (ChangeSpec.witness6 (enc := enc) (C := Try.checked) false ⟨#[], #[.agg #[.int .i64 0, .int .i64 0, .int .i64 0, .int .i64 0, .bool false], .agg #[.int .i64 0, .int .i64 0, .int .i64 0, .int .i64 0, .bool false]], []⟩ 8 (by kernel_rfl) (by kernel_rfl) (by kernel_rfl) (by kernel_rfl)) ?_
  intro W base args ds gs before hval0 hW hcnd hsz0 _
  have hsz : (DataW.weightsEach Try.prog (Try.f7.params.toList ++ Rows.itemNewerSpec.plain.varTypes Try.prog) (ds ++ gs)).all (· ≤ reachBytes) = true := hsz0
  have hval : ∀ (j : Nat) t v, Try.f7.params[j]? = some t → args[j]? = some v → Value.okWide Try.prog W .any base t v := hval0
  have hW' := hW
  obtain ⟨p, q, hA0, hV, rfl, hfz, hnd⟩ := hW
  have hA : DataW.TrodAll enc Try.prog W 0 (fun _ => true) true Try.f7.params.toList args.toList ds p := hA0
  rw [Try.params7] at hA hval hsz
  obtain ⟨v0, vs0, d0, ds0, p0, q0, hargs, rfl, rfl, h0, r0⟩ := trodAll_cons hA
  obtain ⟨v1, vs1, d1, ds1, p1, q1, rfl, rfl, rfl, h1, r1⟩ := trodAll_cons r0
  obtain ⟨rfl, rfl, rfl⟩ := trodAll_nil r1
  obtain rfl : args = #[v0, v1] := by cases args; simp_all
  obtain ⟨rfl, rfl⟩ := trodVars_none hV
  clear r0 r1
  have k0 := h0
  have lt0 : ∀ x ∈ p0, x.block < W.heap.size := by obtain ⟨m, hm⟩ := k0; exact DataW.trod_lt m _ _ _ hm
  have z0 : ∀ n ∈ d0.weights Try.prog 25, n ≤ reachBytes := fun n hn => by simpa using List.all_eq_true.1 hsz _ (DataW.weights_mem_each (j := 0) rfl rfl n hn)
  have f0 : W.noneFrozen p0 := fun b off hm => hfz b off (by simp [hm])
  have k1 := h1
  have lt1 : ∀ x ∈ p1, x.block < W.heap.size := by obtain ⟨m, hm⟩ := k1; exact DataW.trod_lt m _ _ _ hm
  have z1 : ∀ n ∈ d1.weights Try.prog 25, n ≤ reachBytes := fun n hn => by simpa using List.all_eq_true.1 hsz _ (DataW.weights_mem_each (j := 1) rfl rfl n hn)
  have f1 : W.noneFrozen p1 := fun b off hm => hfz b off (by simp [hm])
  obtain ⟨x0, r0, w0⟩ := open_item (hval 0 25 v0 rfl rfl) h0 f0 z0
  obtain ⟨x1, r1, w1⟩ := open_item (hval 1 25 v1 rfl rfl) h1 f1 z1
  clear hA0 hval0
  refine (walk v0 x0 v1 x1 W r0 w0 r1 w1).mono fun e W' ⟨he, bel⟩ => ?_
  subst he
  exact ⟨_, rfl, _, _, _, [], _, [], hW', trodAll_mk1 (shut_bool Try.underlying4 _), (trodAll_cons_mk (Below.trod laidOut (by kernel_rfl) (of_decide_eq_true (by kernel_rfl)) k0 bel lt0) (trodAll_cons_mk (Below.trod laidOut (by kernel_rfl) (of_decide_eq_true (by kernel_rfl)) k1 bel lt1) trodAll_mk0)), rfl, bel.frame _, fun h => by cases h⟩

theorem over : Rows.itemNewerRow.holds Try.pinned (OpenSpec.ofChange Rows.itemNewerSpec) :=
  OpenClaim.holds_of_wide 7 Try.f7 rfl rfl rfl rfl rfl rfl rfl ⟨rfl, rfl, rfl, rfl, rfl⟩ rfl rfl rfl rfl rfl (by kernel_rfl) Try.func7 (by kernel_rfl)
    (of_decide_eq_true (by kernel_rfl)) (by unfold Func.isWrapper; first | (rw [if_pos (by decide +kernel)]; kernel_rfl) | (rw [if_neg (by decide +kernel)]; exact ⟨rfl, rfl⟩))
    (fun os started H enc _ => lifted os started H enc)

end Go.Proofs.Ytogehhdlhdolkaa.itemNewer

namespace Go.Proofs.Ytogehhdlhdolkaa
/-- The statement, by its short name. -/
theorem itemNewer_holds : Rows.ItemNewerSaid := itemNewer.over
#print axioms itemNewer_holds
end Go.Proofs.Ytogehhdlhdolkaa
