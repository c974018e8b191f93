/-
  The statement ItemLattice: the best of two items of one key is one of them, whatever row they are told in; of three likewise; of one with itself that.
-/
import Derived.Test.YtogehhdlhdolkaaRows
import Derived.Test.YtogehhdlhdolkaaOpen
import Derived.Test.YtogehhdlhdolkaaItemLaw
import Derived.Test.YtogehhdlhdolkaaItemMath
import Derived.Test.YtogehhdlhdolkaaBox
namespace Go.Proofs.Ytogehhdlhdolkaa.itemLattice
open Go.ChangeShapes Go.WideShapes Go.ChangeAt Go.RowKit
set_option linter.unusedVariables false

/-! ### The walk -/
set_option maxHeartbeats 8000000 in
theorem walk (v0 : Value) (x0 : It) (v1 : Value) (x1 : It) (v2 : Value) (x2 : It) (w : World) (r0 : v0 = .agg #[.int .i64 x0.k, .int .i64 x0.c, .int .i64 x0.u, .int .i64 x0.x, .bool x0.g]) (w0 : ItW x0) (r1 : v1 = .agg #[.int .i64 x1.k, .int .i64 x1.c, .int .i64 x1.u, .int .i64 x1.x, .bool x1.g]) (w1 : ItW x1) (r2 : v2 = .agg #[.int .i64 x2.k, .int .i64 x2.c, .int .i64 x2.u, .int .i64 x2.x, .bool x2.g]) (w2 : ItW x2) :
    Calls Try.prog 4 #[v0, v1, v2] w fun e w' => e = .returned (.bool true) ∧ Below w.heap.size w w' := by
  obtain ⟨k, c, u, x, g⟩ := x0
  obtain ⟨l, d, v, y, h⟩ := x1
  obtain ⟨m, e, t, s, i⟩ := x2
  subst r0 r1 r2
  clear w0 w1 w2
  dsimp only
  have HX := fun w => iBest_any k c u x g k d v y h w
  have HY := fun w => iBest_any k d v y h k c u x g w
  have HZ := fun w => iBest_any k d v y h k e t s i w
  have t1 := trivial
  have t2 := trivial
  have t3 := trivial
  have t4 := trivial
  have t5 := trivial
  rcases Bool.eq_false_or_eq_true (itB ⟨k, c, u, x, g⟩) with ha | ha
  · rcases Bool.eq_false_or_eq_true (itB ⟨k, d, v, y, h⟩) with hb | hb
    · rcases Bool.eq_false_or_eq_true (itB ⟨k, e, t, s, i⟩) with hc | hc
      · rw [(bst_mx ha hb rfl).1, (bst_mx ha hb rfl).2] at HX
        rw [(bst_mx hb ha rfl).1, (bst_mx hb ha rfl).2, mx_comm hb ha rfl] at HY
        rw [(bst_mx hb hc rfl).1, (bst_mx hb hc rfl).2] at HZ
        have hzi := mx_itB hb hc
        have hzk := mx_k (a := ⟨k, d, v, y, h⟩) (b := ⟨k, e, t, s, i⟩) rfl
        have has := mx_assoc ha hb hc
        generalize mx ⟨k, d, v, y, h⟩ ⟨k, e, t, s, i⟩ = Z at HZ hzi hzk has
        obtain ⟨zk, zc, zu, zx, zg⟩ := Z
        dsimp only at hzk
        subst zk
        have HQ := fun w => iBest_any k c u x g k zc zu zx zg w
        rw [(bst_mx ha hzi rfl).1, (bst_mx ha hzi rfl).2, ← has] at HQ
        rcases mx_or ⟨k, c, u, x, g⟩ ⟨k, d, v, y, h⟩ with hm | hm
        · have HP := fun w => iBest_any k c u x g k e t s i w
          rw [(bst_mx ha hc rfl).1, (bst_mx ha hc rfl).2] at HP
          have HR := fun w => iBest_any k c u x g k c u x g w
          rw [(bst_mx ha ha rfl).1, (bst_mx ha ha rfl).2, mx_self] at HR
          rw [hm] at HX HY HQ
          generalize mx ⟨k, c, u, x, g⟩ ⟨k, e, t, s, i⟩ = P at HP HQ
          obtain ⟨pk, pc, pu, px, pg⟩ := P
          dsimp only at HX HY HZ HP HQ HR
          clear hzi has hm ha hb hc
          replace HX : Hid _ := HX
          replace HY : Hid _ := HY
          replace HZ : Hid _ := HZ
          replace HP : Hid _ := HP
          replace HQ : Hid _ := HQ
          replace HR : Hid _ := HR
          go_enter Try.func4, Try.ntmps4
          go_wp2_with (first
            | (go_at_call 14; refine (awake4_any _).mono ?_; rintro e w9 ⟨rfl, bb9⟩
               have bA9 := (((Box.new w _ _).alloc _).alloc _).below bb9
               have bB9 := ((Box.new1 w _ _ _).alloc _).below bb9
               have bC9 := (Box.new2 w _ _ _ _).below bb9
               obtain ⟨aa1, aa2, aa3⟩ := id bA9
               obtain ⟨bb1, bb2, bb3⟩ := id bB9
               obtain ⟨cc1, cc2, cc3⟩ := id bC9)
            | (go_at_call 9; clear t1; refine (HX.out _).mono ?_; rintro e w1 ⟨rfl, hb1⟩
               have bA1 := ((bA9.setO _ _ _ (by omega)).setO _ _ _ (by omega)).below hb1
               have bB1 := ((bB9.setS _ _ (by simp) rfl).setO _ _ _ (by omega)).below hb1
               have bC1 := ((bC9.setO _ _ _ (by omega)).setS _ _ (by simp) rfl).below hb1
               simp only [List.setIfInBounds_toArray, List.set_cons_zero] at bB1 bC1
               clear aa1 aa2 aa3 bb1 bb2 bb3 cc1 cc2 cc3
               obtain ⟨aa1, aa2, aa3⟩ := id bA1
               obtain ⟨bb1, bb2, bb3⟩ := id bB1
               obtain ⟨cc1, cc2, cc3⟩ := id bC1)
            | (go_at_call 9; clear t2; refine (HY.out _).mono ?_; rintro e w2 ⟨rfl, hb2⟩
               have bA2 := (bA1.alloc _).below hb2
               have bB2 := (bB1.alloc _).below hb2
               have bC2 := (bC1.alloc _).below hb2
               have bX2 := (Box.new w1 _ _).below hb2
               clear aa1 aa2 aa3 bb1 bb2 bb3 cc1 cc2 cc3
               obtain ⟨aa1, aa2, aa3⟩ := id bA2
               obtain ⟨bb1, bb2, bb3⟩ := id bB2
               obtain ⟨cc1, cc2, cc3⟩ := id bC2
               obtain ⟨xx1, xx2, xx3⟩ := id bX2)
            | (go_at_call 9; clear t3; refine (HZ.out _).mono ?_; rintro e w3 ⟨rfl, hb3⟩
               have bA3 := (bA2.alloc _).below hb3
               have bB3 := (bB2.alloc _).below hb3
               have bC3 := (bC2.alloc _).below hb3
               have bX3 := (bX2.alloc _).below hb3
               have bY3 := (Box.new w2 _ _).below hb3
               clear aa1 aa2 aa3 bb1 bb2 bb3 cc1 cc2 cc3 xx1 xx2 xx3
               obtain ⟨aa1, aa2, aa3⟩ := id bA3
               obtain ⟨bb1, bb2, bb3⟩ := id bB3
               obtain ⟨cc1, cc2, cc3⟩ := id bC3
               obtain ⟨xx1, xx2, xx3⟩ := id bX3
               obtain ⟨yy1, yy2, yy3⟩ := id bY3)
            | (go_at_call 9; clear t4; refine (HP.out _).mono ?_; rintro e w4 ⟨rfl, hb4⟩
               have bA4 := (bA3.alloc _).below hb4
               have bB4 := (bB3.alloc _).below hb4
               have bX4 := (bX3.alloc _).below hb4
               have bY4 := (bY3.alloc _).below hb4
               have bZ4 := (Box.new w3 _ _).below hb4
               clear aa1 aa2 aa3 bb1 bb2 bb3 cc1 cc2 cc3 xx1 xx2 xx3 yy1 yy2 yy3
               obtain ⟨aa1, aa2, aa3⟩ := id bA4
               obtain ⟨bb1, bb2, bb3⟩ := id bB4
               obtain ⟨xx1, xx2, xx3⟩ := id bX4
               obtain ⟨yy1, yy2, yy3⟩ := id bY4
               obtain ⟨zz1, zz2, zz3⟩ := id bZ4)
            | (go_at_call 9; clear t5; refine (HQ.out _).mono ?_; rintro e w5 ⟨rfl, hb5⟩
               have bA5 := (bA4.alloc _).below hb5
               have bB5 := (bB4.alloc _).below hb5
               have bX5 := (bX4.alloc _).below hb5
               have bY5 := (bY4.alloc _).below hb5
               have bP5 := (Box.new w4 _ _).below hb5
               clear aa1 aa2 aa3 bb1 bb2 bb3 xx1 xx2 xx3 yy1 yy2 yy3 zz1 zz2 zz3
               obtain ⟨aa1, aa2, aa3⟩ := id bA5
               obtain ⟨bb1, bb2, bb3⟩ := id bB5
               obtain ⟨xx1, xx2, xx3⟩ := id bX5
               obtain ⟨yy1, yy2, yy3⟩ := id bY5
               obtain ⟨pp1, pp2, pp3⟩ := id bP5)
            | (go_at_call 9; refine (HR.out _).mono ?_; rintro e w6 ⟨rfl, hb6⟩
               have bA6 := (bA5.alloc _).below hb6
               have bB6 := (bB5.alloc _).below hb6
               have bX6 := (bX5.alloc _).below hb6
               have bY6 := (bY5.alloc _).below hb6
               have bP6 := (bP5.alloc _).below hb6
               have bQ6 := (Box.new w5 _ _).below hb6
               clear aa1 aa2 aa3 bb1 bb2 bb3 xx1 xx2 xx3 yy1 yy2 yy3 pp1 pp2 pp3
               obtain ⟨aa1, aa2, aa3⟩ := id bA6
               obtain ⟨bb1, bb2, bb3⟩ := id bB6
               obtain ⟨xx1, xx2, xx3⟩ := id bX6
               obtain ⟨yy1, yy2, yy3⟩ := id bY6
               obtain ⟨pp1, pp2, pp3⟩ := id bP6
               obtain ⟨qq1, qq2, qq3⟩ := id bQ6)
            | (go_at_call 11; refine (num_any _ _).mono ?_; rintro e w' ⟨rfl, hw'⟩; subst w'))
          go_ret
          exact ⟨rfl, (((((((((((((((((((Below.refl _ w).onA _).onA _).onA _).on bb9).setCell (Nat.le_succ _) _).setCell (Nat.le_succ_of_le (Nat.le_succ _)) _).on hb1).onA _).on hb2).onA _).on hb3).onA _).on hb4).onA _).on hb5).onA _).on hb6).onA _)⟩
        · have HP := fun w => iBest_any k d v y h k e t s i w
          rw [(bst_mx hb hc rfl).1, (bst_mx hb hc rfl).2] at HP
          have HR := fun w => iBest_any k d v y h k d v y h w
          rw [(bst_mx hb hb rfl).1, (bst_mx hb hb rfl).2, mx_self] at HR
          rw [hm] at HX HY HQ
          generalize mx ⟨k, d, v, y, h⟩ ⟨k, e, t, s, i⟩ = P at HP HQ
          obtain ⟨pk, pc, pu, px, pg⟩ := P
          dsimp only at HX HY HZ HP HQ HR
          clear hzi has hm ha hb hc
          replace HX : Hid _ := HX
          replace HY : Hid _ := HY
          replace HZ : Hid _ := HZ
          replace HP : Hid _ := HP
          replace HQ : Hid _ := HQ
          replace HR : Hid _ := HR
          go_enter Try.func4, Try.ntmps4
          go_wp2_with (first
            | (go_at_call 14; refine (awake4_any _).mono ?_; rintro e w9 ⟨rfl, bb9⟩
               have bA9 := (((Box.new w _ _).alloc _).alloc _).below bb9
               have bB9 := ((Box.new1 w _ _ _).alloc _).below bb9
               have bC9 := (Box.new2 w _ _ _ _).below bb9
               obtain ⟨aa1, aa2, aa3⟩ := id bA9
               obtain ⟨bb1, bb2, bb3⟩ := id bB9
               obtain ⟨cc1, cc2, cc3⟩ := id bC9)
            | (go_at_call 9; clear t1; refine (HX.out _).mono ?_; rintro e w1 ⟨rfl, hb1⟩
               have bA1 := ((bA9.setO _ _ _ (by omega)).setO _ _ _ (by omega)).below hb1
               have bB1 := ((bB9.setS _ _ (by simp) rfl).setO _ _ _ (by omega)).below hb1
               have bC1 := ((bC9.setO _ _ _ (by omega)).setS _ _ (by simp) rfl).below hb1
               simp only [List.setIfInBounds_toArray, List.set_cons_zero] at bB1 bC1
               clear aa1 aa2 aa3 bb1 bb2 bb3 cc1 cc2 cc3
               obtain ⟨aa1, aa2, aa3⟩ := id bA1
               obtain ⟨bb1, bb2, bb3⟩ := id bB1
               obtain ⟨cc1, cc2, cc3⟩ := id bC1)
            | (go_at_call 9; clear t2; refine (HY.out _).mono ?_; rintro e w2 ⟨rfl, hb2⟩
               have bA2 := (bA1.alloc _).below hb2
               have bB2 := (bB1.alloc _).below hb2
               have bC2 := (bC1.alloc _).below hb2
               have bX2 := (Box.new w1 _ _).below hb2
               clear aa1 aa2 aa3 bb1 bb2 bb3 cc1 cc2 cc3
               obtain ⟨aa1, aa2, aa3⟩ := id bA2
               obtain ⟨bb1, bb2, bb3⟩ := id bB2
               obtain ⟨cc1, cc2, cc3⟩ := id bC2
               obtain ⟨xx1, xx2, xx3⟩ := id bX2)
            | (go_at_call 9; clear t3; refine (HZ.out _).mono ?_; rintro e w3 ⟨rfl, hb3⟩
               have bA3 := (bA2.alloc _).below hb3
               have bB3 := (bB2.alloc _).below hb3
               have bC3 := (bC2.alloc _).below hb3
               have bX3 := (bX2.alloc _).below hb3
               have bY3 := (Box.new w2 _ _).below hb3
               clear aa1 aa2 aa3 bb1 bb2 bb3 cc1 cc2 cc3 xx1 xx2 xx3
               obtain ⟨aa1, aa2, aa3⟩ := id bA3
               obtain ⟨bb1, bb2, bb3⟩ := id bB3
               obtain ⟨cc1, cc2, cc3⟩ := id bC3
               obtain ⟨xx1, xx2, xx3⟩ := id bX3
               obtain ⟨yy1, yy2, yy3⟩ := id bY3)
            | (go_at_call 9; clear t4; refine (HP.out _).mono ?_; rintro e w4 ⟨rfl, hb4⟩
               have bA4 := (bA3.alloc _).below hb4
               have bB4 := (bB3.alloc _).below hb4
               have bX4 := (bX3.alloc _).below hb4
               have bY4 := (bY3.alloc _).below hb4
               have bZ4 := (Box.new w3 _ _).below hb4
               clear aa1 aa2 aa3 bb1 bb2 bb3 cc1 cc2 cc3 xx1 xx2 xx3 yy1 yy2 yy3
               obtain ⟨aa1, aa2, aa3⟩ := id bA4
               obtain ⟨bb1, bb2, bb3⟩ := id bB4
               obtain ⟨xx1, xx2, xx3⟩ := id bX4
               obtain ⟨yy1, yy2, yy3⟩ := id bY4
               obtain ⟨zz1, zz2, zz3⟩ := id bZ4)
            | (go_at_call 9; clear t5; refine (HQ.out _).mono ?_; rintro e w5 ⟨rfl, hb5⟩
               have bA5 := (bA4.alloc _).below hb5
               have bB5 := (bB4.alloc _).below hb5
               have bX5 := (bX4.alloc _).below hb5
               have bY5 := (bY4.alloc _).below hb5
               have bP5 := (Box.new w4 _ _).below hb5
               clear aa1 aa2 aa3 bb1 bb2 bb3 xx1 xx2 xx3 yy1 yy2 yy3 zz1 zz2 zz3
               obtain ⟨aa1, aa2, aa3⟩ := id bA5
               obtain ⟨bb1, bb2, bb3⟩ := id bB5
               obtain ⟨xx1, xx2, xx3⟩ := id bX5
               obtain ⟨yy1, yy2, yy3⟩ := id bY5
               obtain ⟨pp1, pp2, pp3⟩ := id bP5)
            | (go_at_call 9; refine (HR.out _).mono ?_; rintro e w6 ⟨rfl, hb6⟩
               have bA6 := (bA5.alloc _).below hb6
               have bB6 := (bB5.alloc _).below hb6
               have bX6 := (bX5.alloc _).below hb6
               have bY6 := (bY5.alloc _).below hb6
               have bP6 := (bP5.alloc _).below hb6
               have bQ6 := (Box.new w5 _ _).below hb6
               clear aa1 aa2 aa3 bb1 bb2 bb3 xx1 xx2 xx3 yy1 yy2 yy3 pp1 pp2 pp3
               obtain ⟨aa1, aa2, aa3⟩ := id bA6
               obtain ⟨bb1, bb2, bb3⟩ := id bB6
               obtain ⟨xx1, xx2, xx3⟩ := id bX6
               obtain ⟨yy1, yy2, yy3⟩ := id bY6
               obtain ⟨pp1, pp2, pp3⟩ := id bP6
               obtain ⟨qq1, qq2, qq3⟩ := id bQ6)
            | (go_at_call 11; refine (num_any _ _).mono ?_; rintro e w' ⟨rfl, hw'⟩; subst w'))
          all_goals go_ret
          all_goals exact ⟨rfl, (((((((((((((((((((Below.refl _ w).onA _).onA _).onA _).on bb9).setCell (Nat.le_succ _) _).setCell (Nat.le_succ_of_le (Nat.le_succ _)) _).on hb1).onA _).on hb2).onA _).on hb3).onA _).on hb4).onA _).on hb5).onA _).on hb6).onA _)⟩
      · rw [(bst_mx ha hb rfl).1, (bst_mx ha hb rfl).2] at HX
        rw [(bst_mx hb ha rfl).1, (bst_mx hb ha rfl).2] at HY
        rw [(bst_no (okB_r hc)).1, (bst_no (okB_r hc)).2] at HZ
        generalize mx ⟨k, c, u, x, g⟩ ⟨k, d, v, y, h⟩ = X at HX
        generalize mx ⟨k, d, v, y, h⟩ ⟨k, c, u, x, g⟩ = Y at HY
        obtain ⟨zk, zc, zu, zx, zg⟩ := X
        obtain ⟨yk, yc, yu, yx, yg⟩ := Y
        dsimp only at HX HY HZ
        replace ha : Hid _ := ha
        replace hb : Hid _ := hb
        replace hc : Hid _ := hc
        replace HX : Hid _ := HX
        replace HY : Hid _ := HY
        replace HZ : Hid _ := HZ
        go_enter Try.func4, Try.ntmps4
        go_wp2_with (first
          | (go_at_call 14; refine (awake4_any _).mono ?_; rintro e w9 ⟨rfl, bb9⟩
             have bA9 := (((Box.new w _ _).alloc _).alloc _).below bb9
             have bB9 := ((Box.new1 w _ _ _).alloc _).below bb9
             have bC9 := (Box.new2 w _ _ _ _).below bb9
             obtain ⟨aa1, aa2, aa3⟩ := id bA9
             obtain ⟨bb1, bb2, bb3⟩ := id bB9
             obtain ⟨cc1, cc2, cc3⟩ := id bC9)
          | (go_at_call 9; clear t1; refine (HX.out _).mono ?_; rintro e w1 ⟨rfl, hb1⟩
             have bA1 := ((bA9.setO _ _ _ (by omega)).setO _ _ _ (by omega)).below hb1
             have bB1 := ((bB9.setS _ _ (by simp) rfl).setO _ _ _ (by omega)).below hb1
             have bC1 := ((bC9.setO _ _ _ (by omega)).setS _ _ (by simp) rfl).below hb1
             simp only [List.setIfInBounds_toArray, List.set_cons_zero] at bB1 bC1
             clear aa1 aa2 aa3 bb1 bb2 bb3 cc1 cc2 cc3
             obtain ⟨aa1, aa2, aa3⟩ := id bA1
             obtain ⟨bb1, bb2, bb3⟩ := id bB1
             obtain ⟨cc1, cc2, cc3⟩ := id bC1)
          | (go_at_call 9; clear t2; refine (HY.out _).mono ?_; rintro e w2 ⟨rfl, hb2⟩
             have bA2 := (bA1.alloc _).below hb2
             have bB2 := (bB1.alloc _).below hb2
             have bC2 := (bC1.alloc _).below hb2
             have bX2 := (Box.new w1 _ _).below hb2
             clear aa1 aa2 aa3 bb1 bb2 bb3 cc1 cc2 cc3
             obtain ⟨aa1, aa2, aa3⟩ := id bA2
             obtain ⟨bb1, bb2, bb3⟩ := id bB2
             obtain ⟨cc1, cc2, cc3⟩ := id bC2
             obtain ⟨xx1, xx2, xx3⟩ := id bX2)
          | (go_at_call 9; refine (HZ.out _).mono ?_; rintro e w3 ⟨rfl, hb3⟩
             have bA3 := (bA2.alloc _).below hb3
             have bB3 := (bB2.alloc _).below hb3
             have bC3 := (bC2.alloc _).below hb3
             clear aa1 aa2 aa3 bb1 bb2 bb3 cc1 cc2 cc3 xx1 xx2 xx3
             obtain ⟨aa1, aa2, aa3⟩ := id bA3
             obtain ⟨bb1, bb2, bb3⟩ := id bB3
             obtain ⟨cc1, cc2, cc3⟩ := id bC3)
          | (go_at_call 12; clear t4; refine (iMay_yes _ _ _ _ _ _ ha.out).mono ?_; rintro e w4 ⟨rfl, hb4⟩
             have bB4 := (bB3.alloc _).below hb4
             have bC4 := (bC3.alloc _).below hb4
             clear aa1 aa2 aa3 bb1 bb2 bb3 cc1 cc2 cc3
             obtain ⟨bb1, bb2, bb3⟩ := id bB4
             obtain ⟨cc1, cc2, cc3⟩ := id bC4)
          | (go_at_call 12; clear t5; refine (iMay_yes _ _ _ _ _ _ hb.out).mono ?_; rintro e w5 ⟨rfl, hb5⟩
             have bC5 := (bC4).below hb5
             clear bb1 bb2 bb3 cc1 cc2 cc3
             obtain ⟨cc1, cc2, cc3⟩ := id bC5)
          | (go_at_call 12; refine (iMay_no _ _ _ _ _ _ hc.out).mono ?_; rintro e w6 ⟨rfl, hb6⟩)
          | (go_at_call 11; refine (num_any _ _).mono ?_; rintro e w' ⟨rfl, hw'⟩; subst w'))
        go_ret
        exact ⟨rfl, ((((((((((((((((Below.refl _ w).onA _).onA _).onA _).on bb9).setCell (Nat.le_succ _) _).setCell (Nat.le_succ_of_le (Nat.le_succ _)) _).on hb1).onA _).on hb2).onA _).on hb3).onA _).on hb4).on hb5).on hb6)⟩
    · rw [(bst_no (okB_r hb)).1, (bst_no (okB_r hb)).2] at HX
      rw [(bst_no (okB_l hb)).1, (bst_no (okB_l hb)).2] at HY
      rw [(bst_no (okB_l hb)).1, (bst_no (okB_l hb)).2] at HZ
      dsimp only at HX HY HZ
      replace ha : Hid _ := ha
      replace hb : Hid _ := hb
      replace HX : Hid _ := HX
      replace HY : Hid _ := HY
      replace HZ : Hid _ := HZ
      go_enter Try.func4, Try.ntmps4
      go_wp2_with (first
        | (go_at_call 14; refine (awake4_any _).mono ?_; rintro e w9 ⟨rfl, bb9⟩
           have bA9 := (((Box.new w _ _).alloc _).alloc _).below bb9
           have bB9 := ((Box.new1 w _ _ _).alloc _).below bb9
           have bC9 := (Box.new2 w _ _ _ _).below bb9
           obtain ⟨aa1, aa2, aa3⟩ := id bA9
           obtain ⟨bb1, bb2, bb3⟩ := id bB9
           obtain ⟨cc1, cc2, cc3⟩ := id bC9)
        | (go_at_call 9; clear t1; refine (HX.out _).mono ?_; rintro e w1 ⟨rfl, hb1⟩
           have bA1 := ((bA9.setO _ _ _ (by omega)).setO _ _ _ (by omega)).below hb1
           have bB1 := ((bB9.setS _ _ (by simp) rfl).setO _ _ _ (by omega)).below hb1
           have bC1 := ((bC9.setO _ _ _ (by omega)).setS _ _ (by simp) rfl).below hb1
           simp only [List.setIfInBounds_toArray, List.set_cons_zero] at bB1 bC1
           clear aa1 aa2 aa3 bb1 bb2 bb3 cc1 cc2 cc3
           obtain ⟨aa1, aa2, aa3⟩ := id bA1
           obtain ⟨bb1, bb2, bb3⟩ := id bB1
           obtain ⟨cc1, cc2, cc3⟩ := id bC1)
        | (go_at_call 9; clear t2; refine (HY.out _).mono ?_; rintro e w2 ⟨rfl, hb2⟩
           have bA2 := (bA1.alloc _).below hb2
           have bB2 := (bB1.alloc _).below hb2
           have bC2 := (bC1.alloc _).below hb2
           have bX2 := (Box.new w1 _ _).below hb2
           clear aa1 aa2 aa3 bb1 bb2 bb3 cc1 cc2 cc3
           obtain ⟨aa1, aa2, aa3⟩ := id bA2
           obtain ⟨bb1, bb2, bb3⟩ := id bB2
           obtain ⟨cc1, cc2, cc3⟩ := id bC2
           obtain ⟨xx1, xx2, xx3⟩ := id bX2)
        | (go_at_call 9; refine (HZ.out _).mono ?_; rintro e w3 ⟨rfl, hb3⟩
           have bA3 := (bA2.alloc _).below hb3
           have bB3 := (bB2.alloc _).below hb3
           have bC3 := (bC2.alloc _).below hb3
           clear aa1 aa2 aa3 bb1 bb2 bb3 cc1 cc2 cc3 xx1 xx2 xx3
           obtain ⟨aa1, aa2, aa3⟩ := id bA3
           obtain ⟨bb1, bb2, bb3⟩ := id bB3
           obtain ⟨cc1, cc2, cc3⟩ := id bC3)
        | (go_at_call 12; clear t4; refine (iMay_yes _ _ _ _ _ _ ha.out).mono ?_; rintro e w4 ⟨rfl, hb4⟩
           have bB4 := (bB3.alloc _).below hb4
           clear aa1 aa2 aa3 bb1 bb2 bb3 cc1 cc2 cc3
           obtain ⟨bb1, bb2, bb3⟩ := id bB4)
        | (go_at_call 12; refine (iMay_no _ _ _ _ _ _ hb.out).mono ?_; rintro e w5 ⟨rfl, hb5⟩)
        | (go_at_call 11; refine (num_any _ _).mono ?_; rintro e w' ⟨rfl, hw'⟩; subst w'))
      go_ret
      exact ⟨rfl, (((((((((((((((Below.refl _ w).onA _).onA _).onA _).on bb9).setCell (Nat.le_succ _) _).setCell (Nat.le_succ_of_le (Nat.le_succ _)) _).on hb1).onA _).on hb2).onA _).on hb3).onA _).on hb4).on hb5)⟩
  · rw [(bst_no (okB_l ha)).1, (bst_no (okB_l ha)).2] at HX
    rw [(bst_no (okB_r ha)).1, (bst_no (okB_r ha)).2] at HY
    generalize bstI ⟨k, d, v, y, h⟩ ⟨k, e, t, s, i⟩ = Z at HZ
    generalize bstE ⟨k, d, v, y, h⟩ ⟨k, e, t, s, i⟩ = f at HZ
    obtain ⟨zk, zc, zu, zx, zg⟩ := Z
    dsimp only at HX HY HZ
    replace ha : Hid _ := ha
    replace HX : Hid _ := HX
    replace HY : Hid _ := HY
    replace HZ : Hid _ := HZ
    go_enter Try.func4, Try.ntmps4
    go_wp2_with (first
      | (go_at_call 14; refine (awake4_any _).mono ?_; rintro e w9 ⟨rfl, bb9⟩
         have bA9 := (((Box.new w _ _).alloc _).alloc _).below bb9
         have bB9 := ((Box.new1 w _ _ _).alloc _).below bb9
         have bC9 := (Box.new2 w _ _ _ _).below bb9
         obtain ⟨aa1, aa2, aa3⟩ := id bA9
         obtain ⟨bb1, bb2, bb3⟩ := id bB9
         obtain ⟨cc1, cc2, cc3⟩ := id bC9)
      | (go_at_call 9; clear t1; refine (HX.out _).mono ?_; rintro e w1 ⟨rfl, hb1⟩
         have bA1 := ((bA9.setO _ _ _ (by omega)).setO _ _ _ (by omega)).below hb1
         have bB1 := ((bB9.setS _ _ (by simp) rfl).setO _ _ _ (by omega)).below hb1
         have bC1 := ((bC9.setO _ _ _ (by omega)).setS _ _ (by simp) rfl).below hb1
         simp only [List.setIfInBounds_toArray, List.set_cons_zero] at bB1 bC1
         clear aa1 aa2 aa3 bb1 bb2 bb3 cc1 cc2 cc3
         obtain ⟨aa1, aa2, aa3⟩ := id bA1
         obtain ⟨bb1, bb2, bb3⟩ := id bB1
         obtain ⟨cc1, cc2, cc3⟩ := id bC1)
      | (go_at_call 9; clear t2; refine (HY.out _).mono ?_; rintro e w2 ⟨rfl, hb2⟩
         have bA2 := (bA1.alloc _).below hb2
         have bB2 := (bB1.alloc _).below hb2
         have bC2 := (bC1.alloc _).below hb2
         have bX2 := (Box.new w1 _ _).below hb2
         clear aa1 aa2 aa3 bb1 bb2 bb3 cc1 cc2 cc3
         obtain ⟨aa1, aa2, aa3⟩ := id bA2
         obtain ⟨bb1, bb2, bb3⟩ := id bB2
         obtain ⟨cc1, cc2, cc3⟩ := id bC2
         obtain ⟨xx1, xx2, xx3⟩ := id bX2)
      | (go_at_call 9; refine (HZ.out _).mono ?_; rintro e w3 ⟨rfl, hb3⟩
         have bA3 := (bA2.alloc _).below hb3
         have bB3 := (bB2.alloc _).below hb3
         have bC3 := (bC2.alloc _).below hb3
         clear aa1 aa2 aa3 bb1 bb2 bb3 cc1 cc2 cc3 xx1 xx2 xx3
         obtain ⟨aa1, aa2, aa3⟩ := id bA3
         obtain ⟨bb1, bb2, bb3⟩ := id bB3
         obtain ⟨cc1, cc2, cc3⟩ := id bC3)
      | (go_at_call 12; refine (iMay_no _ _ _ _ _ _ ha.out).mono ?_; rintro e w4 ⟨rfl, hb4⟩)
      | (go_at_call 11; refine (num_any _ _).mono ?_; rintro e w' ⟨rfl, hw'⟩; subst w'))
    go_ret
    exact ⟨rfl, ((((((((((((((Below.refl _ w).onA _).onA _).onA _).on bb9).setCell (Nat.le_succ _) _).setCell (Nat.le_succ_of_le (Nat.le_succ _)) _).on hb1).onA _).on hb2).onA _).on hb3).onA _).on hb4)⟩

/-! ### The row's step -/
set_option maxRecDepth 100000 in
theorem lifted (os : Os) (started : os.Started) (H : Type) (enc : TypeId × Value → H) :
    ReturnsInHanded {} Try.checked os 4 .any (Rows.itemLatticeSpec.pre6 enc Try.prog Try.f4 Rows.itemLatticeRow.domain false) (Rows.itemLatticeSpec.post enc Try.prog Try.f4 false true false false) := by
  refine returnsInHanded_of_change_sized (C := Try.checked) ownK started (by kernel_rfl) Try.func4
    (ChangeSpec.witness6 (enc := enc) (C := Try.checked) false ⟨#[], #[.agg #[.int .i64 0, .int .i64 0, .int .i64 0, .int .i64 0, .bool false], .agg #[.int .i64 0, .int .i64 0, .int .i64 0, .int .i64 0, .bool false], .agg #[.int .i64 0, .int .i64 0, .int .i64 0, .int .i64 0, .bool false]], []⟩ 8 (by kernel_rfl) (by kernel_rfl) (by kernel_rfl) (by kernel_rfl)) ?_
  intro W base args ds gs before hval0 hW hcnd hsz0 _
  have hsz : (DataW.weightsEach Try.prog (Try.f4.params.toList ++ Rows.itemLatticeSpec.plain.varTypes Try.prog) (ds ++ gs)).all (· ≤ reachBytes) = true := hsz0
  have hval : ∀ (j : Nat) t v, Try.f4.params[j]? = some t → args[j]? = some v → Value.okWide Try.prog W .any base t v := hval0
  have hW' := hW
  obtain ⟨p, q, hA0, hV, rfl, hfz, hnd⟩ := hW
  have hA : DataW.TrodAll enc Try.prog W 0 (fun _ => true) true Try.f4.params.toList args.toList ds p := hA0
  rw [Try.params4] at hA hval hsz
  obtain ⟨v0, vs0, d0, ds0, p0, q0, hargs, rfl, rfl, h0, r0⟩ := trodAll_cons hA
  obtain ⟨v1, vs1, d1, ds1, p1, q1, rfl, rfl, rfl, h1, r1⟩ := trodAll_cons r0
  obtain ⟨v2, vs2, d2, ds2, p2, q2, rfl, rfl, rfl, h2, r2⟩ := trodAll_cons r1
  obtain ⟨rfl, rfl, rfl⟩ := trodAll_nil r2
  obtain rfl : args = #[v0, v1, v2] := by cases args; simp_all
  obtain ⟨rfl, rfl⟩ := trodVars_none hV
  clear r0 r1 r2
  have k0 := h0
  have lt0 : ∀ x ∈ p0, x.block < W.heap.size := by obtain ⟨m, hm⟩ := k0; exact DataW.trod_lt m _ _ _ hm
  have z0 : ∀ n ∈ d0.weights Try.prog 25, n ≤ reachBytes := fun n hn => by simpa using List.all_eq_true.1 hsz _ (DataW.weights_mem_each (j := 0) rfl rfl n hn)
  have f0 : W.noneFrozen p0 := fun b off hm => hfz b off (by simp [hm])
  have k1 := h1
  have lt1 : ∀ x ∈ p1, x.block < W.heap.size := by obtain ⟨m, hm⟩ := k1; exact DataW.trod_lt m _ _ _ hm
  have z1 : ∀ n ∈ d1.weights Try.prog 25, n ≤ reachBytes := fun n hn => by simpa using List.all_eq_true.1 hsz _ (DataW.weights_mem_each (j := 1) rfl rfl n hn)
  have f1 : W.noneFrozen p1 := fun b off hm => hfz b off (by simp [hm])
  have k2 := h2
  have lt2 : ∀ x ∈ p2, x.block < W.heap.size := by obtain ⟨m, hm⟩ := k2; exact DataW.trod_lt m _ _ _ hm
  have z2 : ∀ n ∈ d2.weights Try.prog 25, n ≤ reachBytes := fun n hn => by simpa using List.all_eq_true.1 hsz _ (DataW.weights_mem_each (j := 2) rfl rfl n hn)
  have f2 : W.noneFrozen p2 := fun b off hm => hfz b off (by simp [hm])
  obtain ⟨x0, r0, w0⟩ := open_item (hval 0 25 v0 rfl rfl) h0 f0 z0
  obtain ⟨x1, r1, w1⟩ := open_item (hval 1 25 v1 rfl rfl) h1 f1 z1
  obtain ⟨x2, r2, w2⟩ := open_item (hval 2 25 v2 rfl rfl) h2 f2 z2
  clear hA0 hval0
  refine (walk v0 x0 v1 x1 v2 x2 W r0 w0 r1 w1 r2 w2).mono fun e W' ⟨he, bel⟩ => ?_
  subst he
  exact ⟨_, rfl, _, _, _, [], _, [], hW', trodAll_mk1 (shut_bool Try.underlying4 _), (trodAll_cons_mk (Below.trod laidOut (by kernel_rfl) (of_decide_eq_true (by kernel_rfl)) k0 bel lt0) (trodAll_cons_mk (Below.trod laidOut (by kernel_rfl) (of_decide_eq_true (by kernel_rfl)) k1 bel lt1) (trodAll_cons_mk (Below.trod laidOut (by kernel_rfl) (of_decide_eq_true (by kernel_rfl)) k2 bel lt2) trodAll_mk0))), rfl, bel.frame _, fun h => by cases h⟩

theorem over : Rows.itemLatticeRow.holds Try.pinned (OpenSpec.ofChange Rows.itemLatticeSpec) :=
  OpenClaim.holds_of_wide 4 Try.f4 rfl rfl rfl rfl rfl rfl rfl ⟨rfl, rfl, rfl, rfl, rfl⟩ rfl rfl rfl rfl rfl (by kernel_rfl) Try.func4 (by kernel_rfl)
    (of_decide_eq_true (by kernel_rfl)) (by unfold Func.isWrapper; first | (rw [if_pos (by decide +kernel)]; kernel_rfl) | (rw [if_neg (by decide +kernel)]; exact ⟨rfl, rfl⟩))
    (fun os started H enc _ => lifted os started H enc)

end Go.Proofs.Ytogehhdlhdolkaa.itemLattice

namespace Go.Proofs.Ytogehhdlhdolkaa
/-- The statement, by its short name. -/
theorem itemLattice_holds : Rows.ItemLatticeSaid := itemLattice.over
#print axioms itemLattice_holds
end Go.Proofs.Ytogehhdlhdolkaa
