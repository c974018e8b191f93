
/-
  CutOther: a cut put, or taken, leaves all others: at any list of cuts and any four numbers (taken as places below 16). Conditions: none beyond the statement's own.
-/
import Derived.Test.YtnbnnbcjlfdlpaaRows
import Derived.Test.YtnbnnbcjlfdlpaaOpen
import Derived.Test.YtnbnnbcjlfdlpaaCutLaw
import Derived.Test.YtnbnnbcjlfdlpaaOpenU
import Derived.Deep.DeepCutAuto
import Derived.Deep.CutRange
import Derived.Deep.CutBlock
namespace Go.Proofs.Ytnbnnbcjlfdlpaa.cutOther
open Go.ChangeShapes Go.WideShapes Go.ChangeAt Go.RowKit
set_option linter.unusedVariables false

/-! ### The walk -/
theorem ic_at {cs : List Cu} {a b : Int} (hs : csB cs = true) (ha : plB a = true) (hb : plB b = true) (h : ¬ a = b) : icR cs a b = decide (mkC a b ∈ cs) ∧ icE cs a b = 0 := by
  have hok : cOk cs a b = true := cOk_iff2.2 ⟨hs, ha, hb, h⟩
  exact ⟨by simp [icR, hok], by simp [icE, hok]⟩
theorem csB_ne {cs : List Cu} {d : Cu} (h : csB cs = true) : csB (cs.filter (neC d)) = true := by
  obtain ⟨h1, h2, h3⟩ := csB_iff.1 h
  exact csB_iff.2 ⟨Nat.le_trans (List.length_filter_le _ _) h1, fun c hc => h2 c (List.mem_filter.1 hc).1, h3.filter _⟩
theorem csB_wc {cs : List Cu} {d : Cu} (h : csB cs = true) (hd : cuB d = true) (hl : (wcI cs d).length ≤ 32) : csB (wcI cs d) = true := by
  obtain ⟨h1, h2, h3⟩ := csB_iff.1 h
  exact csB_iff.2 ⟨hl, fun c hc => by rcases (wc_mem h2 hd).1 hc with rfl | h; · exact hd
                                      · exact h2 c h, wc_up h3⟩
theorem mk_min {a b c d : Int} (h1 : ¬ a = b) (h2 : ¬ c = d) : (a < b ∨ b < a) ∧ (c < d ∨ d < c) := by omega

set_option maxHeartbeats 8000000 in
theorem walk (v0 : Value) (x0 : List Cu) (a1 : Int) (a2 : Int) (a3 : Int) (a4 : Int) (w : World) (r0 : RowU 0 w.heap.size w v0 x0) (s0 : x0.length * 16 ≤ 140737488351232) (w0 : ∀ x ∈ x0, CuW x) (w1 : (Lit.int .i64 a1).wf = true) (w2 : (Lit.int .i64 a2).wf = true) (w3 : (Lit.int .i64 a3).wf = true) (w4 : (Lit.int .i64 a4).wf = true) :
    Calls Try.prog 6 #[v0, .int .i64 a1, .int .i64 a2, .int .i64 a3, .int .i64 a4] w fun e w' => e = .returned (.bool true) ∧ Below w.heap.size w w' := by
  clear w0 w1 w2 w3 w4 s0
  have e1 : bits .and .i64 a1 15 = a1 % 16 := and15 a1
  have e2 : bits .and .i64 a2 15 = a2 % 16 := and15 a2
  have e3 : bits .and .i64 a3 15 = a3 % 16 := and15 a3
  have e4 : bits .and .i64 a4 15 = a4 % 16 := and15 a4
  obtain ⟨p, hp⟩ : ∃ p, a1 % 16 = p := ⟨_, rfl⟩
  obtain ⟨q, hq⟩ : ∃ p, a2 % 16 = p := ⟨_, rfl⟩
  obtain ⟨y, hy⟩ : ∃ p, a3 % 16 = p := ⟨_, rfl⟩
  obtain ⟨z, hzz⟩ : ∃ p, a4 % 16 = p := ⟨_, rfl⟩
  rw [hp] at e1
  rw [hq] at e2
  rw [hy] at e3
  rw [hzz] at e4
  have bp : plB p = true := plB_mk (by omega) (by omega)
  have bq : plB q = true := plB_mk (by omega) (by omega)
  have by_ : plB y = true := plB_mk (by omega) (by omega)
  have bz : plB z = true := plB_mk (by omega) (by omega)
  clear hp hq hy hzz
  have hr := r0
  have hz : w.heap.size ≤ w.heap.size := Nat.le_refl _
  clear r0
  cases hok : cOk x0 p q with
  | false =>
    have f1 : wcL x0 p q = [] := by simp [wcL, hok]
    have f2 : wcE x0 p q = 1500 := by simp [wcE, hok]
    have f3 : ocL x0 p q = [] := by simp [ocL, hok]
    have f4 : icE x0 p q = 1500 := by simp [icE, hok]
    replace f1 := toHid f1
    replace f2 := toHid f2
    replace f3 := toHid f3
    replace f4 := toHid f4
    replace hr := toHid hr
    clear hok bp bq by_ bz
    have hyz : y = z ∨ (¬ y = z ∧ (y == z) = false) := by
      by_cases h : y = z
      · exact .inl h
      · exact .inr ⟨h, by simpa using h⟩
    rcases hyz with rfl | ⟨hyz, hyz2⟩
    all_goals
      go_enter Try.func6, Try.ntmps6
      go_wp2_with (first
        | (go_at_call 20; refine (awake15_any _).mono ?_; rintro e w1 ⟨rfl, h1⟩)
        | (go_at_call 8; refine (uWith_at (hr.out.below h1 hz) h1.size _ _ f1.out f2.out).mono ?_; rintro e w2 ⟨u2, rfl, P2, h2⟩
           obtain ⟨pa, ca, rfl, -, -⟩ := P2.cus (Nat.le_refl _)
           have hB2 := h1.on h2
           clear P2)
        | (go_at_call 10; refine (uWithout_at (hr.out.below hB2 hz) hB2.size _ _ f3.out f4.out).mono ?_; rintro e w3 ⟨u3, rfl, P3, h3⟩
           obtain ⟨pb, cb, rfl, -, -⟩ := P3.cus (Nat.le_refl _)
           have hB3 := hB2.on h3
           clear P3)
        | (go_at_call 15; refine (num_any _ _).mono ?_; rintro e w' ⟨rfl, hw'⟩; subst w'))
      go_ret
      exact ⟨rfl, hB3⟩
  | true =>
    obtain ⟨hs, -, -, hne⟩ := cOk_iff2.1 hok
    obtain ⟨hl32, hcb, hup⟩ := csB_iff.1 hs
    have hd := mk_ok bp bq hne
    have f3 : ocL x0 p q = x0.filter (neC (mkC p q)) := by simp [ocL, hok]
    have f4 : icE x0 p q = 0 := by simp [icE, hok]
    have hsB := csB_ne (d := mkC p q) hs
    replace f3 := toHid f3
    replace f4 := toHid f4
    replace hr := toHid hr
    by_cases hyz : y = z
    · subst hyz
      have G : Hid (∀ w1, Below w.heap.size w w1 → _) := fun w1 h1 => uWith_any (hr.out.below h1 hz) h1.size p q
      replace hsB := toHid hsB
      clear hok bp bq by_ bz hs hl32 hcb hup hd hne
      go_enter Try.func6, Try.ntmps6
      go_wp2_with (first
        | (go_at_call 20; refine (awake15_any _).mono ?_; rintro e w1 ⟨rfl, h1⟩)
        | (go_at_call 8; refine (G.out _ h1).mono ?_; rintro e w2 ⟨u2, rfl, P2, h2⟩
           have hB2 := h1.on h2
           clear P2)
        | (go_at_call 10; refine (uWithout_at (hr.out.below hB2 hz) hB2.size _ _ f3.out f4.out).mono ?_; rintro e w3 ⟨u3, rfl, P3, h3⟩
           have hB3 := hB2.on h3
           clear P3)
        | (go_at_call 15; refine (num_any _ _).mono ?_; rintro e w' ⟨rfl, hw'⟩; subst w'))
      go_ret
      exact ⟨rfl, hB3⟩
    · have hyz2 : (y == z) = false := by simpa using hyz
      obtain ⟨i1, i2⟩ := ic_at hs by_ bz hyz
      obtain ⟨j1, j2⟩ := ic_at hsB by_ bz hyz
      obtain ⟨sm, hsm⟩ : ∃ sm, decide (mkC p q = mkC y z) = sm := ⟨_, rfl⟩
      obtain ⟨old, hold⟩ : ∃ old, decide (mkC y z ∈ x0) = old := ⟨_, rfl⟩
      have j3 : decide (mkC y z ∈ x0.filter (neC (mkC p q))) = (old && !sm) := by
        rw [← hold, ← hsm, Bool.eq_iff_iff, decide_eq_true_iff, mem_neC, Bool.and_eq_true, Bool.not_eq_true', decide_eq_true_iff, decide_eq_false_iff_not]
        exact ⟨fun ⟨h1, h2⟩ => ⟨h1, fun e => h2 e.symm⟩, fun ⟨h1, h2⟩ => ⟨h1, fun e => h2 e.symm⟩⟩
      obtain ⟨r5, hr5⟩ : ∃ r5, (old && !sm) = r5 := ⟨_, rfl⟩
      rw [j3, hr5] at j1
      replace hr5 := toHid hr5
      rw [hold] at i1
      replace i1 := toHid i1
      replace i2 := toHid i2
      replace j1 := toHid j1
      replace j2 := toHid j2
      replace hsm := toHid hsm
      have hpq : p < q ∨ q < p := by omega
      have hyz3 : y < z ∨ z < y := by omega
      have hfl : (∃ A, Hid (wcL x0 p q = A) ∧ Hid (wcE x0 p q = 0) ∧ Hid (icR A y z = (old || sm)) ∧ Hid (icE A y z = 0) ∧ Hid (csB A = true)) ∨ Hid (wcL x0 p q = [] ∧ wcE x0 p q = 1501) := by
        by_cases hl : (wcI x0 (mkC p q)).length ≤ 32
        · refine .inl ⟨wcI x0 (mkC p q), toHid (by simp [wcL, hok, hl]), toHid (by simp [wcE, hok, hl]), ?_, ?_, toHid (csB_wc hs hd hl)⟩
          · refine toHid ((ic_at (csB_wc hs hd hl) by_ bz hyz).1.trans ?_)
            rw [← hold, ← hsm.out, Bool.eq_iff_iff, decide_eq_true_iff, wc_mem hcb hd, Bool.or_eq_true, decide_eq_true_iff, decide_eq_true_iff]
            exact ⟨fun h => h.elim (fun e => .inr e.symm) .inl, fun h => h.elim .inr (fun e => .inl e.symm)⟩
          · exact toHid (ic_at (csB_wc hs hd hl) by_ bz hyz).2
        · exact .inr (toHid ⟨by simp [wcL, hok, hl], by simp [wcE, hok, hl]⟩)
      replace hsB := toHid hsB
      generalize x0.filter (neC (mkC p q)) = Bq at *
      have G : Hid (∀ w1, Below w.heap.size w w1 → _) := fun w1 h1 => uWith_any (hr.out.below h1 hz) h1.size p q
      have t1 := trivial
      clear hok bp bq by_ bz hs hl32 hcb hup hd hold j3
      go_enter Try.func6, Try.ntmps6
      go_upto_region 10 with (first
        | (go_at_call 20; refine (awake15_any _).mono ?_; rintro e w1 ⟨rfl, h1⟩)
        | (go_at_call 8; refine (G.out _ h1).mono ?_; rintro e w2 ⟨u2, rfl, P2, h2⟩
           have hB2 := h1.on h2
           replace P2 := toHid P2)
        | (go_at_call 10; refine (uWithout_at (hr.out.below hB2 hz) hB2.size _ _ f3.out f4.out).mono ?_; rintro e w3 ⟨u3, rfl, P3, h3⟩
           have hB3 := hB2.on h3
           have P23 := toHid (P2.out.below h3 (Nat.le_refl _))
           replace P3 := toHid P3
           have y3 := h3.size)
        | (go_at_call 12; clear t1; refine (uIs_at (hr.out.below hB3 hz) hB3.size _ _ i1.out i2.out).mono ?_; rintro e w4 ⟨rfl, h4⟩
           have hB4 := hB3.on h4
           have P24 := toHid (P23.out.below h4 y3)
           have P34 := toHid (P3.out.below h4 (Nat.le_refl _))
           have y4 := Nat.le_trans y3 h4.size
           have z4 := h4.size)
        | (go_at_call 12; refine (uIs_at P34.out z4 _ _ j1.out j2.out).mono ?_; rintro e w5 ⟨rfl, h5⟩
           have hB5 := hB4.on h5
           have P25 := toHid (P24.out.below h5 y4)
           have P35 := toHid (P34.out.below h5 z4)
           have y5 := Nat.le_trans y4 h5.size
           have z5 := Nat.le_trans z4 h5.size
           clear P2 P3 P23 P24 P34 h2 h3 h4 h5 y3 y4 z4 hB2 hB3 hB4 h1)
        | (go_at_call 15; refine (num_any _ _).mono ?_; rintro e w' ⟨rfl, hw'⟩; subst w'))
      go_cut [23] from 83 to 98 (fun v23 wx => v23 = .bool sm ∧ wx = w5)
      case first =>
        clear G hr P25 P35 hfl i1 i2 j1 j2 f3 f4 hsB
        rcases hpq with hpq | hpq <;> rcases hyz3 with hyz3 | hyz3
        · have m1 : min p q = p := by omega
          have m2 : max p q = q := by omega
          have m3 : min y z = y := by omega
          have m4 : max y z = z := by omega
          have n1 : ¬ q ≤ p := by omega
          have n2 : ¬ z ≤ y := by omega
          have hM := hsm.out
          rw [mkC, mkC, m1, m2, m3, m4] at hM
          clear hsm hr5
          replace hM := toHid hM
          by_cases h1 : p = y
          · by_cases h2 : q = z
            · subst h1 h2
              go_wp2
              go_meet
              exact ⟨by rw [← hM.out]; simp, rfl⟩
            · have h2' : (q == z) = false := by simpa using h2
              subst h1
              go_wp2
              go_meet
              exact ⟨by rw [← hM.out]; simp [h2], rfl⟩
          · have h1' : (p == y) = false := by simpa using h1
            go_wp2
            go_meet
            exact ⟨by rw [← hM.out]; simp [h1], rfl⟩
        · have m1 : min p q = p := by omega
          have m2 : max p q = q := by omega
          have m3 : min y z = z := by omega
          have m4 : max y z = y := by omega
          have n1 : ¬ q ≤ p := by omega
          have n2 : ¬ y ≤ z := by omega
          have hM := hsm.out
          rw [mkC, mkC, m1, m2, m3, m4] at hM
          clear hsm hr5
          replace hM := toHid hM
          by_cases h1 : p = z
          · by_cases h2 : q = y
            · subst h1 h2
              go_wp2
              go_meet
              exact ⟨by rw [← hM.out]; simp, rfl⟩
            · have h2' : (q == y) = false := by simpa using h2
              subst h1
              go_wp2
              go_meet
              exact ⟨by rw [← hM.out]; simp [h2], rfl⟩
          · have h1' : (p == z) = false := by simpa using h1
            go_wp2
            go_meet
            exact ⟨by rw [← hM.out]; simp [h1], rfl⟩
        · have m1 : min p q = q := by omega
          have m2 : max p q = p := by omega
          have m3 : min y z = y := by omega
          have m4 : max y z = z := by omega
          have n1 : ¬ p ≤ q := by omega
          have n2 : ¬ z ≤ y := by omega
          have hM := hsm.out
          rw [mkC, mkC, m1, m2, m3, m4] at hM
          clear hsm hr5
          replace hM := toHid hM
          by_cases h1 : q = y
          · by_cases h2 : p = z
            · subst h1 h2
              go_wp2
              go_meet
              exact ⟨by rw [← hM.out]; simp, rfl⟩
            · have h2' : (p == z) = false := by simpa using h2
              subst h1
              go_wp2
              go_meet
              exact ⟨by rw [← hM.out]; simp [h2], rfl⟩
          · have h1' : (q == y) = false := by simpa using h1
            go_wp2
            go_meet
            exact ⟨by rw [← hM.out]; simp [h1], rfl⟩
        · have m1 : min p q = q := by omega
          have m2 : max p q = p := by omega
          have m3 : min y z = z := by omega
          have m4 : max y z = y := by omega
          have n1 : ¬ p ≤ q := by omega
          have n2 : ¬ y ≤ z := by omega
          have hM := hsm.out
          rw [mkC, mkC, m1, m2, m3, m4] at hM
          clear hsm hr5
          replace hM := toHid hM
          by_cases h1 : q = z
          · by_cases h2 : p = y
            · subst h1 h2
              go_wp2
              go_meet
              exact ⟨by rw [← hM.out]; simp, rfl⟩
            · have h2' : (p == y) = false := by simpa using h2
              subst h1
              go_wp2
              go_meet
              exact ⟨by rw [← hM.out]; simp [h2], rfl⟩
          · have h1' : (q == z) = false := by simpa using h1
            go_wp2
            go_meet
            exact ⟨by rw [← hM.out]; simp [h1], rfl⟩
      case rest =>
        obtain ⟨rfl, rfl⟩ := hcut
        clear hpq hyz3 G hr f3 f4 i1 i2 j1 j2 hsm hyz hyz2
        rcases hfl with ⟨A, a1', a2', a3', a4', a5'⟩ | hfl
        · rw [a1'.out] at P25
          rw [a2'.out]
          clear a1' a2'
          cases old <;> cases sm
          all_goals
            obtain rfl := hr5.out
            replace a3' := toHid a3'.out
            simp only [Bool.or_false, Bool.or_true, Bool.not_true, Bool.not_false, Bool.and_true, Bool.and_false] at a3' ⊢
            have m1 := trivial
            go_wp2_with (first
              | (go_at_call 12; refine (uIs_at P25.out y5 _ _ a3'.out a4'.out).mono ?_; rintro e w6 ⟨rfl, h6⟩
                 have hB6 := hB5.on h6
                 have P26 := toHid (P25.out.below h6 y5)
                 have P36 := toHid (P35.out.below h6 z5)
                 have y6 := Nat.le_trans y5 h6.size
                 have z6 := Nat.le_trans z5 h6.size)
              | (go_at_call 16; clear m1; refine (uMay_is P26.out y6 a5'.out).mono ?_; rintro e w7 ⟨rfl, h7⟩)
              | (go_at_call 16; refine (uMay_is (P36.out.below h7 z6) (Nat.le_trans z6 h7.size) hsB.out).mono ?_; rintro e w8 ⟨rfl, h8⟩)
              | (go_at_call 15; refine (num_any _ _).mono ?_; rintro e w' ⟨rfl, hw'⟩; subst w'))
            go_ret
            exact ⟨rfl, (hB6.on h7).on h8⟩
        · rw [hfl.out.2]
          clear P25 P35 hsB
          cases old <;> cases sm
          all_goals
            obtain rfl := hr5.out
            simp only [Bool.not_true, Bool.not_false, Bool.and_true, Bool.and_false]
            go_wp2_with (first
              | (go_at_call 15; refine (num_any _ _).mono ?_; rintro e w' ⟨rfl, hw'⟩; subst w'))
            go_ret
            exact ⟨rfl, hB5⟩

/-! ### The row's step -/
set_option maxRecDepth 100000 in
theorem lifted (os : Os) (started : os.Started) (H : Type) (enc : TypeId × Value → H) :
    ReturnsInHanded {} Try.checked os 6 .any (Rows.cutOtherSpec.pre6 enc Try.prog Try.f6 Rows.cutOtherRow.domain false) (Rows.cutOtherSpec.post enc Try.prog Try.f6 false true false false) := by
  refine returnsInHanded_of_change_sized (C := Try.checked) ownK started (by kernel_rfl) Try.func6
    (ChangeSpec.witness6 (enc := enc) (C := Try.checked) false ⟨#[], #[.slice none 0 0, .int .i64 0, .int .i64 0, .int .i64 0, .int .i64 0], []⟩ 8 (by kernel_rfl) (by kernel_rfl) (by kernel_rfl) (by kernel_rfl)) ?_
  intro W base args ds gs before hval0 hW hcnd hsz0 _
  have hsz : (DataW.weightsEach Try.prog (Try.f6.params.toList ++ Rows.cutOtherSpec.plain.varTypes Try.prog) (ds ++ gs)).all (· ≤ reachBytes) = true := hsz0
  have hval : ∀ (j : Nat) t v, Try.f6.params[j]? = some t → args[j]? = some v → Value.okWide Try.prog W .any base t v := hval0
  have hW' := hW
  obtain ⟨p, q, hA0, hV, rfl, hfz, hnd⟩ := hW
  have hA : DataW.TrodAll enc Try.prog W 0 (fun _ => true) true Try.f6.params.toList args.toList ds p := hA0
  rw [Try.params6] at hA hval hsz
  obtain ⟨v0, vs0, d0, ds0, p0, q0, hargs, rfl, rfl, h0, r0⟩ := trodAll_cons hA
  obtain ⟨v1, vs1, d1, ds1, p1, q1, rfl, rfl, rfl, h1, r1⟩ := trodAll_cons r0
  obtain ⟨v2, vs2, d2, ds2, p2, q2, rfl, rfl, rfl, h2, r2⟩ := trodAll_cons r1
  obtain ⟨v3, vs3, d3, ds3, p3, q3, rfl, rfl, rfl, h3, r3⟩ := trodAll_cons r2
  obtain ⟨v4, vs4, d4, ds4, p4, q4, rfl, rfl, rfl, h4, r4⟩ := trodAll_cons r3
  obtain ⟨rfl, rfl, rfl⟩ := trodAll_nil r4
  obtain rfl : args = #[v0, v1, v2, v3, v4] := by cases args; simp_all
  obtain ⟨rfl, rfl⟩ := trodVars_none hV
  clear r0 r1 r2 r3 r4
  have k0 := h0
  have lt0 : ∀ x ∈ p0, x.block < W.heap.size := by obtain ⟨m, hm⟩ := k0; exact DataW.trod_lt m _ _ _ hm
  have z0 : ∀ n ∈ d0.weights Try.prog 22, n ≤ reachBytes := fun n hn => by simpa using List.all_eq_true.1 hsz _ (DataW.weights_mem_each (j := 0) rfl rfl n hn)
  have f0 : W.noneFrozen p0 := fun b off hm => hfz b off (by simp [hm])
  have k1 := h1
  have lt1 : ∀ x ∈ p1, x.block < W.heap.size := by obtain ⟨m, hm⟩ := k1; exact DataW.trod_lt m _ _ _ hm
  have k2 := h2
  have lt2 : ∀ x ∈ p2, x.block < W.heap.size := by obtain ⟨m, hm⟩ := k2; exact DataW.trod_lt m _ _ _ hm
  have k3 := h3
  have lt3 : ∀ x ∈ p3, x.block < W.heap.size := by obtain ⟨m, hm⟩ := k3; exact DataW.trod_lt m _ _ _ hm
  have k4 := h4
  have lt4 : ∀ x ∈ p4, x.block < W.heap.size := by obtain ⟨m, hm⟩ := k4; exact DataW.trod_lt m _ _ _ hm
  obtain ⟨x0, r0, s0, w0⟩ := open_rowU (hval 0 22 v0 rfl rfl) h0 f0 z0
  obtain ⟨a1, rfl, rfl, rfl, w1⟩ := open_int Try.underlying3 (hval 1 3 v1 rfl rfl) h1
  obtain ⟨a2, rfl, rfl, rfl, w2⟩ := open_int Try.underlying3 (hval 2 3 v2 rfl rfl) h2
  obtain ⟨a3, rfl, rfl, rfl, w3⟩ := open_int Try.underlying3 (hval 3 3 v3 rfl rfl) h3
  obtain ⟨a4, rfl, rfl, rfl, w4⟩ := open_int Try.underlying3 (hval 4 3 v4 rfl rfl) h4
  clear hA0 hval0
  refine (walk v0 x0 a1 a2 a3 a4 W r0 s0 w0 w1 w2 w3 w4).mono fun e W' ⟨he, bel⟩ => ?_
  subst he
  exact ⟨_, rfl, _, _, _, [], _, [], hW', trodAll_mk1 (shut_bool Try.underlying4 _), (trodAll_cons_mk (Below.trod laidOut (by kernel_rfl) (of_decide_eq_true (by kernel_rfl)) k0 bel lt0) (trodAll_cons_mk (Below.trod laidOut (by kernel_rfl) (of_decide_eq_true (by kernel_rfl)) k1 bel lt1) (trodAll_cons_mk (Below.trod laidOut (by kernel_rfl) (of_decide_eq_true (by kernel_rfl)) k2 bel lt2) (trodAll_cons_mk (Below.trod laidOut (by kernel_rfl) (of_decide_eq_true (by kernel_rfl)) k3 bel lt3) (trodAll_cons_mk (Below.trod laidOut (by kernel_rfl) (of_decide_eq_true (by kernel_rfl)) k4 bel lt4) trodAll_mk0))))), rfl, bel.frame _, fun h => by cases h⟩

theorem over : Rows.cutOtherRow.holds Try.pinned (OpenSpec.ofChange Rows.cutOtherSpec) :=
  OpenClaim.holds_of_wide 6 Try.f6 rfl rfl rfl rfl rfl rfl rfl ⟨rfl, rfl, rfl, rfl, rfl⟩ rfl rfl rfl rfl rfl (by kernel_rfl) Try.func6 (by kernel_rfl)
    (of_decide_eq_true (by kernel_rfl)) (by unfold Func.isWrapper; first | (rw [if_pos (by decide +kernel)]; kernel_rfl) | (rw [if_neg (by decide +kernel)]; exact ⟨rfl, rfl⟩))
    (fun os started H enc _ => lifted os started H enc)

end Go.Proofs.Ytnbnnbcjlfdlpaa.cutOther

namespace Go.Proofs.Ytnbnnbcjlfdlpaa
/-- The statement, by its short name. -/
theorem cutOther_holds : Rows.CutOtherSaid := cutOther.over
#print axioms cutOther_holds
end Go.Proofs.Ytnbnnbcjlfdlpaa
