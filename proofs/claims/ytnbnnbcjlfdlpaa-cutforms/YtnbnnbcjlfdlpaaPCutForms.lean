
/-
  CutForms: cuts, and places, that may not be, are refused; a full list takes no new cut, and takes one that is there: at any two numbers. Conditions: none beyond the statement's own.
-/
import Derived.Test.YtnbnnbcjlfdlpaaRows
import Derived.Test.YtnbnnbcjlfdlpaaOpen
import Derived.Test.YtnbnnbcjlfdlpaaCutLaw
namespace Go.Proofs.Ytnbnnbcjlfdlpaa.cutForms
open Go.ChangeShapes Go.WideShapes Go.ChangeAt Go.RowKit
set_option linter.unusedVariables false

/-! ### The walk -/
theorem and31 (n : Int) : bits .and .i64 n 31 = n % 32 := by
  have h1 : (BitVec.ofInt 64 31).toNat = 2 ^ 5 - 1 := by decide
  have key : (BitVec.ofInt 64 n &&& BitVec.ofInt 64 31).toNat = (n % ((2 ^ 64 : Nat) : Int)).toNat % 2 ^ 5 := by
    rw [BitVec.toNat_and, BitVec.toNat_ofInt, h1, Nat.and_two_pow_sub_one_eq_mod]
  show IntKind.i64.wrap ((BitVec.ofInt 64 n &&& BitVec.ofInt 64 31).toNat : Nat) = n % 32
  rw [key, IntKind.wrap_i64]
  omega
theorem cs_bad {c : Cu} (h : cuB c = false) : csB [c] = false := by
  rw [Bool.eq_false_iff]
  intro hs
  have := (csB_iff.1 hs).2.1 c (List.mem_singleton.2 rfl)
  rw [h] at this
  cases this
theorem no_form {cs : List Cu} {a b : Int} (h : cOk cs a b = false) : wcL cs a b = [] ∧ wcE cs a b = 1500 ∧ ocL cs a b = [] ∧ icE cs a b = 1500 ∧ icR cs a b = false := by
  refine ⟨?_, ?_, ?_, ?_, ?_⟩
  · simp [wcL, h]
  · simp [wcE, h]
  · simp [ocL, h]
  · simp [icE, h]
  · simp [icR, h]
theorem bad_ok {cs : List Cu} {a b : Int} (h : csB cs = false) : cOk cs a b = false := by simp [cOk, h]
theorem place_no {y : Int} (h : plB y = false ∨ y = 7) : cOk [] 7 y = false ∧ cOk [] y 7 = false := by
  rcases h with h | rfl
  · simp [cOk, h]
  · decide +kernel
theorem bads_all (w1 : World) (d : Int) (d0 : 0 ≤ d) : ∀ (r : Nat) (h : r < 6), ∃ (s : Value) (bad : List Cu), ([.slice (some ⟨w1.heap.size, 0, none⟩) 1 1, .slice (some ⟨w1.heap.size + 1, 0, none⟩) 1 1, .slice (some ⟨w1.heap.size + 1 + 1, 0, none⟩) 2 2, .slice (some ⟨w1.heap.size + 1 + 1 + 1, 0, none⟩) 2 2, .slice (some ⟨w1.heap.size + 1 + 1 + 1 + 1, 0, none⟩) 1 1, .slice (some ⟨w1.heap.size + 1 + 1 + 1 + 1 + 1, 0, none⟩) 1 1] : List Value)[r]'(by simpa using h) = s ∧ csB bad = false ∧ RowU 0 ((((((w1.alloc (.cells #[.int .i64 3, .int .i64 3] 40)).alloc (.cells #[.int .i64 9, .int .i64 3] 40)).alloc (.cells #[.int .i64 3, .int .i64 9, .int .i64 3, .int .i64 9] 40)).alloc (.cells #[.int .i64 3, .int .i64 9, .int .i64 2, .int .i64 9] 40)).alloc (.cells #[.int .i64 (-(1 + d)), .int .i64 9] 40)).alloc (.cells #[.int .i64 3, .int .i64 (255 + (1 + d))] 40)).heap.size ((((((w1.alloc (.cells #[.int .i64 3, .int .i64 3] 40)).alloc (.cells #[.int .i64 9, .int .i64 3] 40)).alloc (.cells #[.int .i64 3, .int .i64 9, .int .i64 3, .int .i64 9] 40)).alloc (.cells #[.int .i64 3, .int .i64 9, .int .i64 2, .int .i64 9] 40)).alloc (.cells #[.int .i64 (-(1 + d)), .int .i64 9] 40)).alloc (.cells #[.int .i64 3, .int .i64 (255 + (1 + d))] 40)) s bad
  | 0, _ => ⟨_, [⟨3, 3⟩], rfl, by decide +kernel, (Box.rowU [⟨3, 3⟩] ((((((Box.newAt (w := w1) (n := w1.heap.size) #[.int .i64 3, .int .i64 3] 40 (by simp)).alloc _).alloc _).alloc _).alloc _).alloc _) rfl rfl (by simp [maxLen])).wide (Nat.zero_le _) (by simp <;> omega)⟩
  | 1, _ => ⟨_, [⟨9, 3⟩], rfl, by decide +kernel, (Box.rowU [⟨9, 3⟩] (((((Box.newAt (w := (w1.alloc (.cells #[.int .i64 3, .int .i64 3] 40))) (n := w1.heap.size + 1) #[.int .i64 9, .int .i64 3] 40 (by simp)).alloc _).alloc _).alloc _).alloc _) rfl rfl (by simp [maxLen])).wide (Nat.zero_le _) (by simp <;> omega)⟩
  | 2, _ => ⟨_, [⟨3, 9⟩, ⟨3, 9⟩], rfl, by decide +kernel, (Box.rowU [⟨3, 9⟩, ⟨3, 9⟩] ((((Box.newAt (w := ((w1.alloc (.cells #[.int .i64 3, .int .i64 3] 40)).alloc (.cells #[.int .i64 9, .int .i64 3] 40))) (n := w1.heap.size + 1 + 1) #[.int .i64 3, .int .i64 9, .int .i64 3, .int .i64 9] 40 (by simp)).alloc _).alloc _).alloc _) rfl rfl (by simp [maxLen])).wide (Nat.zero_le _) (by simp <;> omega)⟩
  | 3, _ => ⟨_, [⟨3, 9⟩, ⟨2, 9⟩], rfl, by decide +kernel, (Box.rowU [⟨3, 9⟩, ⟨2, 9⟩] (((Box.newAt (w := (((w1.alloc (.cells #[.int .i64 3, .int .i64 3] 40)).alloc (.cells #[.int .i64 9, .int .i64 3] 40)).alloc (.cells #[.int .i64 3, .int .i64 9, .int .i64 3, .int .i64 9] 40))) (n := w1.heap.size + 1 + 1 + 1) #[.int .i64 3, .int .i64 9, .int .i64 2, .int .i64 9] 40 (by simp)).alloc _).alloc _) rfl rfl (by simp [maxLen])).wide (Nat.zero_le _) (by simp <;> omega)⟩
  | 4, _ => ⟨_, [⟨-(1 + d), 9⟩], rfl, cs_bad (by simp [cuB, plB]; omega), (Box.rowU [⟨-(1 + d), 9⟩] ((Box.newAt (w := ((((w1.alloc (.cells #[.int .i64 3, .int .i64 3] 40)).alloc (.cells #[.int .i64 9, .int .i64 3] 40)).alloc (.cells #[.int .i64 3, .int .i64 9, .int .i64 3, .int .i64 9] 40)).alloc (.cells #[.int .i64 3, .int .i64 9, .int .i64 2, .int .i64 9] 40))) (n := w1.heap.size + 1 + 1 + 1 + 1) #[.int .i64 (-(1 + d)), .int .i64 9] 40 (by simp)).alloc _) rfl rfl (by simp [maxLen])).wide (Nat.zero_le _) (by simp <;> omega)⟩
  | 5, _ => ⟨_, [⟨3, 255 + (1 + d)⟩], rfl, cs_bad (by simp [cuB, plB]; omega), (Box.rowU [⟨3, 255 + (1 + d)⟩] (Box.newAt (w := (((((w1.alloc (.cells #[.int .i64 3, .int .i64 3] 40)).alloc (.cells #[.int .i64 9, .int .i64 3] 40)).alloc (.cells #[.int .i64 3, .int .i64 9, .int .i64 3, .int .i64 9] 40)).alloc (.cells #[.int .i64 3, .int .i64 9, .int .i64 2, .int .i64 9] 40)).alloc (.cells #[.int .i64 (-(1 + d)), .int .i64 9] 40))) (n := w1.heap.size + 1 + 1 + 1 + 1 + 1) #[.int .i64 3, .int .i64 (255 + (1 + d))] 40 (by simp)) rfl rfl (by simp [maxLen])).wide (Nat.zero_le _) (by simp <;> omega)⟩

def fullU (m : Nat) : List Cu := (List.range m).map fun (i : Nat) => ⟨(i : Int), 100⟩
theorem fullU_next (m : Nat) : fullU (m + 1) = fullU m ++ [⟨(m : Int), 100⟩] := by simp [fullU, List.range_succ]
theorem fullU_len (m : Nat) : (fullU m).length = m := by simp [fullU]
theorem full_no : wcL (fullU 32) 200 201 = [] ∧ wcE (fullU 32) 200 201 = 1501 := by decide +kernel
theorem full_yes : ∀ q : Nat, q < 32 → wcL (fullU 32) 100 (q : Int) = fullU 32 ∧ wcE (fullU 32) 100 (q : Int) = 0 := by decide +kernel

set_option maxRecDepth 20000 in
set_option maxHeartbeats 8000000 in
theorem walk (a0 : Int) (a1 : Int) (w : World) (w0 : (Lit.int .i64 a0).wf = true) (w1 : (Lit.int .i64 a1).wf = true) :
    Calls Try.prog 4 #[.int .i64 a0, .int .i64 a1] w fun e w' => e = .returned (.bool true) ∧ Below w.heap.size w w' := by
  have ed : bits .and .i64 a1 1023 = a1 % 1024 := and1023 a1
  obtain ⟨d, hd⟩ : ∃ x, x = a1 % 1024 := ⟨_, rfl⟩
  have d0 : 0 ≤ d := by omega
  have d1 : d < 1024 := by omega
  rw [← hd] at ed
  have e31 : bits .and .i64 a1 31 = a1 % 32 := and31 a1
  obtain ⟨q, hq⟩ : ∃ q : Nat, (q : Int) = a1 % 32 := ⟨(a1 % 32).toNat, by omega⟩
  have hq32 : q < 32 := by omega
  rw [← hq] at e31
  have F1 := toHid full_no
  have F2 := toHid (full_yes q hq32)
  obtain ⟨r6, h6, e6⟩ : ∃ r : Nat, r < 6 ∧ wrap64 ((IntKind.u64.wrap a0).tmod 6) = (r : Int) := by
    have e := rem_u64 a0 6 _ rfl
    obtain ⟨r, hr⟩ : ∃ r, (a0 % 18446744073709551616).toNat % 6 = r := ⟨_, rfl⟩
    have hr2 : r < 6 := by rw [← hr]; exact Nat.mod_lt _ (by decide)
    rw [hr] at e
    have e2 : (IntKind.u64.wrap a0).tmod 6 = (r : Int) := e
    exact ⟨r, hr2, by rw [e2, w64_in (r : Int) (by omega)]⟩
  obtain ⟨r3, h3, e3⟩ : ∃ r : Nat, r < 3 ∧ wrap64 ((IntKind.u64.wrap a0).tmod 3) = (r : Int) := by
    have e := rem_u64 a0 3 _ rfl
    obtain ⟨r, hr⟩ : ∃ r, (a0 % 18446744073709551616).toNat % 3 = r := ⟨_, rfl⟩
    have hr2 : r < 3 := by rw [← hr]; exact Nat.mod_lt _ (by decide)
    rw [hr] at e
    have e2 : (IntKind.u64.wrap a0).tmod 3 = (r : Int) := e
    exact ⟨r, hr2, by rw [e2, w64_in (r : Int) (by omega)]⟩
  clear hd hq w0 w1
  have k6 : (r6 : Int) < 6 := by omega
  have k3 : (r3 : Int) < 3 := by omega
  obtain ⟨y, hy, hyb⟩ : ∃ y : Int, ([.int .i64 (-(1 + d)), .int .i64 (255 + (1 + d)), .int .i64 7] : List Value)[r3]'(by simpa using h3) = .int .i64 y ∧ Hid (plB y = false ∨ y = 7) := by
    match r3, h3 with
    | 0, _ => exact ⟨_, rfl, toHid (.inl (by simp [plB]; omega))⟩
    | 1, _ => exact ⟨_, rfl, toHid (.inl (by simp [plB]; omega))⟩
    | 2, _ => exact ⟨_, rfl, toHid (.inr rfl)⟩
  have hyf := toHid (no_form (place_no hyb.out).1)
  have hzf := toHid (no_form (place_no hyb.out).2)
  clear hyb
  have t1 := trivial
  have t2 := trivial
  have t3 := trivial
  go_enter Try.func4, Try.ntmps4
  go_wp2_with (first
    | (go_at_call 20; refine (awake15_any _).mono ?_; rintro e w1 ⟨rfl, h1⟩
       obtain ⟨s, bad, hs, hbad, hR⟩ := bads_all w1 d d0 r6 h6
       replace hbad := toHid hbad
       replace hR := toHid hR)
    | (go_at_call 8; clear t1; refine (uWith_at (hR.out.alloc _ CuV_len) (by simp) _ _ (no_form (bad_ok hbad.out)).1 (no_form (bad_ok hbad.out)).2.1).mono ?_; rintro e w2 ⟨o2, rfl, P2, h2⟩
       have hB2 : Below w.heap.size w w2 := (((((((h1.onA _).onA _).onA _).onA _).onA _).onA _).onA _).on h2
       have R2 : RowU 0 w2.heap.size w2 s bad := ((hR.out.alloc _ CuV_len).below h2 (by simp)).wide (Nat.le_refl _) (Nat.le_trans (by simp) h2.size)
       clear hR P2 h2 hs h1)
    | (go_at_call 10; clear t2; refine (uWithout_at R2 (Nat.le_refl _) _ _ (no_form (bad_ok hbad.out)).2.2.1 (no_form (bad_ok hbad.out)).2.2.2.1).mono ?_; rintro e w3 ⟨o3, rfl, P3, h3⟩
       have R3 : RowU 0 w3.heap.size w3 s bad := (R2.below h3 (Nat.le_refl _)).wide (Nat.le_refl _) h3.size
       have hB3 := hB2.on h3
       clear R2 P3 h3 hB2)
    | (go_at_call 12; clear t3; refine (uIs_at R3 (Nat.le_refl _) _ _ (no_form (bad_ok hbad.out)).2.2.2.2 (no_form (bad_ok hbad.out)).2.2.2.1).mono ?_; rintro e wi ⟨rfl, hi⟩
       have Ri : RowU 0 wi.heap.size wi s bad := (R3.below hi (Nat.le_refl _)).wide (Nat.le_refl _) hi.size
       have hBi := hB3.on hi
       clear R3 hi hB3)
    | (go_at_call 8; refine (uWith_at (cs := []) (lo := 0) (hi := 0) RowC.nil0 (Nat.zero_le _) _ _ hyf.out.1 hyf.out.2.1).mono ?_; rintro e w4 ⟨o4, rfl, P4, h4⟩
       have k4 := ((Below.refl _ wi).onA _).on h4
       clear P4 h4)
    | (go_at_call 10; refine (uWithout_at (cs := []) (lo := 0) (hi := 0) RowC.nil0 (Nat.zero_le _) _ _ hzf.out.2.2.1 hzf.out.2.2.2.1).mono ?_; rintro e w5 ⟨o5, rfl, P5, h5⟩
       have k5 := k4.on h5
       clear P5 h5 k4)
    | (go_at_call 12; refine (uIs_at (cs := []) (lo := 0) (hi := 0) RowC.nil0 (Nat.zero_le _) _ _ hyf.out.2.2.2.2 hyf.out.2.2.2.1).mono ?_; rintro e w6 ⟨rfl, h6⟩
       have k6' := k5.on h6
       have R6 : Hid (RowU 0 w6.heap.size w6 s bad) := toHid ((Ri.below k6' (Nat.le_refl _)).wide (Nat.le_refl _) k6'.size)
       have hB6 := hBi.on k6'
       clear h6 k5 k6' Ri hBi))
  clear hyf hzf hy e6 e3 ed k3 k6
  go_loopw [21, 22] (fun o i wr => ∃ m : Nat, m ≤ 32 ∧ i = .int .i64 m ∧ wr.ownsRow w6.heap.size 40 2 o m ((fullU m).flatMap CuV) ∧ Below w6.heap.size w6 wr) (fun _ i _ => 32 - (intOf i).toNat)
  case atStart => exact ⟨0, Nat.zero_le _, rfl, ⟨rfl, .inl ⟨rfl, rfl⟩⟩, Below.refl _ _⟩
  case round =>
    obtain ⟨m, hm, rfl, own, hbr⟩ := hrel
    by_cases hlt : m < 32
    · have hlt' : (m : Int) < 32 := by omega
      have OA := toHid own
      clear F1 F2 hbad R6 own
      go_wp2_with (at_builtin; refine app_cus rfl (.tmp 103) (.tmp 106) rfl w6.heap.size _ m (fullU m) rfl (OA.out.alloc _) ⟨wr.heap.size, 0, none⟩ 1 1 [⟨(m : Int), 100⟩] rfl rfl (fun j hj => ?_) (by omega) (by have := hbr.size; simp; omega) ?_; · (rw [add_plain, Nat.zero_add]; refine ((Box.newAt _ _ rfl).2.1 j).trans ?_; simp [CuV]))
      intro v7 w7 hown7 hgr7 hbel7
      go_wp2
      go_roundw
      case rel => exact ⟨m + 1, by omega, by go_num, by rw [fullU_next]; simpa using hown7, (hbr.onA _).trans hbel7⟩
      case measure => simp [intOf]; omega
    · have hme : m = 32 := by omega
      subst hme
      have rF : RowU w6.heap.size wr.heap.size wr _ (fullU 32) := RowC.of_owns (by decide) CuV_len own
      obtain ⟨pF, cF, eF, -, -⟩ := rF.cus (Nat.le_refl _)
      rw [fullU_len] at eF
      subst eF
      have RB : Hid (RowU 0 w6.heap.size wr s bad) := toHid (R6.out.below hbr (Nat.le_refl _))
      have hz5 := hbr.size
      replace rF := toHid rF
      have j1 := trivial
      have j2 := trivial
      clear own R6
      go_wp2_with (first
        | (go_at_call 8; clear j1; refine (uWith_at rF.out (Nat.le_refl _) _ _ F1.out.1 F1.out.2).mono ?_; rintro e wa ⟨oa, rfl, Pa, ha⟩
           clear Pa)
        | (go_at_call 8; refine (uWith_at (rF.out.below ha (Nat.le_refl _)) ha.size _ _ F2.out.1 F2.out.2).mono ?_; rintro e wb ⟨ob, rfl, Pb, hb⟩
           have kb := ha.on hb
           replace Pb := toHid Pb)
        | (go_at_call 16; clear j2; refine (uMay_is (RB.out.below kb hz5) (Nat.le_trans hz5 kb.size) hbad.out).mono ?_; rintro e wc ⟨rfl, hc⟩
           have kc := kb.on hc)
        | (go_at_call 16; refine (uMay_is (rF.out.below kc (Nat.le_refl _)) kc.size (r := true) (by decide +kernel)).mono ?_; rintro e wd ⟨rfl, hd⟩
           have kd := kc.on hd)
        | (go_at_call 14; refine (sameU_at (Pb.out.below (hc.on hd) (Nat.le_refl _)) (rF.out.below kd (Nat.le_refl _)) (b := true) (by simp)).mono ?_; rintro e we ⟨rfl, he⟩)
        | (go_at_call 15; refine (num_any _ _).mono ?_; rintro e w' ⟨rfl, hw'⟩; subst w'))
      go_ret
      exact ⟨rfl, ((hB6.on hbr).on kd).on he⟩

/-! ### The row's step -/
set_option maxRecDepth 100000 in
theorem lifted (os : Os) (started : os.Started) (H : Type) (enc : TypeId × Value → H) :
    ReturnsInHanded {} Try.checked os 4 .any (Rows.cutFormsSpec.pre6 enc Try.prog Try.f4 Rows.cutFormsRow.domain false) (Rows.cutFormsSpec.post enc Try.prog Try.f4 false true false false) := by
  refine returnsInHanded_of_change_sized (C := Try.checked) ownK started (by kernel_rfl) Try.func4
    (ChangeSpec.witness6 (enc := enc) (C := Try.checked) false ⟨#[], #[.int .i64 0, .int .i64 0], []⟩ 8 (by kernel_rfl) (by kernel_rfl) (by kernel_rfl) (by kernel_rfl)) ?_
  intro W base args ds gs before hval0 hW hcnd hsz0 _
  have hsz : (DataW.weightsEach Try.prog (Try.f4.params.toList ++ Rows.cutFormsSpec.plain.varTypes Try.prog) (ds ++ gs)).all (· ≤ reachBytes) = true := hsz0
  have hval : ∀ (j : Nat) t v, Try.f4.params[j]? = some t → args[j]? = some v → Value.okWide Try.prog W .any base t v := hval0
  have hW' := hW
  obtain ⟨p, q, hA0, hV, rfl, hfz, hnd⟩ := hW
  have hA : DataW.TrodAll enc Try.prog W 0 (fun _ => true) true Try.f4.params.toList args.toList ds p := hA0
  rw [Try.params4] at hA hval hsz
  obtain ⟨v0, vs0, d0, ds0, p0, q0, hargs, rfl, rfl, h0, r0⟩ := trodAll_cons hA
  obtain ⟨v1, vs1, d1, ds1, p1, q1, rfl, rfl, rfl, h1, r1⟩ := trodAll_cons r0
  obtain ⟨rfl, rfl, rfl⟩ := trodAll_nil r1
  obtain rfl : args = #[v0, v1] := by cases args; simp_all
  obtain ⟨rfl, rfl⟩ := trodVars_none hV
  clear r0 r1
  have k0 := h0
  have lt0 : ∀ x ∈ p0, x.block < W.heap.size := by obtain ⟨m, hm⟩ := k0; exact DataW.trod_lt m _ _ _ hm
  have k1 := h1
  have lt1 : ∀ x ∈ p1, x.block < W.heap.size := by obtain ⟨m, hm⟩ := k1; exact DataW.trod_lt m _ _ _ hm
  obtain ⟨a0, rfl, rfl, rfl, w0⟩ := open_int Try.underlying3 (hval 0 3 v0 rfl rfl) h0
  obtain ⟨a1, rfl, rfl, rfl, w1⟩ := open_int Try.underlying3 (hval 1 3 v1 rfl rfl) h1
  clear hA0 hval0
  refine (walk a0 a1 W w0 w1).mono fun e W' ⟨he, bel⟩ => ?_
  subst he
  exact ⟨_, rfl, _, _, _, [], _, [], hW', trodAll_mk1 (shut_bool Try.underlying4 _), (trodAll_cons_mk (Below.trod laidOut (by kernel_rfl) (of_decide_eq_true (by kernel_rfl)) k0 bel lt0) (trodAll_cons_mk (Below.trod laidOut (by kernel_rfl) (of_decide_eq_true (by kernel_rfl)) k1 bel lt1) trodAll_mk0)), rfl, bel.frame _, fun h => by cases h⟩

theorem over : Rows.cutFormsRow.holds Try.pinned (OpenSpec.ofChange Rows.cutFormsSpec) :=
  OpenClaim.holds_of_wide 4 Try.f4 rfl rfl rfl rfl rfl rfl rfl ⟨rfl, rfl, rfl, rfl, rfl⟩ rfl rfl rfl rfl rfl (by kernel_rfl) Try.func4 (by kernel_rfl)
    (of_decide_eq_true (by kernel_rfl)) (by unfold Func.isWrapper; first | (rw [if_pos (by decide +kernel)]; kernel_rfl) | (rw [if_neg (by decide +kernel)]; exact ⟨rfl, rfl⟩))
    (fun os started H enc _ => lifted os started H enc)

end Go.Proofs.Ytnbnnbcjlfdlpaa.cutForms

namespace Go.Proofs.Ytnbnnbcjlfdlpaa
/-- The statement, by its short name. -/
theorem cutForms_holds : Rows.CutFormsSaid := cutForms.over
#print axioms cutForms_holds
end Go.Proofs.Ytnbnnbcjlfdlpaa
