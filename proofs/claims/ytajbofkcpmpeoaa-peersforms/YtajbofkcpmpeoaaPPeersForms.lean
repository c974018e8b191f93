
/-
  The statement PeersForms: of any two numbers, lists and places that may not be are refused with the form's error, a full list takes no new one, and hears one that is there.
-/
import Derived.Test.YtajbofkcpmpeoaaRows
import Derived.Test.YtajbofkcpmpeoaaOpen
import Derived.Test.YtajbofkcpmpeoaaPeerLaw
namespace Go.Proofs.Ytajbofkcpmpeoaa.peersForms
open Go.ChangeShapes Go.WideShapes Go.ChangeAt Go.RowKit
set_option linter.unusedVariables false

/-! ### The walk -/
theorem and15 (n : Int) : bits .and .i64 n 15 = n % 16 := by
  have h1 : (BitVec.ofInt 64 15).toNat = 2 ^ 4 - 1 := by decide
  have key : (BitVec.ofInt 64 n &&& BitVec.ofInt 64 15).toNat = (n % ((2 ^ 64 : Nat) : Int)).toNat % 2 ^ 4 := by
    rw [BitVec.toNat_and, BitVec.toNat_ofInt, h1, Nat.and_two_pow_sub_one_eq_mod]
  show IntKind.i64.wrap ((BitVec.ofInt 64 n &&& BitVec.ofInt 64 15).toNat : Nat) = n % 16
  rw [key, IntKind.wrap_i64]
  omega
theorem ps_bad {b : Int} {p : Pe} (h : peB b p = false) : psB b [p] = false := by
  rw [Bool.eq_false_iff]
  intro hs
  have := (psB_iff.1 hs).2.1 p (List.mem_singleton.2 rfl)
  rw [h] at this
  cases this
theorem bads_all (w1 : World) (d : Int) (d0 : 0 ≤ d) : ∀ (r : Nat) (h : r < 7), ∃ (s : Value) (bad : List Pe), ([.slice (some ⟨w1.heap.size, 0, none⟩) 2 2, .slice (some ⟨w1.heap.size + 1, 0, none⟩) 2 2, .slice (some ⟨w1.heap.size + 1 + 1, 0, none⟩) 1 1, .slice (some ⟨w1.heap.size + 1 + 1 + 1, 0, none⟩) 1 1, .slice (some ⟨w1.heap.size + 1 + 1 + 1 + 1, 0, none⟩) 1 1, .slice (some ⟨w1.heap.size + 1 + 1 + 1 + 1 + 1, 0, none⟩) 1 1, .slice (some ⟨w1.heap.size + 1 + 1 + 1 + 1 + 1 + 1, 0, none⟩) 1 1] : List Value)[r]'(by simpa using h) = s ∧ psB 100 bad = false ∧ RowP 0 (((((((w1.alloc (.cells #[.int .i64 90, .int .i64 0, .int .i64 101, .int .i64 0] 43)).alloc (.cells #[.int .i64 101, .int .i64 0, .int .i64 101, .int .i64 0] 43)).alloc (.cells #[.int .i64 100, .int .i64 0] 43)).alloc (.cells #[.int .i64 (-(1 + d)), .int .i64 0] 43)).alloc (.cells #[.int .i64 (255 + (1 + d)), .int .i64 0] 43)).alloc (.cells #[.int .i64 101, .int .i64 (-(1 + d))] 43)).alloc (.cells #[.int .i64 101, .int .i64 (2 + (1 + d))] 43)).heap.size (((((((w1.alloc (.cells #[.int .i64 90, .int .i64 0, .int .i64 101, .int .i64 0] 43)).alloc (.cells #[.int .i64 101, .int .i64 0, .int .i64 101, .int .i64 0] 43)).alloc (.cells #[.int .i64 100, .int .i64 0] 43)).alloc (.cells #[.int .i64 (-(1 + d)), .int .i64 0] 43)).alloc (.cells #[.int .i64 (255 + (1 + d)), .int .i64 0] 43)).alloc (.cells #[.int .i64 101, .int .i64 (-(1 + d))] 43)).alloc (.cells #[.int .i64 101, .int .i64 (2 + (1 + d))] 43)) s bad
  | 0, _ => ⟨_, [⟨90, 0⟩, ⟨101, 0⟩], rfl, by decide +kernel, (Box.rowP [⟨90, 0⟩, ⟨101, 0⟩] (((((((Box.newAt (w := w1) (n := w1.heap.size) #[.int .i64 90, .int .i64 0, .int .i64 101, .int .i64 0] 43 (by simp)).alloc _).alloc _).alloc _).alloc _).alloc _).alloc _) rfl rfl (by simp [maxLen])).wide (Nat.zero_le _) (by simp <;> omega)⟩
  | 1, _ => ⟨_, [⟨101, 0⟩, ⟨101, 0⟩], rfl, by decide +kernel, (Box.rowP [⟨101, 0⟩, ⟨101, 0⟩] ((((((Box.newAt (w := (w1.alloc (.cells #[.int .i64 90, .int .i64 0, .int .i64 101, .int .i64 0] 43))) (n := w1.heap.size + 1) #[.int .i64 101, .int .i64 0, .int .i64 101, .int .i64 0] 43 (by simp)).alloc _).alloc _).alloc _).alloc _).alloc _) rfl rfl (by simp [maxLen])).wide (Nat.zero_le _) (by simp <;> omega)⟩
  | 2, _ => ⟨_, [⟨100, 0⟩], rfl, by decide +kernel, (Box.rowP [⟨100, 0⟩] (((((Box.newAt (w := ((w1.alloc (.cells #[.int .i64 90, .int .i64 0, .int .i64 101, .int .i64 0] 43)).alloc (.cells #[.int .i64 101, .int .i64 0, .int .i64 101, .int .i64 0] 43))) (n := w1.heap.size + 1 + 1) #[.int .i64 100, .int .i64 0] 43 (by simp)).alloc _).alloc _).alloc _).alloc _) rfl rfl (by simp [maxLen])).wide (Nat.zero_le _) (by simp <;> omega)⟩
  | 3, _ => ⟨_, [⟨-(1 + d), 0⟩], rfl, ps_bad (by simp [peB, plB, miB]; omega), (Box.rowP [⟨-(1 + d), 0⟩] ((((Box.newAt (w := (((w1.alloc (.cells #[.int .i64 90, .int .i64 0, .int .i64 101, .int .i64 0] 43)).alloc (.cells #[.int .i64 101, .int .i64 0, .int .i64 101, .int .i64 0] 43)).alloc (.cells #[.int .i64 100, .int .i64 0] 43))) (n := w1.heap.size + 1 + 1 + 1) #[.int .i64 (-(1 + d)), .int .i64 0] 43 (by simp)).alloc _).alloc _).alloc _) rfl rfl (by simp [maxLen])).wide (Nat.zero_le _) (by simp <;> omega)⟩
  | 4, _ => ⟨_, [⟨255 + (1 + d), 0⟩], rfl, ps_bad (by simp [peB, plB, miB]; omega), (Box.rowP [⟨255 + (1 + d), 0⟩] (((Box.newAt (w := ((((w1.alloc (.cells #[.int .i64 90, .int .i64 0, .int .i64 101, .int .i64 0] 43)).alloc (.cells #[.int .i64 101, .int .i64 0, .int .i64 101, .int .i64 0] 43)).alloc (.cells #[.int .i64 100, .int .i64 0] 43)).alloc (.cells #[.int .i64 (-(1 + d)), .int .i64 0] 43))) (n := w1.heap.size + 1 + 1 + 1 + 1) #[.int .i64 (255 + (1 + d)), .int .i64 0] 43 (by simp)).alloc _).alloc _) rfl rfl (by simp [maxLen])).wide (Nat.zero_le _) (by simp <;> omega)⟩
  | 5, _ => ⟨_, [⟨101, -(1 + d)⟩], rfl, ps_bad (by simp [peB, plB, miB]; omega), (Box.rowP [⟨101, -(1 + d)⟩] ((Box.newAt (w := (((((w1.alloc (.cells #[.int .i64 90, .int .i64 0, .int .i64 101, .int .i64 0] 43)).alloc (.cells #[.int .i64 101, .int .i64 0, .int .i64 101, .int .i64 0] 43)).alloc (.cells #[.int .i64 100, .int .i64 0] 43)).alloc (.cells #[.int .i64 (-(1 + d)), .int .i64 0] 43)).alloc (.cells #[.int .i64 (255 + (1 + d)), .int .i64 0] 43))) (n := w1.heap.size + 1 + 1 + 1 + 1 + 1) #[.int .i64 101, .int .i64 (-(1 + d))] 43 (by simp)).alloc _) rfl rfl (by simp [maxLen])).wide (Nat.zero_le _) (by simp <;> omega)⟩
  | 6, _ => ⟨_, [⟨101, 2 + (1 + d)⟩], rfl, ps_bad (by simp [peB, plB, miB]; omega), (Box.rowP [⟨101, 2 + (1 + d)⟩] (Box.newAt (w := ((((((w1.alloc (.cells #[.int .i64 90, .int .i64 0, .int .i64 101, .int .i64 0] 43)).alloc (.cells #[.int .i64 101, .int .i64 0, .int .i64 101, .int .i64 0] 43)).alloc (.cells #[.int .i64 100, .int .i64 0] 43)).alloc (.cells #[.int .i64 (-(1 + d)), .int .i64 0] 43)).alloc (.cells #[.int .i64 (255 + (1 + d)), .int .i64 0] 43)).alloc (.cells #[.int .i64 101, .int .i64 (-(1 + d))] 43))) (n := w1.heap.size + 1 + 1 + 1 + 1 + 1 + 1) #[.int .i64 101, .int .i64 (2 + (1 + d))] 43 (by simp)) rfl rfl (by simp [maxLen])).wide (Nat.zero_le _) (by simp <;> omega)⟩

def fullP (m : Nat) : List Pe := (List.range m).map fun (i : Nat) => ⟨101 + 2 * (i : Int), 0⟩
theorem fullP_next (m : Nat) : fullP (m + 1) = fullP m ++ [⟨101 + 2 * (m : Int), 0⟩] := by simp [fullP, List.range_succ]
theorem fullP_len (m : Nat) : (fullP m).length = m := by simp [fullP]
theorem full_no : ∀ q : Nat, q < 16 → hdL 100 (fullP 16) (102 + 2 * (q : Int)) = [] ∧ hdE 100 (fullP 16) (102 + 2 * (q : Int)) = 701 := by decide +kernel
theorem full_yes : ∀ q : Nat, q < 16 → hdL 100 (fullP 16) (101 + 2 * (q : Int)) = fullP 16 ∧ hdE 100 (fullP 16) (101 + 2 * (q : Int)) = 0 := by decide +kernel

set_option maxRecDepth 20000 in
set_option maxHeartbeats 8000000 in
theorem walk (a0 : Int) (a1 : Int) (w : World) (w0 : (Lit.int .i64 a0).wf = true) (w1 : (Lit.int .i64 a1).wf = true) :
    Calls Try.prog 4 #[.int .i64 a0, .int .i64 a1] w fun e w' => e = .returned (.bool true) ∧ Below w.heap.size w w' := by
  have ed : bits .and .i64 a1 1023 = a1 % 1024 := and1023 a1
  have e1 : bits .and .i64 a0 1 = a0 % 2 := and1 a0
  obtain ⟨d, hd⟩ : ∃ x, x = a1 % 1024 := ⟨_, rfl⟩
  have d0 : 0 ≤ d := by omega
  have d1 : d < 1024 := by omega
  rw [← hd] at ed
  obtain ⟨r1, hr1⟩ : ∃ r : Nat, (r : Int) = a0 % 2 := ⟨(a0 % 2).toNat, by omega⟩
  have hr2 : r1 < 2 := by omega
  rw [← hr1] at e1
  have e15 : bits .and .i64 a1 15 = a1 % 16 := and15 a1
  obtain ⟨q, hq⟩ : ∃ q : Nat, (q : Int) = a1 % 16 := ⟨(a1 % 16).toNat, by omega⟩
  have hq16 : q < 16 := by omega
  rw [← hq] at e15
  have F1 := toHid (full_no q hq16)
  have F2 := toHid (full_yes q hq16)
  obtain ⟨r7, h7, e7⟩ : ∃ r : Nat, r < 7 ∧ wrap64 ((IntKind.u64.wrap a0).tmod 7) = (r : Int) := by
    have e := rem_u64 a0 7 _ rfl
    obtain ⟨r, hr⟩ : ∃ r, (a0 % 18446744073709551616).toNat % 7 = r := ⟨_, rfl⟩
    have hr2 : r < 7 := by rw [← hr]; exact Nat.mod_lt _ (by decide)
    rw [hr] at e
    have e2 : (IntKind.u64.wrap a0).tmod 7 = (r : Int) := e
    exact ⟨r, hr2, by rw [e2, w64_in (r : Int) (by omega)]⟩
  obtain ⟨r3, h3, e3⟩ : ∃ r : Nat, r < 3 ∧ wrap64 ((IntKind.u64.wrap a0).tmod 3) = (r : Int) := by
    have e := rem_u64 a0 3 _ rfl
    obtain ⟨r, hr⟩ : ∃ r, (a0 % 18446744073709551616).toNat % 3 = r := ⟨_, rfl⟩
    have hr2 : r < 3 := by rw [← hr]; exact Nat.mod_lt _ (by decide)
    rw [hr] at e
    have e2 : (IntKind.u64.wrap a0).tmod 3 = (r : Int) := e
    exact ⟨r, hr2, by rw [e2, w64_in (r : Int) (by omega)]⟩
  clear hd hr1 hq w0 w1
  have k7 : (r7 : Int) < 7 := by omega
  have k3 : (r3 : Int) < 3 := by omega
  have k2 : (r1 : Int) < 2 := by omega
  obtain ⟨y, hy, hyb⟩ : ∃ y : Int, ([.int .i64 (-(1 + d)), .int .i64 (255 + (1 + d)), .int .i64 100] : List Value)[r3]'(by simpa using h3) = .int .i64 y ∧ Hid (plB y = false ∨ y = 100) := by
    match r3, h3 with
    | 0, _ => exact ⟨_, rfl, .inl (by simp [plB]; omega)⟩
    | 1, _ => exact ⟨_, rfl, .inl (by simp [plB]; omega)⟩
    | 2, _ => exact ⟨_, rfl, .inr rfl⟩
  obtain ⟨z, hz, hzb⟩ : ∃ z : Int, ([.int .i64 (-(1 + d)), .int .i64 (255 + (1 + d))] : List Value)[r1]'(by simpa using hr2) = .int .i64 z ∧ Hid (psB z [] = false) := by
    have h : ∀ z, plB z = false → psB z [] = false := fun z hz => by rw [Bool.eq_false_iff]; intro hs; rw [(psB_iff.1 hs).1] at hz; cases hz
    match r1, hr2 with
    | 0, _ => exact ⟨_, rfl, h _ (by simp [plB]; omega)⟩
    | 1, _ => exact ⟨_, rfl, h _ (by simp [plB]; omega)⟩
  have hyf := toHid (hd_form (b := 100) (xs := []) (d := y) (.inr hyb.out))
  have hzf := toHid (ag_no hzb.out)
  clear hyb hzb
  have t1 := trivial
  have t2 := trivial
  have t3 := trivial
  go_enter Try.func4, Try.ntmps4
  go_wp2_with (first
    | (go_at_call 22; refine (awake7_any _).mono ?_; rintro e w1 ⟨rfl, h1⟩
       obtain ⟨s, bad, hs, hbad, hR⟩ := bads_all w1 d d0 r7 h7
       replace hbad := toHid hbad
       replace hR := toHid hR)
    | (go_at_call 10; clear t1; refine (pHeard_at (hR.out.alloc _ PeV_len) (by simp) _ _ (hd_form (.inl hbad.out)).1 (hd_form (.inl hbad.out)).2).mono ?_; rintro e w2 ⟨o2, rfl, P2, h2⟩
       have hB2 : Below w.heap.size w w2 := ((((((((h1.onA _).onA _).onA _).onA _).onA _).onA _).onA _).onA _).on h2
       have R2 : RowP 0 w2.heap.size w2 s bad := ((hR.out.alloc _ PeV_len).below h2 (by simp)).wide (Nat.le_refl _) (Nat.le_trans (by simp) h2.size)
       clear hR P2 h2 hs h1)
    | (go_at_call 12; clear t2; refine (pAge_at R2 (Nat.le_refl _) _ (ag_no hbad.out).1 (ag_no hbad.out).2.1 (ag_no hbad.out).2.2).mono ?_; rintro e w3 ⟨o3, l3, rfl, A3, G3, h3⟩
       have R3 : RowP 0 w3.heap.size w3 s bad := (R2.below h3 (Nat.le_refl _)).wide (Nat.le_refl _) h3.size
       have hB3 := hB2.on h3
       clear R2 A3 G3 h3 hB2)
    | (go_at_call 10; clear t3; refine (pHeard_at (xs := []) (lo := 0) (hi := 0) RowC.nil0 (Nat.zero_le _) _ _ hyf.out.1 hyf.out.2).mono ?_; rintro e w4 ⟨o4, rfl, P4, h4⟩
       have k4 := ((Below.refl _ w3).onA _).on h4
       clear P4 h4)
    | (go_at_call 12; refine (pAge_at (xs := []) (lo := 0) (hi := 0) RowC.nil0 (Nat.zero_le _) _ hzf.out.1 hzf.out.2.1 hzf.out.2.2).mono ?_; rintro e w5 ⟨o5, l5, rfl, A5, G5, h5⟩
       have k5 := (k4.onA _).on h5
       have R5 : Hid (RowP 0 w5.heap.size w5 s bad) := toHid ((R3.below k5 (Nat.le_refl _)).wide (Nat.le_refl _) k5.size)
       have hB5 := hB3.on k5
       clear A5 G5 h5 k4 k5 R3 hB3))
  clear hyf hzf hy hz e1 e3 e7 ed k7 k3 k2
  go_loopw [18, 19] (fun o i wr => ∃ m : Nat, m ≤ 16 ∧ i = .int .i64 m ∧ wr.ownsRow w5.heap.size 43 2 o m ((fullP m).flatMap PeV) ∧ Below w5.heap.size w5 wr) (fun _ i _ => 16 - (intOf i).toNat)
  case atStart => exact ⟨0, Nat.zero_le _, rfl, ⟨rfl, .inl ⟨rfl, rfl⟩⟩, Below.refl _ _⟩
  case round =>
    obtain ⟨m, hm, rfl, own, hbr⟩ := hrel
    by_cases hlt : m < 16
    · have hlt' : (m : Int) < 16 := by omega
      have OA := toHid own
      clear F1 F2 hbad R5 own
      go_wp2_with (at_builtin; refine app_pes rfl (.tmp 105) (.tmp 110) rfl w5.heap.size _ m (fullP m) rfl (OA.out.alloc _) ⟨wr.heap.size, 0, none⟩ 1 1 [⟨101 + 2 * (m : Int), 0⟩] rfl rfl (fun j hj => ?_) (by omega) (by have := hbr.size; simp; omega) ?_; · (rw [add_plain, Nat.zero_add]; refine ((Box.newAt _ _ rfl).2.1 j).trans ?_; simp [PeV]))
      intro v6 w6 hown6 hgr6 hbel6
      go_wp2
      go_roundw
      case rel => exact ⟨m + 1, by omega, by go_num, by rw [fullP_next]; simpa using hown6, (hbr.onA _).trans hbel6⟩
      case measure => simp [intOf]; omega
    · have hme : m = 16 := by omega
      subst hme
      have rF : RowP w5.heap.size wr.heap.size wr _ (fullP 16) := RowC.of_owns (by omega) PeV_len own
      obtain ⟨pF, cF, eF, -, -⟩ := rF.pes (Nat.le_refl _)
      rw [fullP_len] at eF
      subst eF
      have RB : Hid (RowP 0 w5.heap.size wr s bad) := toHid (R5.out.below hbr (Nat.le_refl _))
      have hz5 := hbr.size
      replace rF := toHid rF
      have j1 := trivial
      have j2 := trivial
      clear own R5
      go_wp2_with (first
        | (go_at_call 10; clear j1; refine (pHeard_at rF.out (Nat.le_refl _) _ _ F1.out.1 F1.out.2).mono ?_; rintro e wa ⟨oa, rfl, Pa, ha⟩
           clear Pa)
        | (go_at_call 10; refine (pHeard_at (rF.out.below ha (Nat.le_refl _)) ha.size _ _ F2.out.1 F2.out.2).mono ?_; rintro e wb ⟨ob, rfl, Pb, hb⟩
           have kb := ha.on hb
           replace Pb := toHid Pb)
        | (go_at_call 17; clear j2; refine (pMay_is (RB.out.below kb hz5) (Nat.le_trans hz5 kb.size) hbad.out).mono ?_; rintro e wc ⟨rfl, hc⟩
           have kc := kb.on hc)
        | (go_at_call 17; refine (pMay_is (rF.out.below kc (Nat.le_refl _)) kc.size (b := 100) (r := true) (by decide +kernel)).mono ?_; rintro e wd ⟨rfl, hd⟩
           have kd := kc.on hd)
        | (go_at_call 14; refine (sameP_at (Pb.out.below (hc.on hd) (Nat.le_refl _)) (rF.out.below kd (Nat.le_refl _)) (b := true) (by simp)).mono ?_; rintro e we ⟨rfl, he⟩)
        | (go_at_call 15; refine (num_any _ _).mono ?_; rintro e w' ⟨rfl, hw'⟩; subst w'))
      go_ret
      exact ⟨rfl, ((hB5.on hbr).on kd).on he⟩

/-! ### The row's step -/
set_option maxRecDepth 100000 in
theorem lifted (os : Os) (started : os.Started) (H : Type) (enc : TypeId × Value → H) :
    ReturnsInHanded {} Try.checked os 4 .any (Rows.peersFormsSpec.pre6 enc Try.prog Try.f4 Rows.peersFormsRow.domain false) (Rows.peersFormsSpec.post enc Try.prog Try.f4 false true false false) := by
  refine returnsInHanded_of_change_sized (C := Try.checked) ownK started (by kernel_rfl) Try.func4
    (ChangeSpec.witness6 (enc := enc) (C := Try.checked) false ⟨#[], #[.int .i64 0, .int .i64 0], []⟩ 8 (by kernel_rfl) (by kernel_rfl) (by kernel_rfl) (by kernel_rfl)) ?_
  intro W base args ds gs before hval0 hW hcnd hsz0 _
  have hsz : (DataW.weightsEach Try.prog (Try.f4.params.toList ++ Rows.peersFormsSpec.plain.varTypes Try.prog) (ds ++ gs)).all (· ≤ reachBytes) = true := hsz0
  have hval : ∀ (j : Nat) t v, Try.f4.params[j]? = some t → args[j]? = some v → Value.okWide Try.prog W .any base t v := hval0
  have hW' := hW
  obtain ⟨p, q, hA0, hV, rfl, hfz, hnd⟩ := hW
  have hA : DataW.TrodAll enc Try.prog W 0 (fun _ => true) true Try.f4.params.toList args.toList ds p := hA0
  rw [Try.params4] at hA hval hsz
  obtain ⟨v0, vs0, d0, ds0, p0, q0, hargs, rfl, rfl, h0, r0⟩ := trodAll_cons hA
  obtain ⟨v1, vs1, d1, ds1, p1, q1, rfl, rfl, rfl, h1, r1⟩ := trodAll_cons r0
  obtain ⟨rfl, rfl, rfl⟩ := trodAll_nil r1
  obtain rfl : args = #[v0, v1] := by cases args; simp_all
  obtain ⟨rfl, rfl⟩ := trodVars_none hV
  clear r0 r1
  have k0 := h0
  have lt0 : ∀ x ∈ p0, x.block < W.heap.size := by obtain ⟨m, hm⟩ := k0; exact DataW.trod_lt m _ _ _ hm
  have k1 := h1
  have lt1 : ∀ x ∈ p1, x.block < W.heap.size := by obtain ⟨m, hm⟩ := k1; exact DataW.trod_lt m _ _ _ hm
  obtain ⟨a0, rfl, rfl, rfl, w0⟩ := open_int Try.underlying3 (hval 0 3 v0 rfl rfl) h0
  obtain ⟨a1, rfl, rfl, rfl, w1⟩ := open_int Try.underlying3 (hval 1 3 v1 rfl rfl) h1
  clear hA0 hval0
  refine (walk a0 a1 W w0 w1).mono fun e W' ⟨he, bel⟩ => ?_
  subst he
  exact ⟨_, rfl, _, _, _, [], _, [], hW', trodAll_mk1 (shut_bool Try.underlying4 _), (trodAll_cons_mk (Below.trod laidOut (by kernel_rfl) (of_decide_eq_true (by kernel_rfl)) k0 bel lt0) (trodAll_cons_mk (Below.trod laidOut (by kernel_rfl) (of_decide_eq_true (by kernel_rfl)) k1 bel lt1) trodAll_mk0)), rfl, bel.frame _, fun h => by cases h⟩

theorem over : Rows.peersFormsRow.holds Try.pinned (OpenSpec.ofChange Rows.peersFormsSpec) :=
  OpenClaim.holds_of_wide 4 Try.f4 rfl rfl rfl rfl rfl rfl rfl ⟨rfl, rfl, rfl, rfl, rfl⟩ rfl rfl rfl rfl rfl (by kernel_rfl) Try.func4 (by kernel_rfl)
    (of_decide_eq_true (by kernel_rfl)) (by unfold Func.isWrapper; first | (rw [if_pos (by decide +kernel)]; kernel_rfl) | (rw [if_neg (by decide +kernel)]; exact ⟨rfl, rfl⟩))
    (fun os started H enc _ => lifted os started H enc)

end Go.Proofs.Ytajbofkcpmpeoaa.peersForms

namespace Go.Proofs.Ytajbofkcpmpeoaa
/-- The statement, by its short name. -/
theorem peersForms_holds : Rows.PeersFormsSaid := peersForms.over
#print axioms peersForms_holds
end Go.Proofs.Ytajbofkcpmpeoaa
