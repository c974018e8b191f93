/-
  The statement StoreForms: stores and items that may not be, and a full store.
-/
import Derived.Test.YtmbommkehchchaaRows
import Derived.Test.YtmbommkehchchaaOpen
import Derived.Test.YtmbommkehchchaaStoreLaw
import Derived.Test.YtmbommkehchchaaStorePut
import Derived.Test.YtmbommkehchchaaOpenT
namespace Go.Proofs.Ytmbommkehchchaa.storeForms
open Go.ChangeShapes Go.WideShapes Go.ChangeAt Go.RowKit
set_option linter.unusedVariables false

/-! ### The walk -/
set_option maxRecDepth 20000 in
set_option maxHeartbeats 8000000 in
theorem walk (a0 : Int) (a1 : Int) (w : World) (w0 : (Lit.int .i64 a0).wf = true) (w1 : (Lit.int .i64 a1).wf = true) :
    Calls Try.prog 4 #[.int .i64 a0, .int .i64 a1] w fun e w' => e = .returned (.bool true) ∧ Below w.heap.size w w' := by
  have e3 : bits .and .i64 a0 3 = a0 % 4 := and3 a0
  have ex : bits .and .i64 a1 1023 = a1 % 1024 := and1023 a1
  have eq : bits .and .i64 a1 15 = a1 % 16 := and15 a1
  obtain ⟨k, hk⟩ : ∃ k, k = a0 % 4 := ⟨_, rfl⟩
  obtain ⟨x, hx⟩ : ∃ x, x = a1 % 1024 := ⟨_, rfl⟩
  obtain ⟨q, hq⟩ : ∃ q : Nat, (q : Int) = a1 % 16 := ⟨(a1 % 16).toNat, by omega⟩
  have k0 : k = 0 ∨ k = 1 ∨ k = 2 ∨ k = 3 := by omega
  have x0 : 0 ≤ x := by omega
  have x1 : x < 1024 := by omega
  have q1 : q < 16 := by omega
  rw [← hk] at e3
  rw [← hx] at ex
  rw [← hq] at eq
  clear hk hx hq w0 w1
  have q2 : (q : Int) < 16 := by omega
  have F1 := toHid (full_1 q q1)
  have F2 := toHid (full_2 q q1)
  rcases k0 with rfl | rfl | rfl | rfl
  · have hst : stB [⟨9, 1, 1, 1, false⟩, ⟨3, 1, 1, 1, false⟩] = false := by decide +kernel
    have pf := put_form (xs := [⟨9, 1, 1, 1, false⟩, ⟨3, 1, 1, 1, false⟩]) (x := ⟨5, 1, 1, 1, false⟩) (Or.inl hst)
    have gf : getI [⟨9, 1, 1, 1, false⟩, ⟨3, 1, 1, 1, false⟩] 3 = ⟨0, 0, 0, 0, false⟩ ∧ getB [⟨9, 1, 1, 1, false⟩, ⟨3, 1, 1, 1, false⟩] 3 = false := by simp [getI, getB, hst, zeroI]
    replace hst := toHid hst
    replace pf := toHid pf
    replace gf := toHid gf
    have i1 := trivial
    have i2 := trivial
    have i3 := trivial
    have i4 := trivial
    have i5 := trivial
    have i6 := trivial
    go_enter Try.func4, Try.ntmps4
    go_wp2_with (first
      | (go_at_call 20; refine (awake5_any _).mono ?_; rintro e w9 ⟨rfl, h9⟩)
      | (go_at_call 21; clear i1; refine (it_any _ _ _).mono ?_; rintro e wa ⟨rfl, ha⟩)
      | (go_at_call 21; clear i2; refine (it_any _ _ _).mono ?_; rintro e wb ⟨rfl, hb⟩)
      | (go_at_call 21; clear i3; refine (it_any _ _ _).mono ?_; rintro e wc ⟨rfl, hc⟩)
      | (go_at_call 21; clear i4; refine (it_any _ _ _).mono ?_; rintro e wd ⟨rfl, hd⟩)
      | (go_at_call 21; clear i5; refine (it_any _ _ _).mono ?_; rintro e we ⟨rfl, he⟩)
      | (go_at_call 21; clear i6; refine (it_any _ _ _).mono ?_; rintro e wf ⟨rfl, hf⟩; have bS := ((((((((Box.new wb _ _).below hc).below hd).alloc _).below he).alloc _).alloc _).alloc _).below hf)
      | (go_at_call 10; refine (sPut_at (xs := [⟨9, 1, 1, 1, false⟩, ⟨3, 1, 1, 1, false⟩]) (bS.rowT _ rfl rfl (by simp [maxLen])) bS.1 (by simp) _ _ _ _ _ pf.out.1 pf.out.2).mono ?_; rintro e w1 ⟨o1, rfl, r1, h1⟩; have bS1 := bS.below h1)
      | (go_at_call 12; refine (sGet_at (xs := [⟨9, 1, 1, 1, false⟩, ⟨3, 1, 1, 1, false⟩]) (bS1.rowT _ rfl rfl (by simp [maxLen])) bS1.1 (by simp) _ gf.out.1 gf.out.2).mono ?_; rintro e w2 ⟨rfl, h2⟩))
    have bS2 := bS1.below h2
    have rB := Box.rowT [⟨9, 1, 1, 1, false⟩, ⟨3, 1, 1, 1, false⟩] bS2 rfl rfl (by simp [maxLen])
    have hzB := bS2.1
    go_loopw [12, 13] (fun o i wr => ∃ m : Nat, m ≤ 16 ∧ i = .int .i64 m ∧ wr.ownsRow w2.heap.size 26 5 o m ((fullL m).flatMap ItV) ∧ Below w2.heap.size w2 wr) (fun _ i _ => 16 - (intOf i).toNat)
    case atStart => exact ⟨0, Nat.zero_le _, rfl, ⟨rfl, .inl ⟨rfl, rfl⟩⟩, (Below.refl _ w2).onA _⟩
    case round =>
      obtain ⟨m, hm, rfl, own, hbr⟩ := hrel
      by_cases hlt : m < 16
      · have hlt' : (m : Int) < 16 := by omega
        clear F1 F2 hst pf gf rB
        go_wp2_with (first
          | (go_at_call 21; refine (it_any _ _ _).mono ?_; rintro e wi ⟨rfl, hwi⟩)
          | (at_builtin; refine app_its rfl (.tmp 62) (.tmp 66) rfl w2.heap.size _ m (fullL m) rfl ((own_below own hwi).alloc _) ⟨wi.heap.size, 0, none⟩ 1 1 [⟨3 * (m : Int), 1, 1, 1, false⟩] rfl rfl (fun j hj => ?_) (by omega) (by have := hbr.size; have := hwi.size; simp; omega) ?_; · (rw [add_plain, Nat.zero_add]; refine ((Box.newAt _ _ rfl).2.1 j).trans ?_; simp [ItV])))
        intro v6 w6 hown6 hgr6 hbel6
        go_wp2
        go_roundw
        case rel => exact ⟨m + 1, by omega, by go_num, by rw [fullL_next]; simpa using hown6, ((hbr.on hwi).onA _).trans hbel6⟩
        case measure => simp [intOf]; omega
      · have hme : m = 16 := by omega
        subst hme
        have rF : RowT w2.heap.size wr.heap.size wr _ (fullL 16) := RowC.of_owns (by omega) ItV_len own
        obtain ⟨pF, cF, eF, hF1, hF2⟩ := own_slice own
        subst eF
        have rB2 := rB.below hbr hzB
        have hzB2 := Nat.le_trans hzB hbr.size
        have hk := Below.refl wr.heap.size wr
        clear own rB
        have j1 := trivial
        have j2 := trivial
        have j3 := trivial
        have j4 := trivial
        have p1 := trivial
        have p2 := trivial
        have p3 := trivial
        have m1 := trivial
        have m2 := trivial
        go_wp2_with (first
          | (go_at_call 21; clear j1; refine (it_any _ _ _).mono ?_; rintro e wn ⟨rfl, hn⟩; replace hk : Below wr.heap.size wr wn := hk.on hn)
          | (go_at_call 10; clear p1; refine (sPut_at (rF.below hk (Nat.le_refl _)) hk.size (by decide) _ _ _ _ _ F1.out.1 F1.out.2).mono ?_; rintro e wp ⟨op1, rfl, rp1, hp1⟩; replace hk : Below wr.heap.size wr wp := hk.on hp1)
          | (go_at_call 21; clear j2; refine (it_any _ _ _).mono ?_; rintro e wn ⟨rfl, hn⟩; replace hk : Below wr.heap.size wr wn := hk.on hn)
          | (go_at_call 10; clear p2; refine (sPut_at (rF.below hk (Nat.le_refl _)) hk.size (by decide) _ _ _ _ _ rfl F2.out.2).mono ?_; rintro e wq ⟨oq, rfl, rq, hp2⟩; replace hk : Below wr.heap.size wr wq := hk.on hp2
             have zq := hk.size
             obtain ⟨pq, cq, eq2, -, -⟩ := rq.its (Nat.le_refl _)
             rw [F2.out.1] at eq2
             subst eq2)
          | (at_builtin; refine app_rowT rfl (.tmp 87) (.tmp 88) rfl wq.heap.size _ 0 [] rfl (World.ownsRow_lit wq #[] 0 (Nat.le_refl _) (Nat.zero_le _) rfl) w2.heap.size wr.heap.size _ (fullL 16) rfl ((rF.below hk (Nat.le_refl _)).alloc _ ItV_len) (by rw [fullL_len]; omega) (by simp) ?_; intro v7 w7 hown7 hgr7 hbel7
             have own7 : w7.ownsRow wq.heap.size 26 5 v7 16 ((fullL 16).flatMap ItV) := by simpa [fullL_len] using hown7
             have hk7 : Below wq.heap.size wq w7 := ((Below.refl _ wq).onA _).trans hbel7
             replace hk : Below wr.heap.size wr w7 := hk.on hk7)
          | (go_at_call 21; clear j3; refine (it_any _ _ _).mono ?_; rintro e wn ⟨rfl, hn⟩; replace hk : Below wr.heap.size wr wn := hk.on hn
             have hk8 : Below wq.heap.size wq wn := hk7.on hn)
          | (at_builtin; refine app_its rfl (.tmp 90) (.tmp 92) rfl wq.heap.size _ 16 (fullL 16) rfl ((own_below own7 hn).alloc _) ⟨wn.heap.size, 0, none⟩ 1 1 [⟨200, 1, 1, 1, false⟩] rfl rfl (fun j hj => (by rw [add_plain, Nat.zero_add]; refine ((Box.newAt _ _ rfl).2.1 j).trans ?_; simp [ItV])) (by omega) (by have := hk8.size; simp; omega) ?_; intro v8 w8 hown8 hgr8 hbel8
             have hk9 : Below wq.heap.size wq w8 := (hk8.onA _).trans hbel8
             have rM : RowT wq.heap.size w8.heap.size w8 _ (fullL 16 ++ ([⟨200, 1, 1, 1, false⟩] : List It)) := RowC.of_owns (by omega) ItV_len hown8
             replace hk : Below wr.heap.size wr w8 := ((hk.onA _).trans (hbel8.mono zq))
             have hkM := Below.refl w8.heap.size w8)
          | (go_at_call 21; clear j4; refine (it_any _ _ _).mono ?_; rintro e wn ⟨rfl, hn⟩; replace hk : Below wr.heap.size wr wn := hk.on hn; replace hkM : Below w8.heap.size w8 wn := hkM.on hn)
          | (go_at_call 10; clear p3; refine (sPut_at (rM.below hkM (Nat.le_refl _)) hkM.size (by decide) _ _ _ _ _ more_no.1 more_no.2).mono ?_; rintro e wp ⟨op3, rfl, rp3, hp3⟩; replace hk : Below wr.heap.size wr wp := hk.on hp3; replace hkM : Below w8.heap.size w8 wp := hkM.on hp3)
          | (go_at_call 21; refine (it_any _ _ _).mono ?_; rintro e wn ⟨rfl, hn⟩; replace hk : Below wr.heap.size wr wn := hk.on hn; replace hkM : Below w8.heap.size w8 wn := hkM.on hn)
          | (go_at_call 10; refine (sPut_at (rF.below hk (Nat.le_refl _)) hk.size (by decide) _ _ _ _ _ full_no.1 full_no.2).mono ?_; rintro e wp ⟨op4, rfl, rp4, hp4⟩; replace hk : Below wr.heap.size wr wp := hk.on hp4; replace hkM : Below w8.heap.size w8 wp := hkM.on hp4)
          | (go_at_call 16; clear m1; refine (sMay_at (rB2.below hk hzB2) (Nat.le_trans hzB2 hk.size) (by simp) hst.out).mono ?_; rintro e wp ⟨rfl, hq1⟩; replace hk : Below wr.heap.size wr wp := hk.on hq1; replace hkM : Below w8.heap.size w8 wp := hkM.on hq1)
          | (go_at_call 16; clear m2; refine (sMay_at (rF.below hk (Nat.le_refl _)) hk.size (by decide) (b := true) (by decide +kernel)).mono ?_; rintro e wp ⟨rfl, hq2⟩; replace hk : Below wr.heap.size wr wp := hk.on hq2; replace hkM : Below w8.heap.size w8 wp := hkM.on hq2)
          | (go_at_call 16; refine (sMay_at (rM.below hkM (Nat.le_refl _)) hkM.size (by decide) (b := false) (by decide +kernel)).mono ?_; rintro e wp ⟨rfl, hq3⟩; replace hk : Below wr.heap.size wr wp := hk.on hq3)
          | (go_at_call 15; refine (num_any _ _).mono ?_; rintro e w' ⟨rfl, hw'⟩; subst w'))
        go_ret
        exact ⟨rfl, (((((((((((((((h9.on ha).on hb).onA _).on hc).on hd).onA _).on he).onA _).onA _).onA _).on hf).on h1).on h2).on hbr).on hk)⟩
  · have hst : stB [⟨3, 1, 1, 1, false⟩, ⟨3, 2, 1, 2, false⟩] = false := by decide +kernel
    have pf := put_form (xs := [⟨3, 1, 1, 1, false⟩, ⟨3, 2, 1, 2, false⟩]) (x := ⟨5, 1, 1, 1, false⟩) (Or.inl hst)
    have gf : getI [⟨3, 1, 1, 1, false⟩, ⟨3, 2, 1, 2, false⟩] 3 = ⟨0, 0, 0, 0, false⟩ ∧ getB [⟨3, 1, 1, 1, false⟩, ⟨3, 2, 1, 2, false⟩] 3 = false := by simp [getI, getB, hst, zeroI]
    replace hst := toHid hst
    replace pf := toHid pf
    replace gf := toHid gf
    have i1 := trivial
    have i2 := trivial
    have i3 := trivial
    have i4 := trivial
    have i5 := trivial
    have i6 := trivial
    go_enter Try.func4, Try.ntmps4
    go_wp2_with (first
      | (go_at_call 20; refine (awake5_any _).mono ?_; rintro e w9 ⟨rfl, h9⟩)
      | (go_at_call 21; clear i1; refine (it_any _ _ _).mono ?_; rintro e wa ⟨rfl, ha⟩)
      | (go_at_call 21; clear i2; refine (it_any _ _ _).mono ?_; rintro e wb ⟨rfl, hb⟩)
      | (go_at_call 21; clear i3; refine (it_any _ _ _).mono ?_; rintro e wc ⟨rfl, hc⟩)
      | (go_at_call 21; clear i4; refine (it_any _ _ _).mono ?_; rintro e wd ⟨rfl, hd⟩)
      | (go_at_call 21; clear i5; refine (it_any _ _ _).mono ?_; rintro e we ⟨rfl, he⟩)
      | (go_at_call 21; clear i6; refine (it_any _ _ _).mono ?_; rintro e wf ⟨rfl, hf⟩; have bS := (((((Box.new wd _ _).below he).alloc _).alloc _).alloc _).below hf)
      | (go_at_call 10; refine (sPut_at (xs := [⟨3, 1, 1, 1, false⟩, ⟨3, 2, 1, 2, false⟩]) (bS.rowT _ rfl rfl (by simp [maxLen])) bS.1 (by simp) _ _ _ _ _ pf.out.1 pf.out.2).mono ?_; rintro e w1 ⟨o1, rfl, r1, h1⟩; have bS1 := bS.below h1)
      | (go_at_call 12; refine (sGet_at (xs := [⟨3, 1, 1, 1, false⟩, ⟨3, 2, 1, 2, false⟩]) (bS1.rowT _ rfl rfl (by simp [maxLen])) bS1.1 (by simp) _ gf.out.1 gf.out.2).mono ?_; rintro e w2 ⟨rfl, h2⟩))
    have bS2 := bS1.below h2
    have rB := Box.rowT [⟨3, 1, 1, 1, false⟩, ⟨3, 2, 1, 2, false⟩] bS2 rfl rfl (by simp [maxLen])
    have hzB := bS2.1
    go_loopw [12, 13] (fun o i wr => ∃ m : Nat, m ≤ 16 ∧ i = .int .i64 m ∧ wr.ownsRow w2.heap.size 26 5 o m ((fullL m).flatMap ItV) ∧ Below w2.heap.size w2 wr) (fun _ i _ => 16 - (intOf i).toNat)
    case atStart => exact ⟨0, Nat.zero_le _, rfl, ⟨rfl, .inl ⟨rfl, rfl⟩⟩, (Below.refl _ w2).onA _⟩
    case round =>
      obtain ⟨m, hm, rfl, own, hbr⟩ := hrel
      by_cases hlt : m < 16
      · have hlt' : (m : Int) < 16 := by omega
        clear F1 F2 hst pf gf rB
        go_wp2_with (first
          | (go_at_call 21; refine (it_any _ _ _).mono ?_; rintro e wi ⟨rfl, hwi⟩)
          | (at_builtin; refine app_its rfl (.tmp 62) (.tmp 66) rfl w2.heap.size _ m (fullL m) rfl ((own_below own hwi).alloc _) ⟨wi.heap.size, 0, none⟩ 1 1 [⟨3 * (m : Int), 1, 1, 1, false⟩] rfl rfl (fun j hj => ?_) (by omega) (by have := hbr.size; have := hwi.size; simp; omega) ?_; · (rw [add_plain, Nat.zero_add]; refine ((Box.newAt _ _ rfl).2.1 j).trans ?_; simp [ItV])))
        intro v6 w6 hown6 hgr6 hbel6
        go_wp2
        go_roundw
        case rel => exact ⟨m + 1, by omega, by go_num, by rw [fullL_next]; simpa using hown6, ((hbr.on hwi).onA _).trans hbel6⟩
        case measure => simp [intOf]; omega
      · have hme : m = 16 := by omega
        subst hme
        have rF : RowT w2.heap.size wr.heap.size wr _ (fullL 16) := RowC.of_owns (by omega) ItV_len own
        obtain ⟨pF, cF, eF, hF1, hF2⟩ := own_slice own
        subst eF
        have rB2 := rB.below hbr hzB
        have hzB2 := Nat.le_trans hzB hbr.size
        have hk := Below.refl wr.heap.size wr
        clear own rB
        have j1 := trivial
        have j2 := trivial
        have j3 := trivial
        have j4 := trivial
        have p1 := trivial
        have p2 := trivial
        have p3 := trivial
        have m1 := trivial
        have m2 := trivial
        go_wp2_with (first
          | (go_at_call 21; clear j1; refine (it_any _ _ _).mono ?_; rintro e wn ⟨rfl, hn⟩; replace hk : Below wr.heap.size wr wn := hk.on hn)
          | (go_at_call 10; clear p1; refine (sPut_at (rF.below hk (Nat.le_refl _)) hk.size (by decide) _ _ _ _ _ F1.out.1 F1.out.2).mono ?_; rintro e wp ⟨op1, rfl, rp1, hp1⟩; replace hk : Below wr.heap.size wr wp := hk.on hp1)
          | (go_at_call 21; clear j2; refine (it_any _ _ _).mono ?_; rintro e wn ⟨rfl, hn⟩; replace hk : Below wr.heap.size wr wn := hk.on hn)
          | (go_at_call 10; clear p2; refine (sPut_at (rF.below hk (Nat.le_refl _)) hk.size (by decide) _ _ _ _ _ rfl F2.out.2).mono ?_; rintro e wq ⟨oq, rfl, rq, hp2⟩; replace hk : Below wr.heap.size wr wq := hk.on hp2
             have zq := hk.size
             obtain ⟨pq, cq, eq2, -, -⟩ := rq.its (Nat.le_refl _)
             rw [F2.out.1] at eq2
             subst eq2)
          | (at_builtin; refine app_rowT rfl (.tmp 87) (.tmp 88) rfl wq.heap.size _ 0 [] rfl (World.ownsRow_lit wq #[] 0 (Nat.le_refl _) (Nat.zero_le _) rfl) w2.heap.size wr.heap.size _ (fullL 16) rfl ((rF.below hk (Nat.le_refl _)).alloc _ ItV_len) (by rw [fullL_len]; omega) (by simp) ?_; intro v7 w7 hown7 hgr7 hbel7
             have own7 : w7.ownsRow wq.heap.size 26 5 v7 16 ((fullL 16).flatMap ItV) := by simpa [fullL_len] using hown7
             have hk7 : Below wq.heap.size wq w7 := ((Below.refl _ wq).onA _).trans hbel7
             replace hk : Below wr.heap.size wr w7 := hk.on hk7)
          | (go_at_call 21; clear j3; refine (it_any _ _ _).mono ?_; rintro e wn ⟨rfl, hn⟩; replace hk : Below wr.heap.size wr wn := hk.on hn
             have hk8 : Below wq.heap.size wq wn := hk7.on hn)
          | (at_builtin; refine app_its rfl (.tmp 90) (.tmp 92) rfl wq.heap.size _ 16 (fullL 16) rfl ((own_below own7 hn).alloc _) ⟨wn.heap.size, 0, none⟩ 1 1 [⟨200, 1, 1, 1, false⟩] rfl rfl (fun j hj => (by rw [add_plain, Nat.zero_add]; refine ((Box.newAt _ _ rfl).2.1 j).trans ?_; simp [ItV])) (by omega) (by have := hk8.size; simp; omega) ?_; intro v8 w8 hown8 hgr8 hbel8
             have hk9 : Below wq.heap.size wq w8 := (hk8.onA _).trans hbel8
             have rM : RowT wq.heap.size w8.heap.size w8 _ (fullL 16 ++ ([⟨200, 1, 1, 1, false⟩] : List It)) := RowC.of_owns (by omega) ItV_len hown8
             replace hk : Below wr.heap.size wr w8 := ((hk.onA _).trans (hbel8.mono zq))
             have hkM := Below.refl w8.heap.size w8)
          | (go_at_call 21; clear j4; refine (it_any _ _ _).mono ?_; rintro e wn ⟨rfl, hn⟩; replace hk : Below wr.heap.size wr wn := hk.on hn; replace hkM : Below w8.heap.size w8 wn := hkM.on hn)
          | (go_at_call 10; clear p3; refine (sPut_at (rM.below hkM (Nat.le_refl _)) hkM.size (by decide) _ _ _ _ _ more_no.1 more_no.2).mono ?_; rintro e wp ⟨op3, rfl, rp3, hp3⟩; replace hk : Below wr.heap.size wr wp := hk.on hp3; replace hkM : Below w8.heap.size w8 wp := hkM.on hp3)
          | (go_at_call 21; refine (it_any _ _ _).mono ?_; rintro e wn ⟨rfl, hn⟩; replace hk : Below wr.heap.size wr wn := hk.on hn; replace hkM : Below w8.heap.size w8 wn := hkM.on hn)
          | (go_at_call 10; refine (sPut_at (rF.below hk (Nat.le_refl _)) hk.size (by decide) _ _ _ _ _ full_no.1 full_no.2).mono ?_; rintro e wp ⟨op4, rfl, rp4, hp4⟩; replace hk : Below wr.heap.size wr wp := hk.on hp4; replace hkM : Below w8.heap.size w8 wp := hkM.on hp4)
          | (go_at_call 16; clear m1; refine (sMay_at (rB2.below hk hzB2) (Nat.le_trans hzB2 hk.size) (by simp) hst.out).mono ?_; rintro e wp ⟨rfl, hq1⟩; replace hk : Below wr.heap.size wr wp := hk.on hq1; replace hkM : Below w8.heap.size w8 wp := hkM.on hq1)
          | (go_at_call 16; clear m2; refine (sMay_at (rF.below hk (Nat.le_refl _)) hk.size (by decide) (b := true) (by decide +kernel)).mono ?_; rintro e wp ⟨rfl, hq2⟩; replace hk : Below wr.heap.size wr wp := hk.on hq2; replace hkM : Below w8.heap.size w8 wp := hkM.on hq2)
          | (go_at_call 16; refine (sMay_at (rM.below hkM (Nat.le_refl _)) hkM.size (by decide) (b := false) (by decide +kernel)).mono ?_; rintro e wp ⟨rfl, hq3⟩; replace hk : Below wr.heap.size wr wp := hk.on hq3)
          | (go_at_call 15; refine (num_any _ _).mono ?_; rintro e w' ⟨rfl, hw'⟩; subst w'))
        go_ret
        exact ⟨rfl, (((((((((((((((h9.on ha).on hb).onA _).on hc).on hd).onA _).on he).onA _).onA _).onA _).on hf).on h1).on h2).on hbr).on hk)⟩
  · have hst : stB [⟨3, 0, 1, 0, false⟩] = false := by decide +kernel
    have pf := put_form (xs := [⟨3, 0, 1, 0, false⟩]) (x := ⟨5, 1, 1, 1, false⟩) (Or.inl hst)
    have gf : getI [⟨3, 0, 1, 0, false⟩] 3 = ⟨0, 0, 0, 0, false⟩ ∧ getB [⟨3, 0, 1, 0, false⟩] 3 = false := by simp [getI, getB, hst, zeroI]
    replace hst := toHid hst
    replace pf := toHid pf
    replace gf := toHid gf
    have i1 := trivial
    have i2 := trivial
    have i3 := trivial
    have i4 := trivial
    have i5 := trivial
    have i6 := trivial
    go_enter Try.func4, Try.ntmps4
    go_wp2_with (first
      | (go_at_call 20; refine (awake5_any _).mono ?_; rintro e w9 ⟨rfl, h9⟩)
      | (go_at_call 21; clear i1; refine (it_any _ _ _).mono ?_; rintro e wa ⟨rfl, ha⟩)
      | (go_at_call 21; clear i2; refine (it_any _ _ _).mono ?_; rintro e wb ⟨rfl, hb⟩)
      | (go_at_call 21; clear i3; refine (it_any _ _ _).mono ?_; rintro e wc ⟨rfl, hc⟩)
      | (go_at_call 21; clear i4; refine (it_any _ _ _).mono ?_; rintro e wd ⟨rfl, hd⟩)
      | (go_at_call 21; clear i5; refine (it_any _ _ _).mono ?_; rintro e we ⟨rfl, he⟩)
      | (go_at_call 21; clear i6; refine (it_any _ _ _).mono ?_; rintro e wf ⟨rfl, hf⟩; have bS := (((Box.new we _ _).alloc _).alloc _).below hf)
      | (go_at_call 10; refine (sPut_at (xs := [⟨3, 0, 1, 0, false⟩]) (bS.rowT _ rfl rfl (by simp [maxLen])) bS.1 (by simp) _ _ _ _ _ pf.out.1 pf.out.2).mono ?_; rintro e w1 ⟨o1, rfl, r1, h1⟩; have bS1 := bS.below h1)
      | (go_at_call 12; refine (sGet_at (xs := [⟨3, 0, 1, 0, false⟩]) (bS1.rowT _ rfl rfl (by simp [maxLen])) bS1.1 (by simp) _ gf.out.1 gf.out.2).mono ?_; rintro e w2 ⟨rfl, h2⟩))
    have bS2 := bS1.below h2
    have rB := Box.rowT [⟨3, 0, 1, 0, false⟩] bS2 rfl rfl (by simp [maxLen])
    have hzB := bS2.1
    go_loopw [12, 13] (fun o i wr => ∃ m : Nat, m ≤ 16 ∧ i = .int .i64 m ∧ wr.ownsRow w2.heap.size 26 5 o m ((fullL m).flatMap ItV) ∧ Below w2.heap.size w2 wr) (fun _ i _ => 16 - (intOf i).toNat)
    case atStart => exact ⟨0, Nat.zero_le _, rfl, ⟨rfl, .inl ⟨rfl, rfl⟩⟩, (Below.refl _ w2).onA _⟩
    case round =>
      obtain ⟨m, hm, rfl, own, hbr⟩ := hrel
      by_cases hlt : m < 16
      · have hlt' : (m : Int) < 16 := by omega
        clear F1 F2 hst pf gf rB
        go_wp2_with (first
          | (go_at_call 21; refine (it_any _ _ _).mono ?_; rintro e wi ⟨rfl, hwi⟩)
          | (at_builtin; refine app_its rfl (.tmp 62) (.tmp 66) rfl w2.heap.size _ m (fullL m) rfl ((own_below own hwi).alloc _) ⟨wi.heap.size, 0, none⟩ 1 1 [⟨3 * (m : Int), 1, 1, 1, false⟩] rfl rfl (fun j hj => ?_) (by omega) (by have := hbr.size; have := hwi.size; simp; omega) ?_; · (rw [add_plain, Nat.zero_add]; refine ((Box.newAt _ _ rfl).2.1 j).trans ?_; simp [ItV])))
        intro v6 w6 hown6 hgr6 hbel6
        go_wp2
        go_roundw
        case rel => exact ⟨m + 1, by omega, by go_num, by rw [fullL_next]; simpa using hown6, ((hbr.on hwi).onA _).trans hbel6⟩
        case measure => simp [intOf]; omega
      · have hme : m = 16 := by omega
        subst hme
        have rF : RowT w2.heap.size wr.heap.size wr _ (fullL 16) := RowC.of_owns (by omega) ItV_len own
        obtain ⟨pF, cF, eF, hF1, hF2⟩ := own_slice own
        subst eF
        have rB2 := rB.below hbr hzB
        have hzB2 := Nat.le_trans hzB hbr.size
        have hk := Below.refl wr.heap.size wr
        clear own rB
        have j1 := trivial
        have j2 := trivial
        have j3 := trivial
        have j4 := trivial
        have p1 := trivial
        have p2 := trivial
        have p3 := trivial
        have m1 := trivial
        have m2 := trivial
        go_wp2_with (first
          | (go_at_call 21; clear j1; refine (it_any _ _ _).mono ?_; rintro e wn ⟨rfl, hn⟩; replace hk : Below wr.heap.size wr wn := hk.on hn)
          | (go_at_call 10; clear p1; refine (sPut_at (rF.below hk (Nat.le_refl _)) hk.size (by decide) _ _ _ _ _ F1.out.1 F1.out.2).mono ?_; rintro e wp ⟨op1, rfl, rp1, hp1⟩; replace hk : Below wr.heap.size wr wp := hk.on hp1)
          | (go_at_call 21; clear j2; refine (it_any _ _ _).mono ?_; rintro e wn ⟨rfl, hn⟩; replace hk : Below wr.heap.size wr wn := hk.on hn)
          | (go_at_call 10; clear p2; refine (sPut_at (rF.below hk (Nat.le_refl _)) hk.size (by decide) _ _ _ _ _ rfl F2.out.2).mono ?_; rintro e wq ⟨oq, rfl, rq, hp2⟩; replace hk : Below wr.heap.size wr wq := hk.on hp2
             have zq := hk.size
             obtain ⟨pq, cq, eq2, -, -⟩ := rq.its (Nat.le_refl _)
             rw [F2.out.1] at eq2
             subst eq2)
          | (at_builtin; refine app_rowT rfl (.tmp 87) (.tmp 88) rfl wq.heap.size _ 0 [] rfl (World.ownsRow_lit wq #[] 0 (Nat.le_refl _) (Nat.zero_le _) rfl) w2.heap.size wr.heap.size _ (fullL 16) rfl ((rF.below hk (Nat.le_refl _)).alloc _ ItV_len) (by rw [fullL_len]; omega) (by simp) ?_; intro v7 w7 hown7 hgr7 hbel7
             have own7 : w7.ownsRow wq.heap.size 26 5 v7 16 ((fullL 16).flatMap ItV) := by simpa [fullL_len] using hown7
             have hk7 : Below wq.heap.size wq w7 := ((Below.refl _ wq).onA _).trans hbel7
             replace hk : Below wr.heap.size wr w7 := hk.on hk7)
          | (go_at_call 21; clear j3; refine (it_any _ _ _).mono ?_; rintro e wn ⟨rfl, hn⟩; replace hk : Below wr.heap.size wr wn := hk.on hn
             have hk8 : Below wq.heap.size wq wn := hk7.on hn)
          | (at_builtin; refine app_its rfl (.tmp 90) (.tmp 92) rfl wq.heap.size _ 16 (fullL 16) rfl ((own_below own7 hn).alloc _) ⟨wn.heap.size, 0, none⟩ 1 1 [⟨200, 1, 1, 1, false⟩] rfl rfl (fun j hj => (by rw [add_plain, Nat.zero_add]; refine ((Box.newAt _ _ rfl).2.1 j).trans ?_; simp [ItV])) (by omega) (by have := hk8.size; simp; omega) ?_; intro v8 w8 hown8 hgr8 hbel8
             have hk9 : Below wq.heap.size wq w8 := (hk8.onA _).trans hbel8
             have rM : RowT wq.heap.size w8.heap.size w8 _ (fullL 16 ++ ([⟨200, 1, 1, 1, false⟩] : List It)) := RowC.of_owns (by omega) ItV_len hown8
             replace hk : Below wr.heap.size wr w8 := ((hk.onA _).trans (hbel8.mono zq))
             have hkM := Below.refl w8.heap.size w8)
          | (go_at_call 21; clear j4; refine (it_any _ _ _).mono ?_; rintro e wn ⟨rfl, hn⟩; replace hk : Below wr.heap.size wr wn := hk.on hn; replace hkM : Below w8.heap.size w8 wn := hkM.on hn)
          | (go_at_call 10; clear p3; refine (sPut_at (rM.below hkM (Nat.le_refl _)) hkM.size (by decide) _ _ _ _ _ more_no.1 more_no.2).mono ?_; rintro e wp ⟨op3, rfl, rp3, hp3⟩; replace hk : Below wr.heap.size wr wp := hk.on hp3; replace hkM : Below w8.heap.size w8 wp := hkM.on hp3)
          | (go_at_call 21; refine (it_any _ _ _).mono ?_; rintro e wn ⟨rfl, hn⟩; replace hk : Below wr.heap.size wr wn := hk.on hn; replace hkM : Below w8.heap.size w8 wn := hkM.on hn)
          | (go_at_call 10; refine (sPut_at (rF.below hk (Nat.le_refl _)) hk.size (by decide) _ _ _ _ _ full_no.1 full_no.2).mono ?_; rintro e wp ⟨op4, rfl, rp4, hp4⟩; replace hk : Below wr.heap.size wr wp := hk.on hp4; replace hkM : Below w8.heap.size w8 wp := hkM.on hp4)
          | (go_at_call 16; clear m1; refine (sMay_at (rB2.below hk hzB2) (Nat.le_trans hzB2 hk.size) (by simp) hst.out).mono ?_; rintro e wp ⟨rfl, hq1⟩; replace hk : Below wr.heap.size wr wp := hk.on hq1; replace hkM : Below w8.heap.size w8 wp := hkM.on hq1)
          | (go_at_call 16; clear m2; refine (sMay_at (rF.below hk (Nat.le_refl _)) hk.size (by decide) (b := true) (by decide +kernel)).mono ?_; rintro e wp ⟨rfl, hq2⟩; replace hk : Below wr.heap.size wr wp := hk.on hq2; replace hkM : Below w8.heap.size w8 wp := hkM.on hq2)
          | (go_at_call 16; refine (sMay_at (rM.below hkM (Nat.le_refl _)) hkM.size (by decide) (b := false) (by decide +kernel)).mono ?_; rintro e wp ⟨rfl, hq3⟩; replace hk : Below wr.heap.size wr wp := hk.on hq3)
          | (go_at_call 15; refine (num_any _ _).mono ?_; rintro e w' ⟨rfl, hw'⟩; subst w'))
        go_ret
        exact ⟨rfl, (((((((((((((((h9.on ha).on hb).onA _).on hc).on hd).onA _).on he).onA _).onA _).onA _).on hf).on h1).on h2).on hbr).on hk)⟩
  · have hst : stB [⟨255 + (1 + x), 1, 0, 0, false⟩] = false := bad_key x x0
    have pf := put_form (xs := [⟨255 + (1 + x), 1, 0, 0, false⟩]) (x := ⟨5, 1, 1, 1, false⟩) (Or.inl hst)
    have gf : getI [⟨255 + (1 + x), 1, 0, 0, false⟩] 3 = ⟨0, 0, 0, 0, false⟩ ∧ getB [⟨255 + (1 + x), 1, 0, 0, false⟩] 3 = false := by simp [getI, getB, hst, zeroI]
    replace hst := toHid hst
    replace pf := toHid pf
    replace gf := toHid gf
    have i1 := trivial
    have i2 := trivial
    have i3 := trivial
    have i4 := trivial
    have i5 := trivial
    have i6 := trivial
    go_enter Try.func4, Try.ntmps4
    go_wp2_with (first
      | (go_at_call 20; refine (awake5_any _).mono ?_; rintro e w9 ⟨rfl, h9⟩)
      | (go_at_call 21; clear i1; refine (it_any _ _ _).mono ?_; rintro e wa ⟨rfl, ha⟩)
      | (go_at_call 21; clear i2; refine (it_any _ _ _).mono ?_; rintro e wb ⟨rfl, hb⟩)
      | (go_at_call 21; clear i3; refine (it_any _ _ _).mono ?_; rintro e wc ⟨rfl, hc⟩)
      | (go_at_call 21; clear i4; refine (it_any _ _ _).mono ?_; rintro e wd ⟨rfl, hd⟩)
      | (go_at_call 21; clear i5; refine (it_any _ _ _).mono ?_; rintro e we ⟨rfl, he⟩)
      | (go_at_call 21; clear i6; refine (it_any _ _ _).mono ?_; rintro e wf ⟨rfl, hf⟩; have bS := ((Box.new1 we _ _ _).alloc _).below hf)
      | (go_at_call 10; refine (sPut_at (xs := [⟨255 + (1 + x), 1, 0, 0, false⟩]) (bS.rowT _ rfl rfl (by simp [maxLen])) bS.1 (by simp) _ _ _ _ _ pf.out.1 pf.out.2).mono ?_; rintro e w1 ⟨o1, rfl, r1, h1⟩; have bS1 := bS.below h1)
      | (go_at_call 12; refine (sGet_at (xs := [⟨255 + (1 + x), 1, 0, 0, false⟩]) (bS1.rowT _ rfl rfl (by simp [maxLen])) bS1.1 (by simp) _ gf.out.1 gf.out.2).mono ?_; rintro e w2 ⟨rfl, h2⟩))
    have bS2 := bS1.below h2
    have rB := Box.rowT [⟨255 + (1 + x), 1, 0, 0, false⟩] bS2 rfl rfl (by simp [maxLen])
    have hzB := bS2.1
    go_loopw [12, 13] (fun o i wr => ∃ m : Nat, m ≤ 16 ∧ i = .int .i64 m ∧ wr.ownsRow w2.heap.size 26 5 o m ((fullL m).flatMap ItV) ∧ Below w2.heap.size w2 wr) (fun _ i _ => 16 - (intOf i).toNat)
    case atStart => exact ⟨0, Nat.zero_le _, rfl, ⟨rfl, .inl ⟨rfl, rfl⟩⟩, (Below.refl _ w2).onA _⟩
    case round =>
      obtain ⟨m, hm, rfl, own, hbr⟩ := hrel
      by_cases hlt : m < 16
      · have hlt' : (m : Int) < 16 := by omega
        clear F1 F2 hst pf gf rB
        go_wp2_with (first
          | (go_at_call 21; refine (it_any _ _ _).mono ?_; rintro e wi ⟨rfl, hwi⟩)
          | (at_builtin; refine app_its rfl (.tmp 62) (.tmp 66) rfl w2.heap.size _ m (fullL m) rfl ((own_below own hwi).alloc _) ⟨wi.heap.size, 0, none⟩ 1 1 [⟨3 * (m : Int), 1, 1, 1, false⟩] rfl rfl (fun j hj => ?_) (by omega) (by have := hbr.size; have := hwi.size; simp; omega) ?_; · (rw [add_plain, Nat.zero_add]; refine ((Box.newAt _ _ rfl).2.1 j).trans ?_; simp [ItV])))
        intro v6 w6 hown6 hgr6 hbel6
        go_wp2
        go_roundw
        case rel => exact ⟨m + 1, by omega, by go_num, by rw [fullL_next]; simpa using hown6, ((hbr.on hwi).onA _).trans hbel6⟩
        case measure => simp [intOf]; omega
      · have hme : m = 16 := by omega
        subst hme
        have rF : RowT w2.heap.size wr.heap.size wr _ (fullL 16) := RowC.of_owns (by omega) ItV_len own
        obtain ⟨pF, cF, eF, hF1, hF2⟩ := own_slice own
        subst eF
        have rB2 := rB.below hbr hzB
        have hzB2 := Nat.le_trans hzB hbr.size
        have hk := Below.refl wr.heap.size wr
        clear own rB
        have j1 := trivial
        have j2 := trivial
        have j3 := trivial
        have j4 := trivial
        have p1 := trivial
        have p2 := trivial
        have p3 := trivial
        have m1 := trivial
        have m2 := trivial
        go_wp2_with (first
          | (go_at_call 21; clear j1; refine (it_any _ _ _).mono ?_; rintro e wn ⟨rfl, hn⟩; replace hk : Below wr.heap.size wr wn := hk.on hn)
          | (go_at_call 10; clear p1; refine (sPut_at (rF.below hk (Nat.le_refl _)) hk.size (by decide) _ _ _ _ _ F1.out.1 F1.out.2).mono ?_; rintro e wp ⟨op1, rfl, rp1, hp1⟩; replace hk : Below wr.heap.size wr wp := hk.on hp1)
          | (go_at_call 21; clear j2; refine (it_any _ _ _).mono ?_; rintro e wn ⟨rfl, hn⟩; replace hk : Below wr.heap.size wr wn := hk.on hn)
          | (go_at_call 10; clear p2; refine (sPut_at (rF.below hk (Nat.le_refl _)) hk.size (by decide) _ _ _ _ _ rfl F2.out.2).mono ?_; rintro e wq ⟨oq, rfl, rq, hp2⟩; replace hk : Below wr.heap.size wr wq := hk.on hp2
             have zq := hk.size
             obtain ⟨pq, cq, eq2, -, -⟩ := rq.its (Nat.le_refl _)
             rw [F2.out.1] at eq2
             subst eq2)
          | (at_builtin; refine app_rowT rfl (.tmp 87) (.tmp 88) rfl wq.heap.size _ 0 [] rfl (World.ownsRow_lit wq #[] 0 (Nat.le_refl _) (Nat.zero_le _) rfl) w2.heap.size wr.heap.size _ (fullL 16) rfl ((rF.below hk (Nat.le_refl _)).alloc _ ItV_len) (by rw [fullL_len]; omega) (by simp) ?_; intro v7 w7 hown7 hgr7 hbel7
             have own7 : w7.ownsRow wq.heap.size 26 5 v7 16 ((fullL 16).flatMap ItV) := by simpa [fullL_len] using hown7
             have hk7 : Below wq.heap.size wq w7 := ((Below.refl _ wq).onA _).trans hbel7
             replace hk : Below wr.heap.size wr w7 := hk.on hk7)
          | (go_at_call 21; clear j3; refine (it_any _ _ _).mono ?_; rintro e wn ⟨rfl, hn⟩; replace hk : Below wr.heap.size wr wn := hk.on hn
             have hk8 : Below wq.heap.size wq wn := hk7.on hn)
          | (at_builtin; refine app_its rfl (.tmp 90) (.tmp 92) rfl wq.heap.size _ 16 (fullL 16) rfl ((own_below own7 hn).alloc _) ⟨wn.heap.size, 0, none⟩ 1 1 [⟨200, 1, 1, 1, false⟩] rfl rfl (fun j hj => (by rw [add_plain, Nat.zero_add]; refine ((Box.newAt _ _ rfl).2.1 j).trans ?_; simp [ItV])) (by omega) (by have := hk8.size; simp; omega) ?_; intro v8 w8 hown8 hgr8 hbel8
             have hk9 : Below wq.heap.size wq w8 := (hk8.onA _).trans hbel8
             have rM : RowT wq.heap.size w8.heap.size w8 _ (fullL 16 ++ ([⟨200, 1, 1, 1, false⟩] : List It)) := RowC.of_owns (by omega) ItV_len hown8
             replace hk : Below wr.heap.size wr w8 := ((hk.onA _).trans (hbel8.mono zq))
             have hkM := Below.refl w8.heap.size w8)
          | (go_at_call 21; clear j4; refine (it_any _ _ _).mono ?_; rintro e wn ⟨rfl, hn⟩; replace hk : Below wr.heap.size wr wn := hk.on hn; replace hkM : Below w8.heap.size w8 wn := hkM.on hn)
          | (go_at_call 10; clear p3; refine (sPut_at (rM.below hkM (Nat.le_refl _)) hkM.size (by decide) _ _ _ _ _ more_no.1 more_no.2).mono ?_; rintro e wp ⟨op3, rfl, rp3, hp3⟩; replace hk : Below wr.heap.size wr wp := hk.on hp3; replace hkM : Below w8.heap.size w8 wp := hkM.on hp3)
          | (go_at_call 21; refine (it_any _ _ _).mono ?_; rintro e wn ⟨rfl, hn⟩; replace hk : Below wr.heap.size wr wn := hk.on hn; replace hkM : Below w8.heap.size w8 wn := hkM.on hn)
          | (go_at_call 10; refine (sPut_at (rF.below hk (Nat.le_refl _)) hk.size (by decide) _ _ _ _ _ full_no.1 full_no.2).mono ?_; rintro e wp ⟨op4, rfl, rp4, hp4⟩; replace hk : Below wr.heap.size wr wp := hk.on hp4; replace hkM : Below w8.heap.size w8 wp := hkM.on hp4)
          | (go_at_call 16; clear m1; refine (sMay_at (rB2.below hk hzB2) (Nat.le_trans hzB2 hk.size) (by simp) hst.out).mono ?_; rintro e wp ⟨rfl, hq1⟩; replace hk : Below wr.heap.size wr wp := hk.on hq1; replace hkM : Below w8.heap.size w8 wp := hkM.on hq1)
          | (go_at_call 16; clear m2; refine (sMay_at (rF.below hk (Nat.le_refl _)) hk.size (by decide) (b := true) (by decide +kernel)).mono ?_; rintro e wp ⟨rfl, hq2⟩; replace hk : Below wr.heap.size wr wp := hk.on hq2; replace hkM : Below w8.heap.size w8 wp := hkM.on hq2)
          | (go_at_call 16; refine (sMay_at (rM.below hkM (Nat.le_refl _)) hkM.size (by decide) (b := false) (by decide +kernel)).mono ?_; rintro e wp ⟨rfl, hq3⟩; replace hk : Below wr.heap.size wr wp := hk.on hq3)
          | (go_at_call 15; refine (num_any _ _).mono ?_; rintro e w' ⟨rfl, hw'⟩; subst w'))
        go_ret
        exact ⟨rfl, (((((((((((((((h9.on ha).on hb).onA _).on hc).on hd).onA _).on he).onA _).onA _).onA _).on hf).on h1).on h2).on hbr).on hk)⟩

/-! ### The row's step -/
set_option maxRecDepth 100000 in
theorem lifted (os : Os) (started : os.Started) (H : Type) (enc : TypeId × Value → H) :
    ReturnsInHanded {} Try.checked os 4 .any (Rows.storeFormsSpec.pre6 enc Try.prog Try.f4 Rows.storeFormsRow.domain false) (Rows.storeFormsSpec.post enc Try.prog Try.f4 false true false false) := by
  refine returnsInHanded_of_change_sized (C := Try.checked) ownK started (by kernel_rfl) Try.func4
    (ChangeSpec.witness6 (enc := enc) (C := Try.checked) false ⟨#[], #[.int .i64 0, .int .i64 0], []⟩ 8 (by kernel_rfl) (by kernel_rfl) (by kernel_rfl) (by kernel_rfl)) ?_
  intro W base args ds gs before hval0 hW hcnd hsz0 _
  have hsz : (DataW.weightsEach Try.prog (Try.f4.params.toList ++ Rows.storeFormsSpec.plain.varTypes Try.prog) (ds ++ gs)).all (· ≤ reachBytes) = true := hsz0
  have hval : ∀ (j : Nat) t v, Try.f4.params[j]? = some t → args[j]? = some v → Value.okWide Try.prog W .any base t v := hval0
  have hW' := hW
  obtain ⟨p, q, hA0, hV, rfl, hfz, hnd⟩ := hW
  have hA : DataW.TrodAll enc Try.prog W 0 (fun _ => true) true Try.f4.params.toList args.toList ds p := hA0
  rw [Try.params4] at hA hval hsz
  obtain ⟨v0, vs0, d0, ds0, p0, q0, hargs, rfl, rfl, h0, r0⟩ := trodAll_cons hA
  obtain ⟨v1, vs1, d1, ds1, p1, q1, rfl, rfl, rfl, h1, r1⟩ := trodAll_cons r0
  obtain ⟨rfl, rfl, rfl⟩ := trodAll_nil r1
  obtain rfl : args = #[v0, v1] := by cases args; simp_all
  obtain ⟨rfl, rfl⟩ := trodVars_none hV
  clear r0 r1
  have k0 := h0
  have lt0 : ∀ x ∈ p0, x.block < W.heap.size := by obtain ⟨m, hm⟩ := k0; exact DataW.trod_lt m _ _ _ hm
  have k1 := h1
  have lt1 : ∀ x ∈ p1, x.block < W.heap.size := by obtain ⟨m, hm⟩ := k1; exact DataW.trod_lt m _ _ _ hm
  obtain ⟨a0, rfl, rfl, rfl, w0⟩ := open_int Try.underlying3 (hval 0 3 v0 rfl rfl) h0
  obtain ⟨a1, rfl, rfl, rfl, w1⟩ := open_int Try.underlying3 (hval 1 3 v1 rfl rfl) h1
  clear hA0 hval0
  refine (walk a0 a1 W w0 w1).mono fun e W' ⟨he, bel⟩ => ?_
  subst he
  exact ⟨_, rfl, _, _, _, [], _, [], hW', trodAll_mk1 (shut_bool Try.underlying4 _), (trodAll_cons_mk (Below.trod laidOut (by kernel_rfl) (of_decide_eq_true (by kernel_rfl)) k0 bel lt0) (trodAll_cons_mk (Below.trod laidOut (by kernel_rfl) (of_decide_eq_true (by kernel_rfl)) k1 bel lt1) trodAll_mk0)), rfl, bel.frame _, fun h => by cases h⟩

theorem over : Rows.storeFormsRow.holds Try.pinned (OpenSpec.ofChange Rows.storeFormsSpec) :=
  OpenClaim.holds_of_wide 4 Try.f4 rfl rfl rfl rfl rfl rfl rfl ⟨rfl, rfl, rfl, rfl, rfl⟩ rfl rfl rfl rfl rfl (by kernel_rfl) Try.func4 (by kernel_rfl)
    (of_decide_eq_true (by kernel_rfl)) (by unfold Func.isWrapper; first | (rw [if_pos (by decide +kernel)]; kernel_rfl) | (rw [if_neg (by decide +kernel)]; exact ⟨rfl, rfl⟩))
    (fun os started H enc _ => lifted os started H enc)

end Go.Proofs.Ytmbommkehchchaa.storeForms

namespace Go.Proofs.Ytmbommkehchchaa
/-- The statement, by its short name. -/
theorem storeForms_holds : Rows.StoreFormsSaid := storeForms.over
#print axioms storeForms_holds
end Go.Proofs.Ytmbommkehchchaa
