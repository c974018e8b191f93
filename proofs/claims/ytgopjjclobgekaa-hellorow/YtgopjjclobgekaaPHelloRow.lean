
/-
  The statement HelloRow: greetings of two nodes, told in either row, make the same view, where there is room for all.
-/
import Derived.Test.YtgopjjclobgekaaRows
import Derived.Test.YtgopjjclobgekaaOpen
import Derived.Test.YtgopjjclobgekaaHelloLaw
import Derived.Test.YtgopjjclobgekaaViewRef
import Derived.Test.YtgopjjclobgekaaOpenV
namespace Go.Proofs.Ytgopjjclobgekaa.helloRow
open Go.ChangeShapes Go.WideShapes Go.ChangeAt Go.RowKit
set_option linter.unusedVariables false

/-! ### The walk -/
set_option maxHeartbeats 4000000 in
theorem walk (v0 : Value) (x0 : VwO) (a1 : Int) (a2 : Int) (v3 : Value) (x3 : List Int) (w : World) (r0 : v0 = .agg #[.int .i64 x0.i, x0.p, x0.q]) (w0 : (Lit.int .i64 x0.i).wf = true) (h0 : VwAt 0 w.heap.size w x0.p x0.q x0.ps x0.is) (s0 : x0.ps.length * 16 ≤ 140737488351232) (t0 : x0.is.length * 8 ≤ 140737488351232) (u0 : ∀ y ∈ x0.ps, PeW y) (y0 : ∀ y ∈ x0.is, (Lit.int .i64 y).wf = true) (w1 : (Lit.int .i64 a1).wf = true) (w2 : (Lit.int .i64 a2).wf = true) (r3 : RowI 0 w.heap.size w v3 x3) (s3 : x3.length * 8 ≤ 140737488351232) (w3 : ∀ x ∈ x3, (Lit.int .i64 x).wf = true) :
    Calls Try.prog 8 #[v0, .int .i64 a1, .int .i64 a2, v3] w fun e w' => e = .returned (.bool true) ∧ Below w.heap.size w w' := by
  obtain ⟨i, ps, is, p, q⟩ := x0
  dsimp only at r0 w0 h0 s0 t0 u0 y0
  subst r0
  clear w0 u0 y0 w3 w1 w2
  have RR := toHid (fun (o : Obj) (w1 : World) (hb : Below (w.alloc o).heap.size (w.alloc o) w1) => (r3.alloc o).below hb (by simp))
  have VV := toHid (fun (o : Obj) (w1 : World) (hb : Below (w.alloc o).heap.size (w.alloc o) w1) => (h0.alloc o).below hb (by simp))
  have B1 := toHid (fun (cs : Array Value) (t : TypeId) => Box.new w cs t)
  obtain ⟨a, c, a', c', ep, eq, hn, hn'⟩ := h0.shape
  subst ep eq
  clear h0
  obtain ⟨p2, c2, e2, -⟩ := r3
  subst e2
  -- what each of the four answers
  have hB1 := fun h => heE_zero (i := i) (s := (ps, is)) (d := a1) (ids := x3) h
  have hB3 := fun h => heE_zero (i := i) (s := (ps, is)) (d := a2) (ids := x3) h
  obtain ⟨j1, hj1⟩ : ∃ j, heI i (ps, is) a1 x3 = j := ⟨_, rfl⟩
  obtain ⟨⟨s1, u1⟩, hs1⟩ : ∃ s, heV i (ps, is) a1 x3 = s := ⟨_, rfl⟩
  obtain ⟨e1, he1⟩ : ∃ e, heE i (ps, is) a1 x3 = e := ⟨_, rfl⟩
  obtain ⟨j2, hj2⟩ : ∃ j, heI j1 (s1, u1) a2 x3 = j := ⟨_, rfl⟩
  obtain ⟨⟨s2, u2⟩, hs2⟩ : ∃ s, heV j1 (s1, u1) a2 x3 = s := ⟨_, rfl⟩
  obtain ⟨e2, he2⟩ : ∃ e, heE j1 (s1, u1) a2 x3 = e := ⟨_, rfl⟩
  obtain ⟨j3, hj3⟩ : ∃ j, heI i (ps, is) a2 x3 = j := ⟨_, rfl⟩
  obtain ⟨⟨s4, u4⟩, hs3⟩ : ∃ s, heV i (ps, is) a2 x3 = s := ⟨_, rfl⟩
  obtain ⟨e3, he3⟩ : ∃ e, heE i (ps, is) a2 x3 = e := ⟨_, rfl⟩
  obtain ⟨j4, hj4⟩ : ∃ j, heI j3 (s4, u4) a1 x3 = j := ⟨_, rfl⟩
  obtain ⟨⟨s5, u5⟩, hs4⟩ : ∃ s, heV j3 (s4, u4) a1 x3 = s := ⟨_, rfl⟩
  obtain ⟨e4, he4⟩ : ∃ e, heE j3 (s4, u4) a1 x3 = e := ⟨_, rfl⟩
  have hsz : szS (ps, is) = ps.length + is.length := rfl
  -- where the two rows meet
  have HD : Hid (e1 = 0 → e3 = 0 → ps.length + is.length + x3.length + 2 ≤ 16 → e2 = 0 ∧ e4 = 0 ∧ j4 = j2 ∧ s5 = s2 ∧ u5 = u2 ∧ vwB j2 s2 u2 = true) := toHid fun h1 h3 hl => by
    have g1 := hB1 (he1.trans h1)
    have g3 := hB3 (he3.trans h3)
    obtain ⟨k1, k2, k3, k4, -⟩ := heB_iff.1 g1
    obtain ⟨-, m2, m3, -, -⟩ := heB_iff.1 g3
    have hw := he_swap k1 k2 m2 k3 m3 k4 (by rw [hsz]; exact hl)
    obtain ⟨f1, f2, -⟩ := he_yes g1
    obtain ⟨f3, f4, -⟩ := he_yes g3
    have n1 := heB_next g1 m2 m3
    have n3 := heB_next g3 k2 k3
    obtain rfl : j1 = i := hj1.symm.trans f1
    obtain rfl : j3 = j1 := hj3.symm.trans f3
    rw [← f2, hs1] at hw n1
    rw [← f4, hs3] at hw n3
    obtain ⟨f5, f6, f7⟩ := he_yes n1
    obtain ⟨f8, f9, f10⟩ := he_yes n3
    rw [hs2] at f6
    rw [hs4] at f9
    have e : (s2, u2) = (s5, u5) := f6.trans (hw.1.trans f9.symm)
    have e5 := congrArg Prod.fst e
    have e6 := congrArg Prod.snd e
    have ok : vwB j3 s2 u2 = true := by
      have := hw.2
      rw [← f6] at this
      exact this
    exact ⟨he2.symm.trans f7, he4.symm.trans f10, (hj4.symm.trans f8).trans (hj2.symm.trans f5).symm, e5.symm, e6.symm, (hj2.symm.trans f5) ▸ ok⟩
  have K := toHid (fun (W : World) (p q : Value) (lo hi lo' hi' : Nat) (i d : Int) (ps : List Pe) (is : List Int) (h : VwAt lo hi W p q ps is) (hh : hi ≤ W.heap.size) (R : RowI lo' hi' W (.slice p2 x3.length c2) x3) (hh' : hi' ≤ W.heap.size) (j err : Int) (s1 : List Pe) (s2 : List Int) (n1 n2 : Nat) (hI : heI i (ps, is) d x3 = j) (hV : heV i (ps, is) d x3 = (s1, s2)) (hE : heE i (ps, is) d x3 = err) (h1 : s1.length = n1) (h2 : s2.length = n2) => hTake_at h hh R hh' hI hV hE h1 h2)
  obtain ⟨n1, hn1⟩ : ∃ n, s1.length = n := ⟨_, rfl⟩
  obtain ⟨m1, hm1⟩ : ∃ n, u1.length = n := ⟨_, rfl⟩
  obtain ⟨n2, hn2⟩ : ∃ n, s2.length = n := ⟨_, rfl⟩
  obtain ⟨m2, hm2⟩ : ∃ n, u2.length = n := ⟨_, rfl⟩
  obtain ⟨n4, hn4⟩ : ∃ n, s4.length = n := ⟨_, rfl⟩
  obtain ⟨m4, hm4⟩ : ∃ n, u4.length = n := ⟨_, rfl⟩
  obtain ⟨n5, hn5⟩ : ∃ n, s5.length = n := ⟨_, rfl⟩
  obtain ⟨m5, hm5⟩ : ∃ n, u5.length = n := ⟨_, rfl⟩
  clear hB1 hB3 hsz
  have t1 := trivial
  have t2 := trivial
  have t3 := trivial
  replace hj1 := toHid hj1
  replace hs1 := toHid hs1
  replace he1 := toHid he1
  replace hj2 := toHid hj2
  replace hs2 := toHid hs2
  replace he2 := toHid he2
  replace hj3 := toHid hj3
  replace hs3 := toHid hs3
  replace he3 := toHid he3
  replace hj4 := toHid hj4
  replace hs4 := toHid hs4
  replace he4 := toHid he4
  replace hn1 := toHid hn1
  replace hm1 := toHid hm1
  replace hn2 := toHid hn2
  replace hm2 := toHid hm2
  replace hn4 := toHid hn4
  replace hm4 := toHid hm4
  replace hn5 := toHid hn5
  replace hm5 := toHid hm5
  by_cases h1 : e1 = 0
  · by_cases h3 : e3 = 0
    · by_cases hl : ps.length + is.length + x3.length + 2 ≤ 16
      · obtain ⟨f2, f4, f5, f6, f7, f8⟩ := HD.out h1 h3 hl
        subst f5 f6 f7
        have hl1 : ¬ (16 : Int) < (ps.length : Int) + (is.length : Int) + (x3.length : Int) + 2 := by omega
        have hl2 : decide ((16 : Int) < (ps.length : Int) + (is.length : Int) + (x3.length : Int) + 2) = false := decide_eq_false hl1
        have hvw := toHid f8
        have h47 : s5.length * 16 ≤ 140737488351232 := by
          have := (vwB_iff.1 f8).2.2.1
          omega
        have KV : Hid (∀ (W : World) (p q : Value) (lo hi : Nat), VwAt lo hi W p q s5 u5 → hi ≤ W.heap.size → Calls Try.prog 23 #[.agg #[.int .i64 j4, p, q]] W fun e w' => e = .returned (.bool true) ∧ Below W.heap.size W w') := toHid fun W p q lo hi h hh => by
          have := rVMay_any j4 h hh h47
          rw [hvw.out] at this
          exact this
        subst h1 h3 f2 f4
        clear HD hl f8
        go_enter Try.func8, Try.ntmps8
        go_wp2_with (first
          | (go_at_call 18; refine (awake10_any _).mono ?_; rintro e w1 ⟨rfl, hk⟩
             obtain ⟨b1, b2, b3⟩ := (B1.out _ _).below hk)
          | (go_at_call 12; clear t1; refine (K.out _ _ _ _ _ _ _ _ _ _ _ (VV.out _ _ hk) (Nat.le_trans (by simp) hk.size) (RR.out _ _ hk) (Nat.le_trans (by simp) hk.size) _ _ _ _ _ _ hj1.out hs1.out he1.out hn1.out hm1.out).mono ?_; rintro e w2 ⟨a1, d1, a1', d1', rfl, X2, h2⟩
             replace hk := (hk.on h2).onA (.cells #[.int .i64 j1, .slice a1 n1 d1, .slice a1' m1 d1'] 25)
             have z2 : w.heap.size ≤ (w2.alloc (.cells #[.int .i64 j1, .slice a1 n1 d1, .slice a1' m1 d1'] 25)).heap.size := Nat.le_trans (by simp) hk.size
             replace X2 := toHid (X2.at.alloc (.cells #[.int .i64 j1, .slice a1 n1 d1, .slice a1' m1 d1'] 25))
             clear h2 b1 b2 b3)
          | (go_at_call 12; clear t2; refine (K.out _ _ _ _ _ _ _ _ _ _ _ X2.out (by simp) (RR.out _ _ hk) z2 _ _ _ _ _ _ hj2.out hs2.out he2.out hn2.out hm2.out).mono ?_; rintro e w3 ⟨a2, d2, a2', d2', rfl, X3, h3⟩
             replace hk := hk.on h3
             obtain ⟨b1, b2, b3⟩ := (B1.out _ _).below hk
             replace hk := hk.onA (.cells #[.int .i64 j4, .slice a2 n2 d2, .slice a2' m2 d2'] 25)
             clear z2
             have z2 : w.heap.size ≤ (w3.alloc (.cells #[.int .i64 j4, .slice a2 n2 d2, .slice a2' m2 d2'] 25)).heap.size := Nat.le_trans (by simp) hk.size
             have Y3 := toHid (X3.at.alloc (.cells #[.int .i64 j4, .slice a2 n2 d2, .slice a2' m2 d2'] 25))
             have BY := toHid (Box.new w3 #[.int .i64 j4, .slice a2 n2 d2, .slice a2' m2 d2'] 25)
             clear h3 X2 X3)
          | (go_at_call 12; clear t3; refine (K.out _ _ _ _ _ _ _ _ _ _ _ (VV.out _ _ hk) z2 (RR.out _ _ hk) z2 _ _ _ _ _ _ hj3.out hs3.out he3.out hn4.out hm4.out).mono ?_; rintro e w4 ⟨a4, d4, a4', d4', rfl, X4, h4⟩
             replace hk := (hk.on h4).onA (.cells #[.int .i64 j3, .slice a4 n4 d4, .slice a4' m4 d4'] 25)
             have hy := h4.onA (.cells #[.int .i64 j3, .slice a4 n4 d4, .slice a4' m4 d4'] 25)
             clear z2
             have z2 : w.heap.size ≤ (w4.alloc (.cells #[.int .i64 j3, .slice a4 n4 d4, .slice a4' m4 d4'] 25)).heap.size := Nat.le_trans (by simp) hk.size
             replace X4 := toHid (X4.at.alloc (.cells #[.int .i64 j3, .slice a4 n4 d4, .slice a4' m4 d4'] 25))
             clear h4 b1 b2 b3)
          | (go_at_call 12; refine (K.out _ _ _ _ _ _ _ _ _ _ _ X4.out (by simp) (RR.out _ _ hk) z2 _ _ _ _ _ _ hj4.out hs4.out he4.out hn5.out hm5.out).mono ?_; rintro e w5 ⟨a5, d5, a5', d5', rfl, X5, h5⟩
             replace hk := hk.on h5
             replace hy := hy.on h5
             obtain ⟨b1, b2, b3⟩ := (B1.out _ _).below hk
             obtain ⟨y1, y2, y3⟩ := BY.out.below hy
             replace X5 := toHid (X5.at.alloc (.cells #[.int .i64 j4, .slice a5 n5 d5, .slice a5' m5 d5'] 25))
             have Y5 := toHid ((Y3.out.below hy (by simp)).alloc (.cells #[.int .i64 j4, .slice a5 n5 d5, .slice a5' m5 d5'] 25))
             have zy : w3.heap.size ≤ w5.heap.size := Nat.le_of_lt y1
             clear h5 X4 z2)
          | (go_at_call 14; refine (sameView_same j4 Y5.out X5.out (by simp; omega) (by simp)).mono ?_; rintro e w6 ⟨rfl, h6⟩
             clear y1 y2 y3
             obtain ⟨y1, y2, y3⟩ := ((BY.out.below hy).alloc _).below h6
             have Y6 := toHid (Y5.out.below h6 (by simp; omega)))
          | (go_at_call 23; refine (KV.out _ _ _ _ _ Y6.out (Nat.le_trans (by simp; omega) h6.size)).mono ?_; rintro e w7 ⟨rfl, h7⟩)
          | (go_at_call 15; refine (num_any _ _).mono ?_; rintro e w' ⟨rfl, hw'⟩; subst w'))
        go_ret
        exact ⟨rfl, (((((Below.refl _ w).onA _).on hk).onA _).on h6).on h7⟩
      · have hl1 : (16 : Int) < (ps.length : Int) + (is.length : Int) + (x3.length : Int) + 2 := by omega
        have hl2 : decide ((16 : Int) < (ps.length : Int) + (is.length : Int) + (x3.length : Int) + 2) = true := decide_eq_true hl1
        subst h1 h3
        clear HD
        go_enter Try.func8, Try.ntmps8
        go_wp2_with (first
          | (go_at_call 18; refine (awake10_any _).mono ?_; rintro e w1 ⟨rfl, hk⟩
             obtain ⟨b1, b2, b3⟩ := (B1.out _ _).below hk)
          | (go_at_call 12; clear t1; refine (K.out _ _ _ _ _ _ _ _ _ _ _ (VV.out _ _ hk) (Nat.le_trans (by simp) hk.size) (RR.out _ _ hk) (Nat.le_trans (by simp) hk.size) _ _ _ _ _ _ hj1.out hs1.out he1.out hn1.out hm1.out).mono ?_; rintro e w2 ⟨a1, d1, a1', d1', rfl, X2, h2⟩
             replace hk := (hk.on h2).onA (.cells #[.int .i64 j1, .slice a1 n1 d1, .slice a1' m1 d1'] 25)
             have z2 : w.heap.size ≤ (w2.alloc (.cells #[.int .i64 j1, .slice a1 n1 d1, .slice a1' m1 d1'] 25)).heap.size := Nat.le_trans (by simp) hk.size
             replace X2 := toHid (X2.at.alloc (.cells #[.int .i64 j1, .slice a1 n1 d1, .slice a1' m1 d1'] 25))
             clear h2 b1 b2 b3)
          | (go_at_call 12; clear t2; refine (K.out _ _ _ _ _ _ _ _ _ _ _ X2.out (by simp) (RR.out _ _ hk) z2 _ _ _ _ _ _ hj2.out hs2.out he2.out hn2.out hm2.out).mono ?_; rintro e w3 ⟨a2, d2, a2', d2', rfl, X3, h3⟩
             replace hk := hk.on h3
             obtain ⟨b1, b2, b3⟩ := (B1.out _ _).below hk
             replace hk := hk.onA (.cells #[.int .i64 j2, .slice a2 n2 d2, .slice a2' m2 d2'] 25)
             clear z2
             have z2 : w.heap.size ≤ (w3.alloc (.cells #[.int .i64 j2, .slice a2 n2 d2, .slice a2' m2 d2'] 25)).heap.size := Nat.le_trans (by simp) hk.size
             have Y3 := toHid (X3.at.alloc (.cells #[.int .i64 j2, .slice a2 n2 d2, .slice a2' m2 d2'] 25))
             have BY := toHid (Box.new w3 #[.int .i64 j2, .slice a2 n2 d2, .slice a2' m2 d2'] 25)
             clear h3 X2 X3)
          | (go_at_call 12; clear t3; refine (K.out _ _ _ _ _ _ _ _ _ _ _ (VV.out _ _ hk) z2 (RR.out _ _ hk) z2 _ _ _ _ _ _ hj3.out hs3.out he3.out hn4.out hm4.out).mono ?_; rintro e w4 ⟨a4, d4, a4', d4', rfl, X4, h4⟩
             replace hk := (hk.on h4).onA (.cells #[.int .i64 j3, .slice a4 n4 d4, .slice a4' m4 d4'] 25)
             have hy := h4.onA (.cells #[.int .i64 j3, .slice a4 n4 d4, .slice a4' m4 d4'] 25)
             clear z2
             have z2 : w.heap.size ≤ (w4.alloc (.cells #[.int .i64 j3, .slice a4 n4 d4, .slice a4' m4 d4'] 25)).heap.size := Nat.le_trans (by simp) hk.size
             replace X4 := toHid (X4.at.alloc (.cells #[.int .i64 j3, .slice a4 n4 d4, .slice a4' m4 d4'] 25))
             clear h4 b1 b2 b3)
          | (go_at_call 12; refine (K.out _ _ _ _ _ _ _ _ _ _ _ X4.out (by simp) (RR.out _ _ hk) z2 _ _ _ _ _ _ hj4.out hs4.out he4.out hn5.out hm5.out).mono ?_; rintro e w5 ⟨a5, d5, a5', d5', rfl, X5, h5⟩
             replace hk := hk.on h5
             replace hy := hy.on h5
             obtain ⟨b1, b2, b3⟩ := (B1.out _ _).below hk
             obtain ⟨y1, y2, y3⟩ := BY.out.below hy
             replace X5 := toHid (X5.at.alloc (.cells #[.int .i64 j4, .slice a5 n5 d5, .slice a5' m5 d5'] 25))
             have Y5 := toHid ((Y3.out.below hy (by simp)).alloc (.cells #[.int .i64 j4, .slice a5 n5 d5, .slice a5' m5 d5'] 25))
             have zy : w3.heap.size ≤ w5.heap.size := Nat.le_of_lt y1
             clear h5 X4 z2)
          | (go_at_call 15; refine (num_any _ _).mono ?_; rintro e w' ⟨rfl, hw'⟩; subst w'))
        go_ret
        exact ⟨rfl, (((Below.refl _ w).onA _).on hk).onA _⟩
    · have h3' : (e3 == 0) = false := by simpa using h3
      have h3n : (e3 != 0) = true := by simpa using h3
      subst h1
      clear HD
      go_enter Try.func8, Try.ntmps8
      go_wp2_with (first
        | (go_at_call 18; refine (awake10_any _).mono ?_; rintro e w1 ⟨rfl, hk⟩
           obtain ⟨b1, b2, b3⟩ := (B1.out _ _).below hk)
        | (go_at_call 12; clear t1; refine (K.out _ _ _ _ _ _ _ _ _ _ _ (VV.out _ _ hk) (Nat.le_trans (by simp) hk.size) (RR.out _ _ hk) (Nat.le_trans (by simp) hk.size) _ _ _ _ _ _ hj1.out hs1.out he1.out hn1.out hm1.out).mono ?_; rintro e w2 ⟨a1, d1, a1', d1', rfl, X2, h2⟩
           replace hk := (hk.on h2).onA (.cells #[.int .i64 j1, .slice a1 n1 d1, .slice a1' m1 d1'] 25)
           have z2 : w.heap.size ≤ (w2.alloc (.cells #[.int .i64 j1, .slice a1 n1 d1, .slice a1' m1 d1'] 25)).heap.size := Nat.le_trans (by simp) hk.size
           replace X2 := toHid (X2.at.alloc (.cells #[.int .i64 j1, .slice a1 n1 d1, .slice a1' m1 d1'] 25))
           clear h2 b1 b2 b3)
        | (go_at_call 12; clear t2; refine (K.out _ _ _ _ _ _ _ _ _ _ _ X2.out (by simp) (RR.out _ _ hk) z2 _ _ _ _ _ _ hj2.out hs2.out he2.out hn2.out hm2.out).mono ?_; rintro e w3 ⟨a2, d2, a2', d2', rfl, X3, h3⟩
           replace hk := hk.on h3
           obtain ⟨b1, b2, b3⟩ := (B1.out _ _).below hk
           replace hk := hk.onA (.cells #[.int .i64 j2, .slice a2 n2 d2, .slice a2' m2 d2'] 25)
           clear z2
           have z2 : w.heap.size ≤ (w3.alloc (.cells #[.int .i64 j2, .slice a2 n2 d2, .slice a2' m2 d2'] 25)).heap.size := Nat.le_trans (by simp) hk.size
           have Y3 := toHid (X3.at.alloc (.cells #[.int .i64 j2, .slice a2 n2 d2, .slice a2' m2 d2'] 25))
           have BY := toHid (Box.new w3 #[.int .i64 j2, .slice a2 n2 d2, .slice a2' m2 d2'] 25)
           clear h3 X2 X3)
        | (go_at_call 12; clear t3; refine (K.out _ _ _ _ _ _ _ _ _ _ _ (VV.out _ _ hk) z2 (RR.out _ _ hk) z2 _ _ _ _ _ _ hj3.out hs3.out he3.out hn4.out hm4.out).mono ?_; rintro e w4 ⟨a4, d4, a4', d4', rfl, X4, h4⟩
           replace hk := (hk.on h4).onA (.cells #[.int .i64 j3, .slice a4 n4 d4, .slice a4' m4 d4'] 25)
           have hy := h4.onA (.cells #[.int .i64 j3, .slice a4 n4 d4, .slice a4' m4 d4'] 25)
           clear z2
           have z2 : w.heap.size ≤ (w4.alloc (.cells #[.int .i64 j3, .slice a4 n4 d4, .slice a4' m4 d4'] 25)).heap.size := Nat.le_trans (by simp) hk.size
           replace X4 := toHid (X4.at.alloc (.cells #[.int .i64 j3, .slice a4 n4 d4, .slice a4' m4 d4'] 25))
           clear h4 b1 b2 b3)
        | (go_at_call 12; refine (K.out _ _ _ _ _ _ _ _ _ _ _ X4.out (by simp) (RR.out _ _ hk) z2 _ _ _ _ _ _ hj4.out hs4.out he4.out hn5.out hm5.out).mono ?_; rintro e w5 ⟨a5, d5, a5', d5', rfl, X5, h5⟩
           replace hk := hk.on h5
           replace hy := hy.on h5
           obtain ⟨b1, b2, b3⟩ := (B1.out _ _).below hk
           obtain ⟨y1, y2, y3⟩ := BY.out.below hy
           replace X5 := toHid (X5.at.alloc (.cells #[.int .i64 j4, .slice a5 n5 d5, .slice a5' m5 d5'] 25))
           have Y5 := toHid ((Y3.out.below hy (by simp)).alloc (.cells #[.int .i64 j4, .slice a5 n5 d5, .slice a5' m5 d5'] 25))
           have zy : w3.heap.size ≤ w5.heap.size := Nat.le_of_lt y1
           clear h5 X4 z2)
        | (go_at_call 15; refine (num_any _ _).mono ?_; rintro e w' ⟨rfl, hw'⟩; subst w'))
      go_ret
      exact ⟨rfl, (((Below.refl _ w).onA _).on hk).onA _⟩
  · have h1' : (e1 == 0) = false := by simpa using h1
    have h1n : (e1 != 0) = true := by simpa using h1
    clear HD
    go_enter Try.func8, Try.ntmps8
    go_wp2_with (first
      | (go_at_call 18; refine (awake10_any _).mono ?_; rintro e w1 ⟨rfl, hk⟩
         obtain ⟨b1, b2, b3⟩ := (B1.out _ _).below hk)
      | (go_at_call 12; clear t1; refine (K.out _ _ _ _ _ _ _ _ _ _ _ (VV.out _ _ hk) (Nat.le_trans (by simp) hk.size) (RR.out _ _ hk) (Nat.le_trans (by simp) hk.size) _ _ _ _ _ _ hj1.out hs1.out he1.out hn1.out hm1.out).mono ?_; rintro e w2 ⟨a1, d1, a1', d1', rfl, X2, h2⟩
         replace hk := (hk.on h2).onA (.cells #[.int .i64 j1, .slice a1 n1 d1, .slice a1' m1 d1'] 25)
         have z2 : w.heap.size ≤ (w2.alloc (.cells #[.int .i64 j1, .slice a1 n1 d1, .slice a1' m1 d1'] 25)).heap.size := Nat.le_trans (by simp) hk.size
         replace X2 := toHid (X2.at.alloc (.cells #[.int .i64 j1, .slice a1 n1 d1, .slice a1' m1 d1'] 25))
         clear h2 b1 b2 b3)
      | (go_at_call 12; clear t2; refine (K.out _ _ _ _ _ _ _ _ _ _ _ X2.out (by simp) (RR.out _ _ hk) z2 _ _ _ _ _ _ hj2.out hs2.out he2.out hn2.out hm2.out).mono ?_; rintro e w3 ⟨a2, d2, a2', d2', rfl, X3, h3⟩
         replace hk := hk.on h3
         obtain ⟨b1, b2, b3⟩ := (B1.out _ _).below hk
         replace hk := hk.onA (.cells #[.int .i64 j2, .slice a2 n2 d2, .slice a2' m2 d2'] 25)
         clear z2
         have z2 : w.heap.size ≤ (w3.alloc (.cells #[.int .i64 j2, .slice a2 n2 d2, .slice a2' m2 d2'] 25)).heap.size := Nat.le_trans (by simp) hk.size
         have Y3 := toHid (X3.at.alloc (.cells #[.int .i64 j2, .slice a2 n2 d2, .slice a2' m2 d2'] 25))
         have BY := toHid (Box.new w3 #[.int .i64 j2, .slice a2 n2 d2, .slice a2' m2 d2'] 25)
         clear h3 X2 X3)
      | (go_at_call 12; clear t3; refine (K.out _ _ _ _ _ _ _ _ _ _ _ (VV.out _ _ hk) z2 (RR.out _ _ hk) z2 _ _ _ _ _ _ hj3.out hs3.out he3.out hn4.out hm4.out).mono ?_; rintro e w4 ⟨a4, d4, a4', d4', rfl, X4, h4⟩
         replace hk := (hk.on h4).onA (.cells #[.int .i64 j3, .slice a4 n4 d4, .slice a4' m4 d4'] 25)
         have hy := h4.onA (.cells #[.int .i64 j3, .slice a4 n4 d4, .slice a4' m4 d4'] 25)
         clear z2
         have z2 : w.heap.size ≤ (w4.alloc (.cells #[.int .i64 j3, .slice a4 n4 d4, .slice a4' m4 d4'] 25)).heap.size := Nat.le_trans (by simp) hk.size
         replace X4 := toHid (X4.at.alloc (.cells #[.int .i64 j3, .slice a4 n4 d4, .slice a4' m4 d4'] 25))
         clear h4 b1 b2 b3)
      | (go_at_call 12; refine (K.out _ _ _ _ _ _ _ _ _ _ _ X4.out (by simp) (RR.out _ _ hk) z2 _ _ _ _ _ _ hj4.out hs4.out he4.out hn5.out hm5.out).mono ?_; rintro e w5 ⟨a5, d5, a5', d5', rfl, X5, h5⟩
         replace hk := hk.on h5
         replace hy := hy.on h5
         obtain ⟨b1, b2, b3⟩ := (B1.out _ _).below hk
         obtain ⟨y1, y2, y3⟩ := BY.out.below hy
         replace X5 := toHid (X5.at.alloc (.cells #[.int .i64 j4, .slice a5 n5 d5, .slice a5' m5 d5'] 25))
         have Y5 := toHid ((Y3.out.below hy (by simp)).alloc (.cells #[.int .i64 j4, .slice a5 n5 d5, .slice a5' m5 d5'] 25))
         have zy : w3.heap.size ≤ w5.heap.size := Nat.le_of_lt y1
         clear h5 X4 z2)
      | (go_at_call 15; refine (num_any _ _).mono ?_; rintro e w' ⟨rfl, hw'⟩; subst w'))
    go_ret
    exact ⟨rfl, (((Below.refl _ w).onA _).on hk).onA _⟩

/-! ### The row's step -/
set_option maxRecDepth 100000 in
theorem lifted (os : Os) (started : os.Started) (H : Type) (enc : TypeId × Value → H) :
    ReturnsInHanded {} Try.checked os 8 .any (Rows.helloRowSpec.pre6 enc Try.prog Try.f8 Rows.helloRowRow.domain false) (Rows.helloRowSpec.post enc Try.prog Try.f8 false true false false) := by
  refine returnsInHanded_of_change_sized (C := Try.checked) ownK started (by kernel_rfl) Try.func8
    (ChangeSpec.witness6 (enc := enc) (C := Try.checked) false ⟨#[], #[.agg #[.int .i64 0, .slice none 0 0, .slice none 0 0], .int .i64 0, .int .i64 0, .slice none 0 0], []⟩ 8 (by kernel_rfl) (by kernel_rfl) (by kernel_rfl) (by kernel_rfl)) ?_
  intro W base args ds gs before hval0 hW hcnd hsz0 _
  have hsz : (DataW.weightsEach Try.prog (Try.f8.params.toList ++ Rows.helloRowSpec.plain.varTypes Try.prog) (ds ++ gs)).all (· ≤ reachBytes) = true := hsz0
  have hval : ∀ (j : Nat) t v, Try.f8.params[j]? = some t → args[j]? = some v → Value.okWide Try.prog W .any base t v := hval0
  have hW' := hW
  obtain ⟨p, q, hA0, hV, rfl, hfz, hnd⟩ := hW
  have hA : DataW.TrodAll enc Try.prog W 0 (fun _ => true) true Try.f8.params.toList args.toList ds p := hA0
  rw [Try.params8] at hA hval hsz
  obtain ⟨v0, vs0, d0, ds0, p0, q0, hargs, rfl, rfl, h0, r0⟩ := trodAll_cons hA
  obtain ⟨v1, vs1, d1, ds1, p1, q1, rfl, rfl, rfl, h1, r1⟩ := trodAll_cons r0
  obtain ⟨v2, vs2, d2, ds2, p2, q2, rfl, rfl, rfl, h2, r2⟩ := trodAll_cons r1
  obtain ⟨v3, vs3, d3, ds3, p3, q3, rfl, rfl, rfl, h3, r3⟩ := trodAll_cons r2
  obtain ⟨rfl, rfl, rfl⟩ := trodAll_nil r3
  obtain rfl : args = #[v0, v1, v2, v3] := by cases args; simp_all
  obtain ⟨rfl, rfl⟩ := trodVars_none hV
  clear r0 r1 r2 r3
  have k0 := h0
  have lt0 : ∀ x ∈ p0, x.block < W.heap.size := by obtain ⟨m, hm⟩ := k0; exact DataW.trod_lt m _ _ _ hm
  have z0 : ∀ n ∈ d0.weights Try.prog 25, n ≤ reachBytes := fun n hn => by simpa using List.all_eq_true.1 hsz _ (DataW.weights_mem_each (j := 0) rfl rfl n hn)
  have f0 : W.noneFrozen p0 := fun b off hm => hfz b off (by simp [hm])
  have k1 := h1
  have lt1 : ∀ x ∈ p1, x.block < W.heap.size := by obtain ⟨m, hm⟩ := k1; exact DataW.trod_lt m _ _ _ hm
  have k2 := h2
  have lt2 : ∀ x ∈ p2, x.block < W.heap.size := by obtain ⟨m, hm⟩ := k2; exact DataW.trod_lt m _ _ _ hm
  have k3 := h3
  have lt3 : ∀ x ∈ p3, x.block < W.heap.size := by obtain ⟨m, hm⟩ := k3; exact DataW.trod_lt m _ _ _ hm
  have z3 : ∀ n ∈ d3.weights Try.prog 23, n ≤ reachBytes := fun n hn => by simpa using List.all_eq_true.1 hsz _ (DataW.weights_mem_each (j := 3) rfl rfl n hn)
  have f3 : W.noneFrozen p3 := fun b off hm => hfz b off (by simp [hm])
  obtain ⟨x0, r0, w0, h0, s0, t0, u0, y0⟩ := open_view (hval 0 25 v0 rfl rfl) h0 f0 z0
  obtain ⟨a1, rfl, rfl, rfl, w1⟩ := open_int Try.underlying3 (hval 1 3 v1 rfl rfl) h1
  obtain ⟨a2, rfl, rfl, rfl, w2⟩ := open_int Try.underlying3 (hval 2 3 v2 rfl rfl) h2
  obtain ⟨x3, r3, s3, w3⟩ := open_rowI (hval 3 23 v3 rfl rfl) h3 f3 z3
  clear hA0 hval0
  refine (walk v0 x0 a1 a2 v3 x3 W r0 w0 h0 s0 t0 u0 y0 w1 w2 r3 s3 w3).mono fun e W' ⟨he, bel⟩ => ?_
  subst he
  exact ⟨_, rfl, _, _, _, [], _, [], hW', trodAll_mk1 (shut_bool Try.underlying4 _), (trodAll_cons_mk (Below.trod laidOut (by kernel_rfl) (of_decide_eq_true (by kernel_rfl)) k0 bel lt0) (trodAll_cons_mk (Below.trod laidOut (by kernel_rfl) (of_decide_eq_true (by kernel_rfl)) k1 bel lt1) (trodAll_cons_mk (Below.trod laidOut (by kernel_rfl) (of_decide_eq_true (by kernel_rfl)) k2 bel lt2) (trodAll_cons_mk (Below.trod laidOut (by kernel_rfl) (of_decide_eq_true (by kernel_rfl)) k3 bel lt3) trodAll_mk0)))), rfl, bel.frame _, fun h => by cases h⟩

theorem over : Rows.helloRowRow.holds Try.pinned (OpenSpec.ofChange Rows.helloRowSpec) :=
  OpenClaim.holds_of_wide 8 Try.f8 rfl rfl rfl rfl rfl rfl rfl ⟨rfl, rfl, rfl, rfl, rfl⟩ rfl rfl rfl rfl rfl (by kernel_rfl) Try.func8 (by kernel_rfl)
    (of_decide_eq_true (by kernel_rfl)) (by unfold Func.isWrapper; first | (rw [if_pos (by decide +kernel)]; kernel_rfl) | (rw [if_neg (by decide +kernel)]; exact ⟨rfl, rfl⟩))
    (fun os started H enc _ => lifted os started H enc)

end Go.Proofs.Ytgopjjclobgekaa.helloRow

namespace Go.Proofs.Ytgopjjclobgekaa
/-- The statement, by its short name. -/
theorem helloRow_holds : Rows.HelloRowSaid := helloRow.over
#print axioms helloRow_holds
end Go.Proofs.Ytgopjjclobgekaa
