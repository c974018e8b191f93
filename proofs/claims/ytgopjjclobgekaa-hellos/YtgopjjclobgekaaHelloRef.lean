
/-
  Contracts of the document's own answer for layer 10 (who is known; a greeting): what it returns, in new memory, and that no old memory has turned.
-/
import Derived.Test.YtgopjjclobgekaaHelloBox
import Derived.Test.YtgopjjclobgekaaViewRef
import Derived.Test.YtgopjjclobgekaaPeerDoc
import Derived.Test.YtgopjjclobgekaaCalm
import Derived.Test.YtgopjjclobgekaaOld
import Derived.Deep.RegionHeld3
namespace Go.Proofs.Ytgopjjclobgekaa
open Go.ChangeShapes Go.WideShapes Go.ChangeAt Go.RowKit

theorem has_is {lo hi : Nat} {w : World} {v : Value} {xs : List Int} {x : Int} {r : Bool} (hv : RowI lo hi w v xs) (hr : decide (x ∈ xs) = r) :
    Calls Try.prog 35 #[v, .int .i64 x] w fun e w' => e = .returned (.bool r) ∧ w' = w := hr ▸ has_any hv x

set_option maxHeartbeats 1000000 in
theorem rKnown_any {base b : Nat} {w : World} {p q : Value} {ps : List Pe} {is : List Int} (i d : Int) (h : VwBut base b w p q ps is) (hb : base ≤ w.heap.size) (hbw : b ≤ w.heap.size) (hl : ps.length + is.length ≤ 1024) :
    Calls Try.prog 33 #[.agg #[.int .i64 i, p, q], .int .i64 d] w fun e w' => ∃ p' q', e = .returned (.agg #[.int .i64 i, p', q']) ∧ VwBut base b w' p' q' (knS i (ps, is) d).1 (knS i (ps, is) d).2 ∧ Below w.heap.size w w' := by
  have H1 := toHid (fun o1 o2 : Obj => has_any ((h.alloc o1).alloc o2).at.is d)
  have H2 := toHid (fun o1 o2 : Obj => rNames_any ((h.alloc o1).alloc o2).at.ps (Nat.le_refl _) (by omega))
  have H3 := toHid (fun (o1 o2 : Obj) (w1 : World) (hb : Below ((w.alloc o1).alloc o2).heap.size ((w.alloc o1).alloc o2) w1) => (rHeard_any (((h.alloc o1).alloc o2).below hb).at.ps (Nat.le_refl _) i d).mono fun e w2 (k : ∃ o, e = .returned (.tuple #[o, .int .i64 (hdE i ps d)]) ∧ RowP w1.heap.size w2.heap.size w2 o (hdL i ps d) ∧ Below w1.heap.size w1 w2) => (by
    obtain ⟨u, he, P5, hb⟩ := k
    obtain ⟨a2, c2, e2, -⟩ := id P5
    exact ⟨a2, c2, e2 ▸ he, e2 ▸ P5, hb⟩ : ∃ a2 c2, e = .returned (.tuple #[.slice a2 (hdL i ps d).length c2, .int .i64 (hdE i ps d)]) ∧ RowP w1.heap.size w2.heap.size w2 (.slice a2 (hdL i ps d).length c2) (hdL i ps d) ∧ Below w1.heap.size w1 w2))
  have H4 := toHid (fun (o1 o2 : Obj) (w1 : World) (hb : Below ((w.alloc o1).alloc o2).heap.size ((w.alloc o1).alloc o2) w1) => (rWithout_any (((h.alloc o1).alloc o2).below hb).at.is (Nat.le_refl _) d).mono fun e w2 (k : ∃ o, e = .returned (.tuple #[o, .int .i64 (woE is d)]) ∧ RowI w1.heap.size w2.heap.size w2 o (woL is d) ∧ Below w1.heap.size w1 w2) => (by
    obtain ⟨u, he, P5, hb⟩ := k
    obtain ⟨a2, c2, e2, -⟩ := id P5
    exact ⟨a2, c2, e2 ▸ he, e2 ▸ P5, hb⟩ : ∃ a2 c2, e = .returned (.tuple #[.slice a2 (woL is d).length c2, .int .i64 (woE is d)]) ∧ RowI w1.heap.size w2.heap.size w2 (.slice a2 (woL is d).length c2) (woL is d) ∧ Below w1.heap.size w1 w2))
  have B1 := toHid (fun (o1 : Obj) (cs : Array Value) (t : TypeId) => (Box.new w cs t).alloc o1)
  have C1 := toHid (fun (o1 : Obj) (cs : Array Value) (t : TypeId) => Box.new1 w o1 cs t)
  obtain ⟨a, c, a', c', ep, eq, hn, hn'⟩ := h.shape
  subst ep eq
  replace h := toHid h
  have t1 := trivial
  by_cases hq : d ∈ is
  · have e : knS i (ps, is) d = (hdL i ps d, woL is d) := if_neg fun e => e.1 (.inl hq)
    rw [e]
    rw [decide_eq_true hq] at H1
    clear e hq H2 hl
    dsimp only
    generalize hdL i ps d = ys at *
    generalize hdE i ps d = er at *
    generalize woL is d = zs at *
    generalize woE is d = fr at *
    go_enter Try.func33, Try.ntmps33
    go_wp2_with (first
      | (go_at_call 35; clear t1; refine (H1.out _ _).mono ?_; rintro e w' ⟨rfl, hw'⟩; subst w')
      | (go_at_call 53; refine (H3.out _ _ _ (Below.refl _ _)).mono ?_; rintro e w3 ⟨a2, c2, rfl, P3, h3⟩
         have hz2 := h3.size
         replace P3 := toHid P3
         have hk := h3
         clear h3
         obtain ⟨b1, b2, b3⟩ := (B1.out _ _ _).below hk)
      | (go_at_call 54; refine (H4.out _ _ _ hk).mono ?_; rintro e w4 ⟨a4, c4, rfl, Q4, h4⟩
         replace Q4 := toHid Q4
         replace hk := hk.on h4
         clear b1 b2 b3
         obtain ⟨b1, b2, b3⟩ := (B1.out _ _ _).below hk
         obtain ⟨d1, d2, d3⟩ := (C1.out _ _ _).below hk))
    have hS := toHid ((((Only.refl w.heap.size (w.heap.size + 1 + 1) w4).setCell (b := w.heap.size + 1) (o := 0) (by omega) (by omega) (.int .i64 i)).setCell (b := w.heap.size + 1) (o := 1) (by omega) (by omega) (.slice a2 ys.length c2)).setCell (b := w.heap.size + 1) (o := 2) (by omega) (by omega) (.slice a4 zs.length c4))
    have hB := (((Below.refl _ w).onA _).onA _).on hk
    refine bodyPost_ret (v := .agg #[.int .i64 i, .slice a2 ys.length c2, .slice a4 zs.length c4]) (by simp [results, Try.results33, go_sem, d2]) rfl ?_
    exact ⟨_, _, rfl, VwBut.fresh hb hbw P3.out (by simp) hz2 h4 Q4.out hS.out, hB.trans hS.out.below⟩
  · rw [decide_eq_false hq] at H1
    by_cases hp : d ∈ nmL ps
    · have e : knS i (ps, is) d = (hdL i ps d, woL is d) := if_neg fun e => e.1 (.inr hp)
      rw [e]
      clear e hq hl
      dsimp only
      generalize hdL i ps d = ys at *
      generalize hdE i ps d = er at *
      generalize woL is d = zs at *
      generalize woE is d = fr at *
      go_enter Try.func33, Try.ntmps33
      go_wp2_with (first
        | (go_at_call 35; clear t1; refine (H1.out _ _).mono ?_; rintro e w' ⟨rfl, hw'⟩; subst w')
        | (go_at_call 19; refine (H2.out _ _).mono ?_; rintro e w1 ⟨u, rfl, R1, hk⟩
           obtain ⟨b1, b2, b3⟩ := (B1.out _ _ _).below hk)
        | (go_at_call 35; refine (has_is R1 (decide_eq_true hp)).mono ?_; rintro e w' ⟨rfl, hw'⟩; subst w')
        | (go_at_call 53; refine (H3.out _ _ _ hk).mono ?_; rintro e w3 ⟨a2, c2, rfl, P3, h3⟩
           have hz3 := (hk).size
           simp only [World.size_alloc] at hz3
           have hz2 := h3.size
           replace P3 := toHid P3
           have hk := (hk).on h3
           clear h3
           obtain ⟨b1, b2, b3⟩ := (B1.out _ _ _).below hk)
        | (go_at_call 54; refine (H4.out _ _ _ hk).mono ?_; rintro e w4 ⟨a4, c4, rfl, Q4, h4⟩
           replace Q4 := toHid Q4
           replace hk := hk.on h4
           clear b1 b2 b3
           obtain ⟨b1, b2, b3⟩ := (B1.out _ _ _).below hk
           obtain ⟨d1, d2, d3⟩ := (C1.out _ _ _).below hk))
      have hS := toHid ((((Only.refl w.heap.size (w.heap.size + 1 + 1) w4).setCell (b := w.heap.size + 1) (o := 0) (by omega) (by omega) (.int .i64 i)).setCell (b := w.heap.size + 1) (o := 1) (by omega) (by omega) (.slice a2 ys.length c2)).setCell (b := w.heap.size + 1) (o := 2) (by omega) (by omega) (.slice a4 zs.length c4))
      have hB := (((Below.refl _ w).onA _).onA _).on hk
      refine bodyPost_ret (v := .agg #[.int .i64 i, .slice a2 ys.length c2, .slice a4 zs.length c4]) (by simp [results, Try.results33, go_sem, d2]) rfl ?_
      exact ⟨_, _, rfl, VwBut.fresh hb hbw P3.out hz3 hz2 h4 Q4.out hS.out, hB.trans hS.out.below⟩
    · by_cases hf : 16 ≤ ps.length + is.length
      · have e : knS i (ps, is) d = (ps, is) := if_pos ⟨fun e => by rcases e with e | e; exact hq e; exact hp e, hf⟩
        rw [e]
        have hf1 : (16 : Int) ≤ (ps.length : Int) + (is.length : Int) := by omega
        have hf2 : decide ((16 : Int) ≤ (ps.length : Int) + (is.length : Int)) = true := decide_eq_true hf1
        clear e hq H3 H4
        dsimp only
        go_enter Try.func33, Try.ntmps33
        go_wp2_with (first
          | (go_at_call 35; clear t1; refine (H1.out _ _).mono ?_; rintro e w' ⟨rfl, hw'⟩; subst w')
          | (go_at_call 19; refine (H2.out _ _).mono ?_; rintro e w1 ⟨u, rfl, R1, hk⟩
             obtain ⟨b1, b2, b3⟩ := (B1.out _ _ _).below hk
             obtain ⟨d1, d2, d3⟩ := (C1.out _ _ _).below hk)
          | (go_at_call 35; refine (has_is R1 (decide_eq_false hp)).mono ?_; rintro e w' ⟨rfl, hw'⟩; subst w'))
        have hS := toHid ((((Only.refl (w.heap.size + 1) (w.heap.size + 1 + 1) w1).setCell (o := 0) (Nat.le_refl _) (by omega) (.int .i64 i)).setCell (b := w.heap.size + 1) (o := 1) (Nat.le_refl _) (by omega) (.slice a ps.length c)).setCell (b := w.heap.size + 1) (o := 2) (Nat.le_refl _) (by omega) (.slice a' is.length c'))
        have hB := (((Below.refl _ w).onA _).onA _).on hk
        refine bodyPost_ret (v := .agg #[.int .i64 i, .slice a ps.length c, .slice a' is.length c']) (by simp [results, Try.results33, go_sem, d2]) rfl ?_
        exact ⟨_, _, rfl, h.out.over hB hS.out (by omega), hB.trans (hS.out.below.mono (by omega))⟩
      · have e : knS i (ps, is) d = (hdL i ps d, woL is d) := if_neg fun e => hf e.2
        rw [e]
        have hf1 : ¬ (16 : Int) ≤ (ps.length : Int) + (is.length : Int) := by omega
        have hf2 : decide ((16 : Int) ≤ (ps.length : Int) + (is.length : Int)) = false := decide_eq_false hf1
        clear e hq
        dsimp only
        generalize hdL i ps d = ys at *
        generalize hdE i ps d = er at *
        generalize woL is d = zs at *
        generalize woE is d = fr at *
        go_enter Try.func33, Try.ntmps33
        go_wp2_with (first
          | (go_at_call 35; clear t1; refine (H1.out _ _).mono ?_; rintro e w' ⟨rfl, hw'⟩; subst w')
          | (go_at_call 19; refine (H2.out _ _).mono ?_; rintro e w1 ⟨u, rfl, R1, hk⟩
             obtain ⟨b1, b2, b3⟩ := (B1.out _ _ _).below hk)
          | (go_at_call 35; refine (has_is R1 (decide_eq_false hp)).mono ?_; rintro e w' ⟨rfl, hw'⟩; subst w')
          | (go_at_call 53; refine (H3.out _ _ _ hk).mono ?_; rintro e w3 ⟨a2, c2, rfl, P3, h3⟩
             have hz3 := (hk).size
             simp only [World.size_alloc] at hz3
             have hz2 := h3.size
             replace P3 := toHid P3
             have hk := (hk).on h3
             clear h3
             obtain ⟨b1, b2, b3⟩ := (B1.out _ _ _).below hk)
          | (go_at_call 54; refine (H4.out _ _ _ hk).mono ?_; rintro e w4 ⟨a4, c4, rfl, Q4, h4⟩
             replace Q4 := toHid Q4
             replace hk := hk.on h4
             clear b1 b2 b3
             obtain ⟨b1, b2, b3⟩ := (B1.out _ _ _).below hk
             obtain ⟨d1, d2, d3⟩ := (C1.out _ _ _).below hk))
        have hS := toHid ((((Only.refl w.heap.size (w.heap.size + 1 + 1) w4).setCell (b := w.heap.size + 1) (o := 0) (by omega) (by omega) (.int .i64 i)).setCell (b := w.heap.size + 1) (o := 1) (by omega) (by omega) (.slice a2 ys.length c2)).setCell (b := w.heap.size + 1) (o := 2) (by omega) (by omega) (.slice a4 zs.length c4))
        have hB := (((Below.refl _ w).onA _).onA _).on hk
        refine bodyPost_ret (v := .agg #[.int .i64 i, .slice a2 ys.length c2, .slice a4 zs.length c4]) (by simp [results, Try.results33, go_sem, d2]) rfl ?_
        exact ⟨_, _, rfl, VwBut.fresh hb hbw P3.out hz3 hz2 h4 Q4.out hS.out, hB.trans hS.out.below⟩

theorem rPlaceMay_is {x : Int} {r : Bool} (h : plB x = r) (w : World) :
    Calls Try.prog 31 #[.int .i64 x] w fun e w' => e = .returned (.bool r) ∧ w' = w := h ▸ rPlaceMay_any x w

set_option maxHeartbeats 4000000 in
/-- The document's greeting. -/
theorem rHello_any {lo hi lo' hi' : Nat} {w : World} {p q x : Value} {ps : List Pe} {is ids : List Int} (i d : Int) (h : VwAt lo hi w p q ps is) (hh : hi ≤ w.heap.size) (h47 : ps.length * 16 ≤ 140737488351232) (R : RowI lo' hi' w x ids) (hh' : hi' ≤ w.heap.size) :
    Calls Try.prog 13 #[.agg #[.int .i64 i, p, q], .int .i64 d, x] w fun e w' => ∃ p' q', e = .returned (.tuple #[.agg #[.int .i64 (heI i (ps, is) d ids), p', q'], .int .i64 (heE i (ps, is) d ids)]) ∧ VwNew w.heap.size w' p' q' (heV i (ps, is) d ids).1 (heV i (ps, is) d ids).2 ∧ Below w.heap.size w w' := by
  have H1 := toHid (fun o1 o2 : Obj => rVMay_any i ((h.alloc o1).alloc o2) (Nat.le_trans hh (by simp; omega)) h47)
  have H2 := toHid (fun (o1 o2 : Obj) (w1 : World) (hb : Below ((w.alloc o1).alloc o2).heap.size ((w.alloc o1).alloc o2) w1) => placesMay_any (((R.alloc o1).alloc o2).below hb (Nat.le_trans hh' (by simp; omega))))
  have B1 := toHid (fun (o1 : Obj) (cs : Array Value) (t : TypeId) => (Box.new w cs t).alloc o1)
  have C1 := toHid (fun (o1 : Obj) (cs : Array Value) (t : TypeId) => Box.new1 w o1 cs t)
  have HV := toHid (fun (o1 o2 : Obj) (w1 : World) (hb : Below ((w.alloc o1).alloc o2).heap.size ((w.alloc o1).alloc o2) w1) => ((h.alloc o1).alloc o2).below hb (Nat.le_trans hh (by simp; omega)))
  obtain ⟨a, c, a', c', ep, eq, hn, hn'⟩ := h.shape
  subst ep eq
  clear h
  have HR := toHid (R.ints hh')
  obtain ⟨ax, cx, ex, hlx, hcx, -⟩ := R
  subst ex
  unfold maxLen at hcx
  rcases Bool.eq_false_or_eq_true (heB i (ps, is) d ids) with hB | hB
  · obtain ⟨e1, e2, e3⟩ := he_yes hB
    obtain ⟨st, st0, stO, stS, stN⟩ := he_states hB
    rw [e1, e2, e3, ← stN]
    obtain ⟨k1, h2, k3, k4, k5⟩ := heB_iff.1 hB
    have hv : vwB i ps is = true := k1
    have hl : ps.length + is.length ≤ 16 := ok_size k1
    rw [hv] at H1
    rw [k4] at H2
    have hdi : (d == i) = false := by simpa using k3
    have hl5 : ¬ (16 : Int) < (ids.length : Int) := by omega
    have hl6 : decide ((16 : Int) < (ids.length : Int)) = false := decide_eq_false hl5
    replace stO := toHid stO
    replace stS := toHid stS
    replace st0 := toHid st0
    have hl7 : Hid (ps.length + is.length ≤ 1024) := toHid (by omega)
    clear e1 e2 e3 stN hB k1 k4 hv
    go_enter Try.func13, Try.ntmps13
    go_wp2_with (first
      | (go_at_call 23; refine (H1.out _ _).mono ?_; rintro e w1 ⟨rfl, hk⟩
         obtain ⟨b1, b2, b3⟩ := (B1.out _ _ _).below hk)
      | (go_at_call 31; refine (rPlaceMay_is h2 _).mono ?_; rintro e w' ⟨rfl, hw'⟩; subst w')
      | (go_at_call 32; refine (H2.out _ _ _ hk).mono ?_; rintro e w' ⟨rfl, hw'⟩; subst w')
      | (go_at_call 34; refine (rCopyView_new i (HV.out _ _ _ hk) (Nat.le_trans hh (Nat.le_trans (by simp; omega) hk.size)) (by omega) (by omega)).mono ?_; rintro e w3 ⟨p3, q3, rfl, X3, h3⟩
         obtain ⟨a3, n3, c3, a3', n3', c3', ep3, eq3⟩ := X3.at.slices
         subst ep3 eq3
         have hz2 := hk.size
         simp only [World.size_alloc] at hz2
         have hz3 := h3.size
         replace hk := hk.on h3
         clear h3 b1 b2 b3)
      | (go_at_call 33; refine (rKnown_any i d (X3.but (Nat.le_refl _)) hz3 (Nat.le_refl _) hl7.out).mono ?_; rintro e w4 ⟨p4, q4, rfl, X4, h4⟩
         obtain ⟨a4, n4, c4, a4', n4', c4', ep4, eq4⟩ := X4.at.slices
         subst ep4 eq4
         replace X4 := X4.new.down hz2
         rw [← st0.out] at X4
         replace hk := hk.on h4
         replace X4 := toHid X4
         clear h4 X3))
    have X5 := toHid ((X4.out.but (Nat.le_refl _)).alloc (.cells #[.int .i64 i, .slice a4 n4 c4, .slice a4' n4' c4'] 25))
    have BX := toHid (Box.new w4 #[.int .i64 i, .slice a4 n4 c4, .slice a4' n4' c4'] 25)
    have hz4 : w.heap.size + 1 + 1 ≤ w4.heap.size := by
      have := hk.size
      simp only [World.size_alloc] at this
      exact this
    have AX := toHid (((B1.out _ _ _).below hk).alloc (.cells #[.int .i64 i, .slice a4 n4 c4, .slice a4' n4' c4'] 25))
    have CX := toHid (((C1.out _ _ _).below hk).alloc (.cells #[.int .i64 i, .slice a4 n4 c4, .slice a4' n4' c4'] 25))
    have hbel := toHid (((((Below.refl _ w).onA _).onA _).on hk).onA (.cells #[.int .i64 i, .slice a4 n4 c4, .slice a4' n4' c4'] 25))
    clear X4 H1 H2 HV B1 C1 hk hl hl7 hdi st0 h47 hl5 hl6 k3 h2
    generalize w4.heap.size = bo at *
    go_loopw [9] (fun j wr => ∃ (k : Nat) (p q : Value), k ≤ ids.length ∧ j = .int .i64 k ∧ Hid (VwBut (w.heap.size + 1 + 1) bo wr p q (st k).1 (st k).2) ∧ Hid (Box wr bo #[.int .i64 i, p, q]) ∧ Hid (Box wr w.heap.size #[.int .i64 i, .slice a ps.length c, .slice a' is.length c']) ∧ Hid (Box wr (w.heap.size + 1) #[.int .i64 0, .slice none 0 0, .slice none 0 0]) ∧ Below w.heap.size w wr) (fun j _ => ids.length - (intOf j).toNat)
    case atStart => exact ⟨0, _, _, Nat.zero_le _, rfl, X5, BX, AX, CX, hbel.out⟩
    case round =>
      clear X5 BX CX AX hbel
      obtain ⟨k, p, q, hk, rfl, X, BX, AX, CX, hbel⟩ := hrel
      obtain ⟨a5, n5, c5, a5', n5', c5', ep5, eq5⟩ := X.out.at.slices
      subst ep5 eq5
      by_cases hlt : k < ids.length
      · obtain ⟨px, cx', ex, -, hcs⟩ := HR.out
        cases ex
        obtain ⟨b, off, rfl, -, hb, h1⟩ := hcs (by omega)
        have c0 := h1 k hlt
        have hst := stS.out k hlt
        have hok := stO.out k
        have hlt' : (k : Int) < (ids.length : Int) := by omega
        clear h1 hcs HR stS stO
        rcases hs : st k with ⟨s1, s2⟩
        rw [hs] at X hst hok
        clear hs
        dsimp only at X
        generalize ids.getD k 0 = z at *
        have c1 := (hbel.cell (p := ⟨b, off + k, none⟩) hb).trans c0
        have hbW : b < wr.heap.size := Nat.lt_of_lt_of_le hb hbel.size
        obtain ⟨b1, b2, b3⟩ := id BX.out
        obtain ⟨a1, a2, a3⟩ := id AX.out
        by_cases hi : z = i
        · subst hi
          have hst' := toHid (hst.trans (hs_skip (.inl rfl)))
          clear hst hok
          go_wp2
          refine wp_region_below (by kernel_rfl) (by kernel_rfl) ?_
          repeat (first
            | go_big_quiet_skip
            | (go_big_quiet_want; go_big_quiet_op; go_big_quiet_on)
            | (refine wpQuiet_step (fun K hK => ?_)
               go_simp
               first
                 | (refine hK _ ?_; clear hK K)
                 | (refine ⟨_, fun w' hw' => rfl, hK _ ?_⟩; clear hK K)
                 | (apply Exists.intro
                    refine ⟨fun w' hw' => ?_, hK _ ?_⟩
                    · (obtain ⟨hc', hf'⟩ := bcell hw'
                       first
                         | (go_simp; rfl))
                    clear hK K)))
          refine wpQuiet_nil ?_
          intro wc hc0
          clear b1 b2 b3 a1 a2 a3 c1
          go_wp2
          go_roundw
          case rel => exact ⟨k + 1, _, _, by omega, by go_num, by rw [hst'.out]; exact toHid (X.out.below hc0), toHid (BX.out.below hc0), toHid (AX.out.below hc0), toHid (CX.out.below hc0), hbel.on hc0⟩
          case measure => simp [intOf]; omega
        · by_cases hq : z ∈ s2
          · have hst' := toHid (hst.trans (hs_skip (.inr (.inl hq))))
            have hz : (z == i) = false := by simpa using hi
            have hzn : (z != i) = true := by simpa using hi
            have HQ := toHid (fun (w' : World) (hw' : Below wr.heap.size wr w') => has_is ((X.out.at.is).below hw' (Nat.le_refl _)) (decide_eq_true hq))
            clear hst hok hq
            go_wp2
            refine wp_region_below (by kernel_rfl) (by kernel_rfl) ?_
            repeat (first
              | go_big_quiet_skip
              | (go_big_quiet_want; go_big_quiet_op; go_big_quiet_on)
              | (refine wpQuiet_step (fun K hK => ?_)
                 go_simp
                 first
                   | (refine hK _ ?_; clear hK K)
                   | (refine ⟨_, fun w' hw' => rfl, hK _ ?_⟩; clear hK K)
                   | (apply Exists.intro
                      refine ⟨fun w' hw' => ?_, hK _ ?_⟩
                      · (obtain ⟨hc', hf'⟩ := bcell hw'
                         first
                           | (go_simp; rfl)
                           | (go_at_call 35; refine (HQ.out _ hw').mono ?_; rintro e w9 ⟨rfl, hw9⟩; subst w9; exact ⟨rfl, hw'⟩))
                      clear hK K)))
            refine wpQuiet_nil ?_
            intro wc hc0
            clear b1 b2 b3 a1 a2 a3 c1
            go_wp2
            go_roundw
            case rel => exact ⟨k + 1, _, _, by omega, by go_num, by rw [hst'.out]; exact toHid (X.out.below hc0), toHid (BX.out.below hc0), toHid (AX.out.below hc0), toHid (CX.out.below hc0), hbel.on hc0⟩
            case measure => simp [intOf]; omega
          · have hlen : s1.length + s2.length ≤ 1024 := Nat.le_trans (ok_size hok) (by omega)
            by_cases hp : z ∈ nmL s1
            · have hst' := toHid (hst.trans (hs_skip (.inr (.inr hp))))
              clear hst hok
              have HP := toHid (fun n => has_is ((X.out.at.is).drewN n) (decide_eq_false hq))
              have HN := toHid (fun n => (rNames_any ((X.out.at.ps).drewN n) (Nat.le_refl _) (by omega)).mono fun e w6 (k : ∃ u, e = .returned u ∧ RowI (wr.drewN n).heap.size w6.heap.size w6 u (nmL s1) ∧ Below (wr.drewN n).heap.size (wr.drewN n) w6) => (by
                obtain ⟨u, he, R6, hb⟩ := k
                exact ⟨u, he, R6, ((Below.refl _ wr).onD n).on hb⟩ : ∃ u, e = .returned u ∧ RowI wr.heap.size w6.heap.size w6 u (nmL s1) ∧ Below wr.heap.size wr w6))
              have g0 := b2 0
              have g1 := b2 1
              have g2 := b2 2
              have g3 := a2 0
              simp at g0 g1 g2 g3
              have hz : (z == i) = false := by simpa using hi
              have hzn : (z != i) = true := by simpa using hi
              have t1 := trivial
              clear b2 b3 a2 a3
              go_wp2
              go_region_held3 (fun w' => w'.cell? ⟨bo, 1, none⟩ = some (.slice a5 n5 c5) ∧ w'.cell? ⟨bo, 2, none⟩ = some (.slice a5' n5' c5') ∧ w'.cell? ⟨w.heap.size, 0, none⟩ = some (.int .i64 i) ∧ w'.cell? ⟨b, off + k, none⟩ = some (.int .i64 z)) (go_keep) (first
                | (go_at_call 35; clear t1; refine (HP.out _).mono ?_; rintro e w' ⟨rfl, hw'⟩; subst w')
                | (go_at_call 19; refine (HN.out _).mono ?_; rintro e w6 ⟨u, rfl, R6, h6⟩
                   have u0 := (h6.cell (p := ⟨bo, 0, none⟩) b1).trans g0
                   have u1 := (h6.cell (p := ⟨bo, 1, none⟩) b1).trans g1
                   have u2 := (h6.cell (p := ⟨bo, 2, none⟩) b1).trans g2
                   have u3 := (h6.cell (p := ⟨w.heap.size, 0, none⟩) a1).trans g3
                   have u4 := (h6.cell (p := ⟨b, off + k, none⟩) hbW).trans c1)
                | (go_at_call 35; refine (has_is R6 (decide_eq_true hp)).mono ?_; rintro e w' ⟨rfl, hw'⟩; subst w'))
              clear u0 u1 u2 u3 u4 g0 g1 g2 g3 c1 R6
              have hc0 := h6
              clear h6
              go_wp2
              go_roundw
              case rel => exact ⟨k + 1, _, _, by omega, by go_num, by rw [hst'.out]; exact toHid (X.out.below hc0), toHid (BX.out.below hc0), toHid (AX.out.below hc0), toHid (CX.out.below hc0), hbel.on hc0⟩
              case measure => simp [intOf]; omega
            · have hst' := toHid (hst.trans (hs_take (fun e => by rcases e with e | e | e; exact hi e; exact hq e; exact hp e)))
              have hbo : bo ≤ wr.heap.size := Nat.le_of_lt b1
              have hbs : w.heap.size + 1 + 1 ≤ wr.heap.size := Nat.le_trans hz4 hbo
              have HH := toHid (fun (w6 : World) (h6 : Below wr.heap.size wr w6) (n : Nat) => (rKnown_any i z ((X.out.below h6).drewN n) (Nat.le_trans hbs h6.size) (Nat.le_trans hbo h6.size) hlen).mono fun e w7 (k : ∃ p' q', e = .returned (.agg #[.int .i64 i, p', q']) ∧ VwBut (w.heap.size + 1 + 1) bo w7 p' q' (knS i (s1, s2) z).1 (knS i (s1, s2) z).2 ∧ Below (w6.drewN n).heap.size (w6.drewN n) w7) => (by
                obtain ⟨p', q', he, X7, hb⟩ := k
                obtain ⟨a7, n7, c7, a7', n7', c7', ep7, eq7⟩ := X7.at.slices
                subst ep7 eq7
                exact ⟨a7, n7, c7, a7', n7', c7', he, X7, ((Below.refl _ w6).onD n).on hb⟩ : ∃ a7 n7 c7 a7' n7' c7', e = .returned (.agg #[.int .i64 i, .slice a7 n7 c7, .slice a7' n7' c7']) ∧ VwBut (w.heap.size + 1 + 1) bo w7 (.slice a7 n7 c7) (.slice a7' n7' c7') (knS i (s1, s2) z).1 (knS i (s1, s2) z).2 ∧ Below w6.heap.size w6 w7))
              have f0 := b3 0
              have f1 := b3 1
              have f2 := b3 2
              clear hst hok hbs hbo
              have HP := toHid (fun n => has_is ((X.out.at.is).drewN n) (decide_eq_false hq))
              have HN := toHid (fun n => (rNames_any ((X.out.at.ps).drewN n) (Nat.le_refl _) (by omega)).mono fun e w6 (k : ∃ u, e = .returned u ∧ RowI (wr.drewN n).heap.size w6.heap.size w6 u (nmL s1) ∧ Below (wr.drewN n).heap.size (wr.drewN n) w6) => (by
                obtain ⟨u, he, R6, hb⟩ := k
                exact ⟨u, he, R6, ((Below.refl _ wr).onD n).on hb⟩ : ∃ u, e = .returned u ∧ RowI wr.heap.size w6.heap.size w6 u (nmL s1) ∧ Below wr.heap.size wr w6))
              have g0 := b2 0
              have g1 := b2 1
              have g2 := b2 2
              have g3 := a2 0
              simp at g0 g1 g2 g3
              have hz : (z == i) = false := by simpa using hi
              have hzn : (z != i) = true := by simpa using hi
              have t1 := trivial
              clear b2 b3 a2 a3
              go_wp2
              go_region_held3 (fun w' => w'.cell? ⟨bo, 1, none⟩ = some (.slice a5 n5 c5) ∧ w'.cell? ⟨bo, 2, none⟩ = some (.slice a5' n5' c5') ∧ w'.cell? ⟨w.heap.size, 0, none⟩ = some (.int .i64 i) ∧ w'.cell? ⟨b, off + k, none⟩ = some (.int .i64 z)) (go_keep) (first
                | (go_at_call 35; clear t1; refine (HP.out _).mono ?_; rintro e w' ⟨rfl, hw'⟩; subst w')
                | (go_at_call 19; refine (HN.out _).mono ?_; rintro e w6 ⟨u, rfl, R6, h6⟩
                   have u0 := (h6.cell (p := ⟨bo, 0, none⟩) b1).trans g0
                   have u1 := (h6.cell (p := ⟨bo, 1, none⟩) b1).trans g1
                   have u2 := (h6.cell (p := ⟨bo, 2, none⟩) b1).trans g2
                   have u3 := (h6.cell (p := ⟨w.heap.size, 0, none⟩) a1).trans g3
                   have u4 := (h6.cell (p := ⟨b, off + k, none⟩) hbW).trans c1)
                | (go_at_call 35; refine (has_is R6 (decide_eq_false hp)).mono ?_; rintro e w' ⟨rfl, hw'⟩; subst w'))
              have HH' := toHid (HH.out w6 h6)
              have v0 := (h6.frozen (p := ⟨bo, 0, none⟩) b1).trans f0
              have v1 := (h6.frozen (p := ⟨bo, 1, none⟩) b1).trans f1
              have v2 := (h6.frozen (p := ⟨bo, 2, none⟩) b1).trans f2
              have hb6 : bo < w6.heap.size := Nat.lt_of_lt_of_le b1 h6.size
              have hb7 : b < w6.heap.size := Nat.lt_of_lt_of_le hbW h6.size
              clear HH g0 g1 g2 g3 f0 f1 f2 c1 R6 u3
              go_wp2
              go_region_with (first
                | (go_at_call 33; refine (HH'.out _).mono ?_; rintro e w7 ⟨a7, n7, c7, a7', n7', c7', rfl, X7, h7⟩
                   have y0 := (h7.cell (p := ⟨bo, 0, none⟩) hb6).trans u0
                   have y1 := (h7.cell (p := ⟨bo, 1, none⟩) hb6).trans u1
                   have y2 := (h7.cell (p := ⟨bo, 2, none⟩) hb6).trans u2
                   have x0 := (h7.frozen (p := ⟨bo, 0, none⟩) hb6).trans v0
                   have x1 := (h7.frozen (p := ⟨bo, 1, none⟩) hb6).trans v1
                   have x2 := (h7.frozen (p := ⟨bo, 2, none⟩) hb6).trans v2))
              all_goals
                have hB7 := h6.on h7
                have hS7 := toHid ((((Only.refl bo (bo + 1) w7).setCell (o := 0) (Nat.le_refl _) (by omega) (.int .i64 i)).setCell (b := bo) (o := 1) (Nat.le_refl _) (by omega) (.slice a7 n7 c7)).setCell (b := bo) (o := 2) (Nat.le_refl _) (by omega) (.slice a7' n7' c7'))
                have BX7 := toHid ((((BX.out.below hB7).setS (ys := #[.int .i64 i, .slice a5 n5 c5, .slice a5' n5' c5']) 0 (.int .i64 i) (by simp) (by simp)).setS (ys := #[.int .i64 i, .slice a7 n7 c7, .slice a5' n5' c5']) 1 (.slice a7 n7 c7) (by simp) (by simp)).setS (ys := #[.int .i64 i, .slice a7 n7 c7, .slice a7' n7' c7']) 2 (.slice a7' n7' c7') (by simp) (by simp))
                have AX7 := toHid ((((AX.out.below hB7).setO bo 0 (.int .i64 i) (by omega)).setO bo 1 (.slice a7 n7 c7) (by omega)).setO bo 2 (.slice a7' n7' c7') (by omega))
                have CX7 := toHid ((((CX.out.below hB7).setO bo 0 (.int .i64 i) (by omega)).setO bo 1 (.slice a7 n7 c7) (by omega)).setO bo 2 (.slice a7' n7' c7') (by omega))
                have hbel7 := toHid ((hbel.on hB7).trans (hS7.out.below.mono (by omega)))
                have X8 := toHid (X7.set hS7.out)
                clear y0 y1 y2 x0 x1 x2 u0 u1 u2 u4 v0 v1 v2 X7 hS7 BX CX AX hB7 X h6 h7 HH' HP HN
                go_wp2
                go_roundw
                case rel => exact ⟨k + 1, _, _, by omega, by go_num, by rw [hst'.out]; exact X8, BX7, AX7, CX7, hbel7.out⟩
                case measure => simp [intOf]; omega
      · obtain rfl : k = ids.length := by omega
        obtain ⟨b1, b2, b3⟩ := id BX.out
        obtain ⟨d1, d2, d3⟩ := id CX.out
        clear HR stS stO
        go_wp2
        have hS := toHid ((((Only.refl (w.heap.size + 1) (w.heap.size + 1 + 1) wr).setCell (o := 0) (Nat.le_refl _) (by omega) (.int .i64 i)).setCell (b := w.heap.size + 1) (o := 1) (Nat.le_refl _) (by omega) (.slice a5 n5 c5)).setCell (b := w.heap.size + 1) (o := 2) (Nat.le_refl _) (by omega) (.slice a5' n5' c5'))
        refine bodyPost_ret (v := .tuple #[.agg #[.int .i64 i, .slice a5 n5 c5, .slice a5' n5' c5'], .int .i64 0]) (by simp [results, Try.results13, go_sem, d2]) rfl ?_
        exact ⟨_, _, rfl, (X.out.new.only hS.out (Nat.le_refl _)).down (by omega), hbel.trans (hS.out.below.mono (by omega))⟩
  · obtain ⟨e1, e2, e3⟩ := he_no hB
    rw [e1, e2, e3]
    clear e1 e2 e3 HV HR
    dsimp only
    rcases Bool.eq_false_or_eq_true (vwB i ps is) with h1 | h1
    · rw [h1] at H1
      rcases Bool.eq_false_or_eq_true (plB d) with h2 | h2
      · by_cases h3 : d = i
        · subst h3
          have hdi : (d == d) = true := by simp
          clear hB h1 H2
          go_enter Try.func13, Try.ntmps13
          go_wp2_with (first
            | (go_at_call 23; refine (H1.out _ _).mono ?_; rintro e w1 ⟨rfl, hk⟩
               obtain ⟨b1, b2, b3⟩ := (B1.out _ _ _).below hk
               obtain ⟨d1, d2, d3⟩ := (C1.out _ _ _).below hk)
            | (go_at_call 31; refine (rPlaceMay_is h2 _).mono ?_; rintro e w' ⟨rfl, hw'⟩; subst w'))
          have hS := toHid ((((Only.refl (w.heap.size + 1) (w.heap.size + 1 + 1) w1).setCell (o := 0) (Nat.le_refl _) (by omega) (.int .i64 0)).setCell (b := w.heap.size + 1) (o := 1) (Nat.le_refl _) (by omega) (.slice none 0 0)).setCell (b := w.heap.size + 1) (o := 2) (Nat.le_refl _) (by omega) (.slice none 0 0))
          have hB := (((Below.refl _ w).onA _).onA _).on hk
          refine bodyPost_ret (v := .tuple #[.agg #[.int .i64 0, .slice none 0 0, .slice none 0 0], .int .i64 1000]) (by simp [results, Try.results13, go_sem, d2]) rfl ?_
          exact ⟨_, _, rfl, VwNew.nil _ _, hB.trans (hS.out.below.mono (by omega))⟩
        · have hdi : (d == i) = false := by simpa using h3
          rcases Bool.eq_false_or_eq_true (plsB ids) with h4 | h4
          · rw [h4] at H2
            have hl5 : (16 : Int) < (ids.length : Int) := by
              rcases Nat.lt_or_ge 16 ids.length with e | e
              · omega
              · have e' : heB i (ps, is) d ids = true := heB_iff.2 ⟨h1, h2, h3, h4, e⟩
                rw [e'] at hB
                cases hB
            have hl6 : decide ((16 : Int) < (ids.length : Int)) = true := decide_eq_true hl5
            clear hB h1
            go_enter Try.func13, Try.ntmps13
            go_wp2_with (first
              | (go_at_call 23; refine (H1.out _ _).mono ?_; rintro e w1 ⟨rfl, hk⟩
                 obtain ⟨b1, b2, b3⟩ := (B1.out _ _ _).below hk
                 obtain ⟨d1, d2, d3⟩ := (C1.out _ _ _).below hk)
              | (go_at_call 31; refine (rPlaceMay_is h2 _).mono ?_; rintro e w' ⟨rfl, hw'⟩; subst w')
              | (go_at_call 32; refine (H2.out _ _ _ hk).mono ?_; rintro e w' ⟨rfl, hw'⟩; subst w'))
            have hS := toHid ((((Only.refl (w.heap.size + 1) (w.heap.size + 1 + 1) w1).setCell (o := 0) (Nat.le_refl _) (by omega) (.int .i64 0)).setCell (b := w.heap.size + 1) (o := 1) (Nat.le_refl _) (by omega) (.slice none 0 0)).setCell (b := w.heap.size + 1) (o := 2) (Nat.le_refl _) (by omega) (.slice none 0 0))
            have hB := (((Below.refl _ w).onA _).onA _).on hk
            refine bodyPost_ret (v := .tuple #[.agg #[.int .i64 0, .slice none 0 0, .slice none 0 0], .int .i64 1000]) (by simp [results, Try.results13, go_sem, d2]) rfl ?_
            exact ⟨_, _, rfl, VwNew.nil _ _, hB.trans (hS.out.below.mono (by omega))⟩
          · rw [h4] at H2
            clear hB h1
            go_enter Try.func13, Try.ntmps13
            go_wp2_with (first
              | (go_at_call 23; refine (H1.out _ _).mono ?_; rintro e w1 ⟨rfl, hk⟩
                 obtain ⟨b1, b2, b3⟩ := (B1.out _ _ _).below hk
                 obtain ⟨d1, d2, d3⟩ := (C1.out _ _ _).below hk)
              | (go_at_call 31; refine (rPlaceMay_is h2 _).mono ?_; rintro e w' ⟨rfl, hw'⟩; subst w')
              | (go_at_call 32; refine (H2.out _ _ _ hk).mono ?_; rintro e w' ⟨rfl, hw'⟩; subst w'))
            have hS := toHid ((((Only.refl (w.heap.size + 1) (w.heap.size + 1 + 1) w1).setCell (o := 0) (Nat.le_refl _) (by omega) (.int .i64 0)).setCell (b := w.heap.size + 1) (o := 1) (Nat.le_refl _) (by omega) (.slice none 0 0)).setCell (b := w.heap.size + 1) (o := 2) (Nat.le_refl _) (by omega) (.slice none 0 0))
            have hB := (((Below.refl _ w).onA _).onA _).on hk
            refine bodyPost_ret (v := .tuple #[.agg #[.int .i64 0, .slice none 0 0, .slice none 0 0], .int .i64 1000]) (by simp [results, Try.results13, go_sem, d2]) rfl ?_
            exact ⟨_, _, rfl, VwNew.nil _ _, hB.trans (hS.out.below.mono (by omega))⟩
      · clear hB h1 H2
        go_enter Try.func13, Try.ntmps13
        go_wp2_with (first
          | (go_at_call 23; refine (H1.out _ _).mono ?_; rintro e w1 ⟨rfl, hk⟩
             obtain ⟨b1, b2, b3⟩ := (B1.out _ _ _).below hk
             obtain ⟨d1, d2, d3⟩ := (C1.out _ _ _).below hk)
          | (go_at_call 31; refine (rPlaceMay_is h2 _).mono ?_; rintro e w' ⟨rfl, hw'⟩; subst w'))
        have hS := toHid ((((Only.refl (w.heap.size + 1) (w.heap.size + 1 + 1) w1).setCell (o := 0) (Nat.le_refl _) (by omega) (.int .i64 0)).setCell (b := w.heap.size + 1) (o := 1) (Nat.le_refl _) (by omega) (.slice none 0 0)).setCell (b := w.heap.size + 1) (o := 2) (Nat.le_refl _) (by omega) (.slice none 0 0))
        have hB := (((Below.refl _ w).onA _).onA _).on hk
        refine bodyPost_ret (v := .tuple #[.agg #[.int .i64 0, .slice none 0 0, .slice none 0 0], .int .i64 1000]) (by simp [results, Try.results13, go_sem, d2]) rfl ?_
        exact ⟨_, _, rfl, VwNew.nil _ _, hB.trans (hS.out.below.mono (by omega))⟩
    · rw [h1] at H1
      clear hB h1 H2
      go_enter Try.func13, Try.ntmps13
      go_wp2_with (first
        | (go_at_call 23; refine (H1.out _ _).mono ?_; rintro e w1 ⟨rfl, hk⟩
           obtain ⟨b1, b2, b3⟩ := (B1.out _ _ _).below hk
           obtain ⟨d1, d2, d3⟩ := (C1.out _ _ _).below hk))
      have hS := toHid ((((Only.refl (w.heap.size + 1) (w.heap.size + 1 + 1) w1).setCell (o := 0) (Nat.le_refl _) (by omega) (.int .i64 0)).setCell (b := w.heap.size + 1) (o := 1) (Nat.le_refl _) (by omega) (.slice none 0 0)).setCell (b := w.heap.size + 1) (o := 2) (Nat.le_refl _) (by omega) (.slice none 0 0))
      have hB := (((Below.refl _ w).onA _).onA _).on hk
      refine bodyPost_ret (v := .tuple #[.agg #[.int .i64 0, .slice none 0 0, .slice none 0 0], .int .i64 1000]) (by simp [results, Try.results13, go_sem, d2]) rfl ?_
      exact ⟨_, _, rfl, VwNew.nil _ _, hB.trans (hS.out.below.mono (by omega))⟩

end Go.Proofs.Ytgopjjclobgekaa
