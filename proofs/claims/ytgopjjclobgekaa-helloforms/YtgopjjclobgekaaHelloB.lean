
/-
  Contracts of package hello's functions that make views (one who is lost no more; one who is heard; a greeting), at every view: what they return, in new memory, and that no old memory has turned.
-/
import Derived.Test.YtgopjjclobgekaaHelloBox
import Derived.Test.YtgopjjclobgekaaHelloA
import Derived.Test.YtgopjjclobgekaaPeerC
import Derived.Test.YtgopjjclobgekaaPassB
import Derived.Deep.RegionHeld3
namespace Go.Proofs.Ytgopjjclobgekaa
open Go.ChangeShapes Go.WideShapes Go.ChangeAt Go.RowKit

set_option maxHeartbeats 1000000 in
theorem hFound_any {lo hi : Nat} {w : World} {p q : Value} {ps : List Pe} {is : List Int} (i d : Int) (h : VwAt lo hi w p q ps is) (hh : hi ≤ w.heap.size) (hl : ps.length ≤ 16) :
    Calls Try.prog 29 #[.agg #[.int .i64 i, p, q], .int .i64 d] w fun e w' => ∃ p' q', e = .returned (.agg #[.int .i64 i, p', q']) ∧ VwNew w.heap.size w' p' q' ps (woL is d) ∧ Below w.heap.size w w' := by
  have H1 := toHid (fun o1 o2 : Obj => qWithout_any ((h.is.alloc o1).alloc o2) d)
  have P1 := toHid (fun (o1 o2 : Obj) (w1 : World) (hb : Below ((w.alloc o1).alloc o2).heap.size ((w.alloc o1).alloc o2) w1) => ((h.ps.alloc o1 PeV_len).alloc o2 PeV_len).below hb (Nat.le_trans hh (by simp; omega)))
  have B1 := toHid (fun (o1 : Obj) (cs : Array Value) (t : TypeId) => (Box.new w cs t).alloc o1)
  have C1 := toHid (fun (o1 : Obj) (cs : Array Value) (t : TypeId) => Box.new1 w o1 cs t)
  obtain ⟨a, c, a', c', ep, eq, hn, hn'⟩ := h.shape
  subst ep eq
  clear h
  go_enter Try.func29, Try.ntmps29
  go_wp2_with (first
    | (go_at_call 51; refine (H1.out _ _).mono ?_; rintro e w1 ⟨u1, rfl, Q1, h1⟩))
  have B2 := (B1.out _ _ _).below h1
  have C2 := (C1.out _ _ _).below h1
  have HC := toHid (fun n => (pClone_any ((P1.out _ _ _ h1).drewN n) (by omega)).mono fun e w5 (k : ∃ u, e = .returned u ∧ w5.ownsRow (w1.drewN n).heap.size 42 2 u ps.length (ps.flatMap PeV) ∧ Below (w1.drewN n).heap.size (w1.drewN n) w5) => (by
    obtain ⟨u, he, own, hb⟩ := k
    have P5 : RowP w1.heap.size w5.heap.size w5 u ps := RowC.of_owns (by omega) PeV_len own
    obtain ⟨a2, c2, e2, -⟩ := id P5
    exact ⟨a2, c2, e2 ▸ he, e2 ▸ P5, ((Below.refl _ w1).onD n).on hb⟩ : ∃ a2 c2, e = .returned (.slice a2 ps.length c2) ∧ RowP w1.heap.size w5.heap.size w5 (.slice a2 ps.length c2) ps ∧ Below w1.heap.size w1 w5))
  obtain ⟨a1, c1, rfl, -⟩ := id Q1
  have s0 := B2.2.1 0
  have s1 := B2.2.1 1
  have s2 := B2.2.1 2
  simp at s0 s1 s2
  have hz := h1.size
  simp only [World.size_alloc] at hz
  have r0 := C2.2.1 0
  have r1 := C2.2.1 1
  have r2 := C2.2.1 2
  simp at r0 r1 r2
  have hcw : w.heap.size + 1 < w1.heap.size := C2.1
  replace C2 := toHid C2
  have hbw : w.heap.size < w1.heap.size := B2.1
  clear H1 P1 B1 C1 B2
  go_wp2
  go_region_held3 (fun w' => w'.cell? ⟨w.heap.size, 0, none⟩ = some (.int .i64 i) ∧ w'.cell? ⟨w.heap.size, 1, none⟩ = some (.slice a ps.length c) ∧ w'.cell? ⟨w.heap.size, 2, none⟩ = some (.slice a' is.length c')) (go_keep) (first
    | (go_at_call 52; refine (HC.out _).mono ?_; rintro e w5 ⟨a2, c2, rfl, P5, hbr5⟩
       have t0 := (hbr5.cell (p := ⟨w.heap.size, 0, none⟩) hbw).trans s0
       have t1 := (hbr5.cell (p := ⟨w.heap.size, 1, none⟩) hbw).trans s1
       have t2 := (hbr5.cell (p := ⟨w.heap.size, 2, none⟩) hbw).trans s2
       have k0 := (hbr5.cell (p := ⟨w.heap.size + 1, 0, none⟩) hcw).trans r0
       have k1 := (hbr5.cell (p := ⟨w.heap.size + 1, 1, none⟩) hcw).trans r1
       have k2 := (hbr5.cell (p := ⟨w.heap.size + 1, 2, none⟩) hcw).trans r2
       have f0 := (hbr5.frozen (p := ⟨w.heap.size + 1, 0, none⟩) hcw).trans (C2.out.2.2 0)
       have f1 := (hbr5.frozen (p := ⟨w.heap.size + 1, 1, none⟩) hcw).trans (C2.out.2.2 1)
       have f2 := (hbr5.frozen (p := ⟨w.heap.size + 1, 2, none⟩) hcw).trans (C2.out.2.2 2)))
  go_wp2
  have hS := toHid ((((Only.refl (w.heap.size + 1) (w.heap.size + 1 + 1) w5).setCell (o := 0) (Nat.le_refl _) (by omega) (.int .i64 i)).setCell (b := w.heap.size + 1) (o := 1) (Nat.le_refl _) (by omega) (.slice a2 ps.length c2)).setCell (b := w.heap.size + 1) (o := 2) (Nat.le_refl _) (by omega) (.slice a1 (woL is d).length c1))
  have hz5 := hS.out.size
  have hz6 := hbr5.size
  refine bodyPost_ret (v := .agg #[.int .i64 i, .slice a2 ps.length c2, .slice a1 (woL is d).length c1]) (by simp [results, Try.results29, go_sem, k0, k1, k2]) rfl ?_
  refine ⟨_, _, rfl, ⟨w1.heap.size, w5.heap.size, w.heap.size + 1 + 1, w1.heap.size, P5.only hS.out (.inr (by omega)), ((Q1.wide (by simp) (Nat.le_refl _)).below hbr5 (Nat.le_refl _)).only hS.out (.inr (by omega)), by omega, by omega, by omega, by omega, .inr (Nat.le_refl _)⟩, ?_⟩
  exact (((((Below.refl _ w).onA _).onA _).on h1).on hbr5).trans (hS.out.below.mono (by omega))

set_option maxHeartbeats 1000000 in
/-- One is heard; nothing, if it is one too many. -/
theorem hHeard_any {base b : Nat} {w : World} {p q : Value} {ps : List Pe} {is : List Int} (i d : Int) (h : VwBut base b w p q ps is) (hb : base ≤ w.heap.size) (hbw : b ≤ w.heap.size) (hl : ps.length + is.length ≤ 1024) :
    Calls Try.prog 28 #[.agg #[.int .i64 i, p, q], .int .i64 d] w fun e w' => ∃ p', e = .returned (.agg #[.int .i64 i, p', q]) ∧ VwBut base b w' p' q (hrL i (ps, is) d) is ∧ Below w.heap.size w w' := by
  have H1 := toHid (fun o1 o2 : Obj => hPeer_any i d ((h.alloc o1).alloc o2).at (Nat.le_refl _))
  have H2 := toHid (fun (o1 o2 : Obj) (w1 : World) (hb : Below ((w.alloc o1).alloc o2).heap.size ((w.alloc o1).alloc o2) w1) => hFull_any i (((h.alloc o1).alloc o2).below hb).at hl)
  have H3 := toHid (fun (o1 o2 : Obj) (w1 : World) (hb : Below ((w.alloc o1).alloc o2).heap.size ((w.alloc o1).alloc o2) w1) => (pHeard_any (((h.alloc o1).alloc o2).below hb).at.ps (Nat.le_refl _) i d).mono fun e w2 (k : ∃ o, e = .returned (.tuple #[o, .int .i64 (hdE i ps d)]) ∧ RowP w1.heap.size w2.heap.size w2 o (hdL i ps d) ∧ Below w1.heap.size w1 w2) => (by
    obtain ⟨u, he, P5, hb⟩ := k
    obtain ⟨a2, c2, e2, -⟩ := id P5
    exact ⟨a2, c2, e2 ▸ he, e2 ▸ P5, hb⟩ : ∃ a2 c2, e = .returned (.tuple #[.slice a2 (hdL i ps d).length c2, .int .i64 (hdE i ps d)]) ∧ RowP w1.heap.size w2.heap.size w2 (.slice a2 (hdL i ps d).length c2) (hdL i ps d) ∧ Below w1.heap.size w1 w2))
  have B1 := toHid (fun (o1 : Obj) (cs : Array Value) (t : TypeId) => (Box.new w cs t).alloc o1)
  have C1 := toHid (fun (o1 : Obj) (cs : Array Value) (t : TypeId) => Box.new1 w o1 cs t)
  obtain ⟨a, c, a', c', ep, eq, hn, hn'⟩ := h.shape
  subst ep eq
  replace h := toHid h
  by_cases hp : d ∈ nmL ps
  · rw [hr_room (.inl hp)]
    rw [decide_eq_true hp] at H1
    clear hp H2 hl
    dsimp only
    generalize hdL i ps d = ys at *
    generalize hdE i ps d = er at *
    go_enter Try.func28, Try.ntmps28
    go_wp2_with (first
      | (go_at_call 48; refine (H1.out _ _).mono ?_; rintro e w1 ⟨rfl, hk⟩
         obtain ⟨b1, b2, b3⟩ := (B1.out _ _ _).below hk)
      | (go_at_call 50; refine (H3.out _ _ _ hk).mono ?_; rintro e w3 ⟨a2, c2, rfl, P3, h3⟩
         have hz3 := hk.size
         simp only [World.size_alloc] at hz3
         replace P3 := toHid P3
         replace hk := hk.on h3
         clear h3 b1 b2 b3
         obtain ⟨b1, b2, b3⟩ := (B1.out _ _ _).below hk
         obtain ⟨d1, d2, d3⟩ := (C1.out _ _ _).below hk))
    have hS := toHid (((((Only.refl w.heap.size (w.heap.size + 1 + 1) w3).setCell (o := 1) (Nat.le_refl _) (by omega) (.slice a2 ys.length c2)).setCell (b := w.heap.size + 1) (o := 0) (by omega) (by omega) (.int .i64 i)).setCell (b := w.heap.size + 1) (o := 1) (by omega) (by omega) (.slice a2 ys.length c2)).setCell (b := w.heap.size + 1) (o := 2) (by omega) (by omega) (.slice a' is.length c'))
    have hB := (((Below.refl _ w).onA _).onA _).on hk
    refine bodyPost_ret (v := .agg #[.int .i64 i, .slice a2 ys.length c2, .slice a' is.length c']) (by simp [results, Try.results28, go_sem, d2]) rfl ?_
    exact ⟨_, rfl, h.out.heard hb hbw hB P3.out hz3 hS.out, hB.trans hS.out.below⟩
  · rw [decide_eq_false hp] at H1
    by_cases hf : 16 ≤ ps.length + is.length
    · rw [hr_full (s := (ps, is)) hp hf]
      rw [decide_eq_true hf] at H2
      clear hp H3 hl hf
      go_enter Try.func28, Try.ntmps28
      go_wp2_with (first
        | (go_at_call 48; refine (H1.out _ _).mono ?_; rintro e w1 ⟨rfl, hk⟩
           obtain ⟨b1, b2, b3⟩ := (B1.out _ _ _).below hk)
        | (go_at_call 49; refine (H2.out _ _ _ hk).mono ?_; rintro e w2 ⟨rfl, h2⟩
           replace hk := hk.on h2
           clear h2 b1 b2 b3
           obtain ⟨b1, b2, b3⟩ := (B1.out _ _ _).below hk
           obtain ⟨d1, d2, d3⟩ := (C1.out _ _ _).below hk))
      have hS := toHid ((((Only.refl (w.heap.size + 1) (w.heap.size + 1 + 1) w2).setCell (o := 0) (Nat.le_refl _) (by omega) (.int .i64 i)).setCell (b := w.heap.size + 1) (o := 1) (Nat.le_refl _) (by omega) (.slice a ps.length c)).setCell (b := w.heap.size + 1) (o := 2) (Nat.le_refl _) (by omega) (.slice a' is.length c'))
      have hB := (((Below.refl _ w).onA _).onA _).on hk
      refine bodyPost_ret (v := .agg #[.int .i64 i, .slice a ps.length c, .slice a' is.length c']) (by simp [results, Try.results28, go_sem, d2]) rfl ?_
      exact ⟨_, rfl, h.out.over hB hS.out (by omega), hB.trans (hS.out.below.mono (by omega))⟩
    · rw [hr_room (s := (ps, is)) (.inr hf)]
      rw [decide_eq_false hf] at H2
      clear hp hl hf
      dsimp only
      generalize hdL i ps d = ys at *
      generalize hdE i ps d = er at *
      go_enter Try.func28, Try.ntmps28
      go_wp2_with (first
        | (go_at_call 48; refine (H1.out _ _).mono ?_; rintro e w1 ⟨rfl, hk⟩
           obtain ⟨b1, b2, b3⟩ := (B1.out _ _ _).below hk)
        | (go_at_call 49; refine (H2.out _ _ _ hk).mono ?_; rintro e w2 ⟨rfl, h2⟩
           replace hk := hk.on h2
           clear h2 b1 b2 b3
           obtain ⟨b1, b2, b3⟩ := (B1.out _ _ _).below hk)
        | (go_at_call 50; refine (H3.out _ _ _ hk).mono ?_; rintro e w3 ⟨a2, c2, rfl, P3, h3⟩
           have hz3 := hk.size
           simp only [World.size_alloc] at hz3
           replace P3 := toHid P3
           replace hk := hk.on h3
           clear h3 b1 b2 b3
           obtain ⟨b1, b2, b3⟩ := (B1.out _ _ _).below hk
           obtain ⟨d1, d2, d3⟩ := (C1.out _ _ _).below hk))
      have hS := toHid (((((Only.refl w.heap.size (w.heap.size + 1 + 1) w3).setCell (o := 1) (Nat.le_refl _) (by omega) (.slice a2 ys.length c2)).setCell (b := w.heap.size + 1) (o := 0) (by omega) (by omega) (.int .i64 i)).setCell (b := w.heap.size + 1) (o := 1) (by omega) (by omega) (.slice a2 ys.length c2)).setCell (b := w.heap.size + 1) (o := 2) (by omega) (by omega) (.slice a' is.length c'))
      have hB := (((Below.refl _ w).onA _).onA _).on hk
      refine bodyPost_ret (v := .agg #[.int .i64 i, .slice a2 ys.length c2, .slice a' is.length c']) (by simp [results, Try.results28, go_sem, d2]) rfl ?_
      exact ⟨_, rfl, h.out.heard hb hbw hB P3.out hz3 hS.out, hB.trans hS.out.below⟩

theorem hNo_is {x : Int} {r : Bool} (h : plB x = r) (w : World) :
    Calls Try.prog 26 #[.int .i64 x] w fun e w' => e = .returned (.bool (!r)) ∧ w' = w := h ▸ hNo_any x w

set_option maxHeartbeats 4000000 in
/-- A greeting. -/
theorem hTake_any {lo hi lo' hi' : Nat} {w : World} {p q x : Value} {ps : List Pe} {is ids : List Int} (i d : Int) (h : VwAt lo hi w p q ps is) (hh : hi ≤ w.heap.size) (R : RowI lo' hi' w x ids) (hh' : hi' ≤ w.heap.size) :
    Calls Try.prog 12 #[.agg #[.int .i64 i, p, q], .int .i64 d, x] w fun e w' => ∃ p' q', e = .returned (.tuple #[.agg #[.int .i64 (heI i (ps, is) d ids), p', q'], .int .i64 (heE i (ps, is) d ids)]) ∧ VwNew w.heap.size w' p' q' (heV i (ps, is) d ids).1 (heV i (ps, is) d ids).2 ∧ Below w.heap.size w w' := by
  have H1 := toHid (fun o1 o2 : Obj => vMay_any i ((h.alloc o1).alloc o2) (Nat.le_trans hh (by simp; omega)))
  have H2 := toHid (fun (o1 o2 : Obj) (w1 : World) (hb : Below ((w.alloc o1).alloc o2).heap.size ((w.alloc o1).alloc o2) w1) => hNamed_any (((R.alloc o1).alloc o2).below hb (Nat.le_trans hh' (by simp; omega))))
  have B1 := toHid (fun (o1 : Obj) (cs : Array Value) (t : TypeId) => (Box.new w cs t).alloc o1)
  have C1 := toHid (fun (o1 : Obj) (cs : Array Value) (t : TypeId) => Box.new1 w o1 cs t)
  have HV := toHid (fun (o1 o2 : Obj) (w1 : World) (hb : Below ((w.alloc o1).alloc o2).heap.size ((w.alloc o1).alloc o2) w1) => ((h.alloc o1).alloc o2).below hb (Nat.le_trans hh (by simp; omega)))
  obtain ⟨a, c, a', c', ep, eq, hn, hn'⟩ := h.shape
  subst ep eq
  clear h
  have HR := toHid (R.ints hh')
  obtain ⟨ax, cx, ex, hlx, hcx, -⟩ := R
  subst ex
  unfold maxLen at hcx
  rcases Bool.eq_false_or_eq_true (heB i (ps, is) d ids) with hB | hB
  · obtain ⟨e1, e2, e3⟩ := he_yes hB
    obtain ⟨st, st0, stO, stS, stN⟩ := he_states hB
    rw [e1, e2, e3, ← stN]
    obtain ⟨k1, k2, k3, k4, k5⟩ := heB_iff.1 hB
    have hrk := hr_known k1 k2
    rw [← st0] at hrk
    have hv : vwB i ps is = true := k1
    have hsz := ok_size k1
    have hl : ps.length + is.length ≤ 16 := hsz
    have hlw : ps.length + (woL is d).length ≤ 1024 := by
      rw [(wo_ok (vwB_iff.1 hv).2.1 k2).1]
      have := List.length_filter_le (neB d) is
      omega
    rw [hv] at H1
    rw [decide_eq_true k5, k4] at H2
    have HS : Hid (∀ k, k < ids.length → plB (ids.getD k 0) = true) := toHid fun k hk => by
      rw [getD_in _ _ hk]
      exact plsB_mem k4 _ (List.getElem_mem hk)
    have hdi : (d == i) = false := by simpa using k3
    have hE : Hid ((hrL i (ps, woL is d) d) = (st 0).1 ∧ woL is d = (st 0).2) := toHid ⟨congrArg Prod.fst hrk, congrArg Prod.snd hrk⟩
    replace stO := toHid stO
    replace stS := toHid stS
    clear e1 e2 e3 stN st0 hB k1 k4 hrk hv hsz
    go_enter Try.func12, Try.ntmps12
    go_wp2_with (first
      | (go_at_call 25; refine (H1.out _ _).mono ?_; rintro e w1 ⟨rfl, hk⟩
         obtain ⟨b1, b2, b3⟩ := (B1.out _ _ _).below hk)
      | (go_at_call 26; refine (hNo_is k2 _).mono ?_; rintro e w' ⟨rfl, hw'⟩; subst w')
      | (go_at_call 27; refine (H2.out _ _ _ hk).mono ?_; rintro e w2 ⟨rfl, h2⟩
         replace hk := hk.on h2
         clear h2 b1 b2 b3
         obtain ⟨b1, b2, b3⟩ := (B1.out _ _ _).below hk)
      | (go_at_call 29; refine (hFound_any i d (HV.out _ _ _ hk) (Nat.le_trans hh (Nat.le_trans (by simp; omega) hk.size)) (by omega)).mono ?_; rintro e w3 ⟨p3, q3, rfl, X3, h3⟩
         obtain ⟨a3, n3, c3, a3', n3', c3', ep3, eq3⟩ := X3.at.slices
         subst ep3 eq3
         have hz2 := hk.size
         simp only [World.size_alloc] at hz2
         have hz3 := h3.size
         replace hk := hk.on h3
         clear h3 b1 b2 b3)
      | (go_at_call 28; refine (hHeard_any i d (X3.but (Nat.le_refl _)) hz3 (Nat.le_refl _) hlw).mono ?_; rintro e w4 ⟨p4, rfl, X4, h4⟩
         obtain ⟨a4, n4, c4, a4', n4', c4', ep4, eq4⟩ := X4.at.slices
         subst ep4
         replace X4 := X4.new.down hz2
         rw [hE.out.1, hE.out.2] at X4
         replace hk := hk.on h4
         replace X4 := toHid X4
         clear h4 X3 eq4))
    have X5 := toHid ((X4.out.but (Nat.le_refl _)).alloc (.cells #[.int .i64 i, .slice a4 n4 c4, .slice a3' n3' c3'] 25))
    have BX := toHid (Box.new w4 #[.int .i64 i, .slice a4 n4 c4, .slice a3' n3' c3'] 25)
    have hz4 : w.heap.size + 1 + 1 ≤ w4.heap.size := by
      have := hk.size
      simp only [World.size_alloc] at this
      exact this
    have CX := toHid (((C1.out _ _ _).below hk).alloc (.cells #[.int .i64 i, .slice a4 n4 c4, .slice a3' n3' c3'] 25))
    have hbel := toHid (((((Below.refl _ w).onA _).onA _).on hk).onA (.cells #[.int .i64 i, .slice a4 n4 c4, .slice a3' n3' c3'] 25))
    clear X4 H1 H2 HV B1 C1 hk hE hlw hl hdi
    generalize w4.heap.size = bo at *
    go_loopw [37] (fun j wr => ∃ (k : Nat) (p q : Value), k ≤ ids.length ∧ j = .int .i64 k ∧ Hid (VwBut (w.heap.size + 1 + 1) bo wr p q (st k).1 (st k).2) ∧ Hid (Box wr bo #[.int .i64 i, p, q]) ∧ Hid (Box wr (w.heap.size + 1) #[.int .i64 0, .slice none 0 0, .slice none 0 0]) ∧ Below w.heap.size w wr) (fun j _ => ids.length - (intOf j).toNat)
    case atStart => exact ⟨0, _, _, Nat.zero_le _, rfl, X5, BX, CX, hbel.out⟩
    case round =>
      clear X5 BX CX hbel
      obtain ⟨k, p, q, hk, rfl, X, BX, CX, hbel⟩ := hrel
      obtain ⟨a5, n5, c5, a5', n5', c5', ep5, eq5⟩ := X.out.at.slices
      subst ep5 eq5
      by_cases hlt : k < ids.length
      · obtain ⟨px, cx', ex, -, hcs⟩ := HR.out
        cases ex
        obtain ⟨b, off, rfl, -, hb, h1⟩ := hcs (by omega)
        have c1 := (hbel.cell (p := ⟨b, off + k, none⟩) hb).trans (h1 k hlt)
        have hpl := HS.out k hlt
        have hst := stS.out k hlt
        have hok := stO.out k
        have hlt' : (k : Int) < (ids.length : Int) := by omega
        clear h1 hcs HR HS stS stO
        rcases hs : st k with ⟨s1, s2⟩
        rw [hs] at X hst hok
        clear hs
        dsimp only at X
        generalize ids.getD k 0 = z at *
        by_cases hkn : z = i ∨ Kn (s1, s2) z
        · have hst' : st (k + 1) = (s1, s2) := hst.trans (hs_skip hkn)
          have HK := hKnows_any i z X.out.at (Nat.le_refl _)
          rw [decide_eq_true hkn] at HK
          replace hst' := toHid hst'
          obtain ⟨b1, b2, b3⟩ := id BX.out
          clear hst hok hkn hpl
          go_wp2_with (first
            | (go_at_call 30; refine HK.mono ?_; rintro e w6 ⟨rfl, h6⟩))
          go_roundw
          case rel => exact ⟨k + 1, _, _, by omega, by go_num, by rw [hst'.out]; exact toHid (X.out.below h6), toHid (BX.out.below h6), toHid (CX.out.below h6), hbel.on h6⟩
          case measure => simp [intOf]; omega
        · have hst' : st (k + 1) = (hrL i (s1, s2) z, s2) := hst.trans (hr_step hok hpl hkn).symm
          have HK := hKnows_any i z X.out.at (Nat.le_refl _)
          rw [decide_eq_false hkn] at HK
          replace hst' := toHid hst'
          obtain ⟨b1, b2, b3⟩ := id BX.out
          have hlen : s1.length + s2.length ≤ 1024 := Nat.le_trans (ok_size hok) (by omega)
          have hbo : bo ≤ wr.heap.size := Nat.le_of_lt BX.out.1
          have hbs : w.heap.size + 1 + 1 ≤ wr.heap.size := Nat.le_trans hz4 hbo
          have HH := toHid (fun (w6 : World) (h6 : Below wr.heap.size wr w6) => hHeard_any i z (X.out.below h6) (Nat.le_trans hbs h6.size) (Nat.le_trans hbo h6.size) hlen)
          clear hst hok hkn hpl hlen hbs hbo
          go_wp2_with (first
            | (go_at_call 30; refine HK.mono ?_; rintro e w6 ⟨rfl, h6⟩
               clear b1 b2 b3
               obtain ⟨b1, b2, b3⟩ := BX.out.below h6)
            | (go_at_call 28; refine (HH.out _ h6).mono ?_; rintro e w7 ⟨p7, rfl, X7, h7⟩
               obtain ⟨a7, n7, c7, a7', n7', c7', ep7, eq7⟩ := X7.at.slices
               subst ep7
               clear eq7
               have hB7 := toHid (h6.on h7)
               replace X7 := toHid X7
               clear h7 h6 b1 b2 b3
               obtain ⟨b1, b2, b3⟩ := BX.out.below hB7.out))
          have hS7 := toHid ((((Only.refl bo (bo + 1) w7).setCell (o := 0) (Nat.le_refl _) (by omega) (.int .i64 i)).setCell (b := bo) (o := 1) (Nat.le_refl _) (by omega) (.slice a7 n7 c7)).setCell (b := bo) (o := 2) (Nat.le_refl _) (by omega) (.slice a5' n5' c5'))
          have BX7 := toHid ((((BX.out.below hB7.out).setS (ys := #[.int .i64 i, .slice a5 n5 c5, .slice a5' n5' c5']) 0 (.int .i64 i) (by simp) (by simp)).setS (ys := #[.int .i64 i, .slice a7 n7 c7, .slice a5' n5' c5']) 1 (.slice a7 n7 c7) (by simp) (by simp)).setS (ys := #[.int .i64 i, .slice a7 n7 c7, .slice a5' n5' c5']) 2 (.slice a5' n5' c5') (by simp) (by simp))
          have CX7 := toHid ((((CX.out.below hB7.out).setO bo 0 (.int .i64 i) (by omega)).setO bo 1 (.slice a7 n7 c7) (by omega)).setO bo 2 (.slice a5' n5' c5') (by omega))
          have hbel7 := toHid ((hbel.on hB7.out).trans (hS7.out.below.mono (by omega)))
          have X8 := toHid (X7.out.set hS7.out)
          clear b1 b2 b3 X7 hS7 BX CX hB7 X
          go_wp2
          go_roundw
          case rel => exact ⟨k + 1, _, _, by omega, by go_num, by rw [hst'.out]; exact X8, BX7, CX7, hbel7.out⟩
          case measure => simp [intOf]; omega
      · obtain rfl : k = ids.length := by omega
        obtain ⟨b1, b2, b3⟩ := id BX.out
        obtain ⟨d1, d2, d3⟩ := id CX.out
        clear HR HS stS stO
        go_wp2
        have hS := toHid ((((Only.refl (w.heap.size + 1) (w.heap.size + 1 + 1) wr).setCell (o := 0) (Nat.le_refl _) (by omega) (.int .i64 i)).setCell (b := w.heap.size + 1) (o := 1) (Nat.le_refl _) (by omega) (.slice a5 n5 c5)).setCell (b := w.heap.size + 1) (o := 2) (Nat.le_refl _) (by omega) (.slice a5' n5' c5'))
        refine bodyPost_ret (v := .tuple #[.agg #[.int .i64 i, .slice a5 n5 c5, .slice a5' n5' c5'], .int .i64 0]) (by simp [results, Try.results12, go_sem, d2]) rfl ?_
        exact ⟨_, _, rfl, (X.out.new.only hS.out (Nat.le_refl _)).down (by omega), hbel.trans (hS.out.below.mono (by omega))⟩
  · obtain ⟨e1, e2, e3⟩ := he_no hB
    rw [e1, e2, e3]
    clear e1 e2 e3 HV HR
    dsimp only
    rcases Bool.eq_false_or_eq_true (vwB i ps is) with h1 | h1
    · rw [h1] at H1
      rcases Bool.eq_false_or_eq_true (plB d) with h2 | h2
      · by_cases h3 : d = i
        · subst h3
          have hdi : (d == d) = true := by simp
          clear hB h1 H2
          go_enter Try.func12, Try.ntmps12
          go_wp2_with (first
            | (go_at_call 25; refine (H1.out _ _).mono ?_; rintro e w1 ⟨rfl, hk⟩
               obtain ⟨b1, b2, b3⟩ := (B1.out _ _ _).below hk
               obtain ⟨d1, d2, d3⟩ := (C1.out _ _ _).below hk)
            | (go_at_call 26; refine (hNo_is h2 _).mono ?_; rintro e w' ⟨rfl, hw'⟩; subst w'))
          have hS := toHid ((((Only.refl (w.heap.size + 1) (w.heap.size + 1 + 1) w1).setCell (o := 0) (Nat.le_refl _) (by omega) (.int .i64 0)).setCell (b := w.heap.size + 1) (o := 1) (Nat.le_refl _) (by omega) (.slice none 0 0)).setCell (b := w.heap.size + 1) (o := 2) (Nat.le_refl _) (by omega) (.slice none 0 0))
          have hB := (((Below.refl _ w).onA _).onA _).on hk
          refine bodyPost_ret (v := .tuple #[.agg #[.int .i64 0, .slice none 0 0, .slice none 0 0], .int .i64 1000]) (by simp [results, Try.results12, go_sem, d2]) rfl ?_
          exact ⟨_, _, rfl, VwNew.nil _ _, hB.trans (hS.out.below.mono (by omega))⟩
        · have hdi : (d == i) = false := by simpa using h3
          have hnm : (decide (ids.length ≤ 16) && plsB ids) = false := by
            rw [Bool.eq_false_iff] at hB ⊢
            intro e
            simp only [Bool.and_eq_true, decide_eq_true_eq] at e
            exact hB (heB_iff.2 ⟨h1, h2, h3, e.2, e.1⟩)
          rw [hnm] at H2
          clear hB h1 hnm
          go_enter Try.func12, Try.ntmps12
          go_wp2_with (first
            | (go_at_call 25; refine (H1.out _ _).mono ?_; rintro e w1 ⟨rfl, hk⟩
               obtain ⟨b1, b2, b3⟩ := (B1.out _ _ _).below hk
               obtain ⟨d1, d2, d3⟩ := (C1.out _ _ _).below hk)
            | (go_at_call 26; refine (hNo_is h2 _).mono ?_; rintro e w' ⟨rfl, hw'⟩; subst w')
            | (go_at_call 27; refine (H2.out _ _ _ hk).mono ?_; rintro e w1 ⟨rfl, h2⟩
               replace hk := hk.on h2
               clear h2 b1 b2 b3 d1 d2 d3
               obtain ⟨b1, b2, b3⟩ := (B1.out _ _ _).below hk
               obtain ⟨d1, d2, d3⟩ := (C1.out _ _ _).below hk))
          have hS := toHid ((((Only.refl (w.heap.size + 1) (w.heap.size + 1 + 1) w1).setCell (o := 0) (Nat.le_refl _) (by omega) (.int .i64 0)).setCell (b := w.heap.size + 1) (o := 1) (Nat.le_refl _) (by omega) (.slice none 0 0)).setCell (b := w.heap.size + 1) (o := 2) (Nat.le_refl _) (by omega) (.slice none 0 0))
          have hB := (((Below.refl _ w).onA _).onA _).on hk
          refine bodyPost_ret (v := .tuple #[.agg #[.int .i64 0, .slice none 0 0, .slice none 0 0], .int .i64 1000]) (by simp [results, Try.results12, go_sem, d2]) rfl ?_
          exact ⟨_, _, rfl, VwNew.nil _ _, hB.trans (hS.out.below.mono (by omega))⟩
      · clear hB h1 H2
        go_enter Try.func12, Try.ntmps12
        go_wp2_with (first
          | (go_at_call 25; refine (H1.out _ _).mono ?_; rintro e w1 ⟨rfl, hk⟩
             obtain ⟨b1, b2, b3⟩ := (B1.out _ _ _).below hk
             obtain ⟨d1, d2, d3⟩ := (C1.out _ _ _).below hk)
          | (go_at_call 26; refine (hNo_is h2 _).mono ?_; rintro e w' ⟨rfl, hw'⟩; subst w'))
        have hS := toHid ((((Only.refl (w.heap.size + 1) (w.heap.size + 1 + 1) w1).setCell (o := 0) (Nat.le_refl _) (by omega) (.int .i64 0)).setCell (b := w.heap.size + 1) (o := 1) (Nat.le_refl _) (by omega) (.slice none 0 0)).setCell (b := w.heap.size + 1) (o := 2) (Nat.le_refl _) (by omega) (.slice none 0 0))
        have hB := (((Below.refl _ w).onA _).onA _).on hk
        refine bodyPost_ret (v := .tuple #[.agg #[.int .i64 0, .slice none 0 0, .slice none 0 0], .int .i64 1000]) (by simp [results, Try.results12, go_sem, d2]) rfl ?_
        exact ⟨_, _, rfl, VwNew.nil _ _, hB.trans (hS.out.below.mono (by omega))⟩
    · rw [h1] at H1
      clear hB h1 H2
      go_enter Try.func12, Try.ntmps12
      go_wp2_with (first
        | (go_at_call 25; refine (H1.out _ _).mono ?_; rintro e w1 ⟨rfl, hk⟩
           obtain ⟨b1, b2, b3⟩ := (B1.out _ _ _).below hk
           obtain ⟨d1, d2, d3⟩ := (C1.out _ _ _).below hk))
      have hS := toHid ((((Only.refl (w.heap.size + 1) (w.heap.size + 1 + 1) w1).setCell (o := 0) (Nat.le_refl _) (by omega) (.int .i64 0)).setCell (b := w.heap.size + 1) (o := 1) (Nat.le_refl _) (by omega) (.slice none 0 0)).setCell (b := w.heap.size + 1) (o := 2) (Nat.le_refl _) (by omega) (.slice none 0 0))
      have hB := (((Below.refl _ w).onA _).onA _).on hk
      refine bodyPost_ret (v := .tuple #[.agg #[.int .i64 0, .slice none 0 0, .slice none 0 0], .int .i64 1000]) (by simp [results, Try.results12, go_sem, d2]) rfl ?_
      exact ⟨_, _, rfl, VwNew.nil _ _, hB.trans (hS.out.below.mono (by omega))⟩

end Go.Proofs.Ytgopjjclobgekaa
